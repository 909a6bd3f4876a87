/- Of arguments of bounded bulk each is of bounded bulk. Of no package. -/
import Derived.Test.YtnbhhnkcfbfdcaaDoorRows
namespace Go.Proofs.YtnbhhnkcfbfdcaaDoor
open Go

theorem bulk_mem {H : Type} : ∀ {ds : List (DataW H)} {d : DataW H}, d ∈ ds → Rows.uptoBulk d ≤ Rows.uptoBulkAll ds
  | [], _, h => by cases h
  | x :: r, d, h => by
    simp only [Rows.uptoBulkAll]
    rcases List.mem_cons.mp h with e | e
    · rw [e]; omega
    · have := bulk_mem e; omega
theorem bulk_le {H : Type} {ds : List (DataW H)} (hk : Rows.uptoSmall H ds = true) {d : DataW H} (hm : d ∈ ds) : Rows.uptoBulk d ≤ 1048576 :=
  Nat.le_trans (bulk_mem hm) (of_decide_eq_true hk)
end Go.Proofs.YtnbhhnkcfbfdcaaDoor
