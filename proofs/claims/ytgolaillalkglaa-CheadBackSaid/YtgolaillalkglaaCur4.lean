/- Sub, and the calls at a nil cursor. -/
import Derived.Test.YtgolaillalkglaaCur3
namespace Go.Proofs.Ytgolaillalkglaa
open Go Go.RowKit
set_option linter.unusedVariables false






theorem new_cur (s : ByteArray) (w : World) (hs : s.size ≤ 9223372036854775807) :
    Calls Try.prog 7 #[.string s] w fun e w' => ∃ b, e = .returned (.pointer (some ⟨b, 0, none⟩)) ∧ w.heap.size ≤ b ∧ CurT 56 w' b (CS.new s) ∧ Below w.heap.size w w' := by
  refine (new_any s w hs).mono ?_
  rintro e w' ⟨rfl, rfl⟩
  exact ⟨_, rfl, Nat.le_refl _, cur_alloc (c := CS.new s) _, (Below.refl _ _).alloc (Nat.le_refl _) _⟩

end Go.Proofs.Ytgolaillalkglaa
