/- What was written is read as fields, and laid again as the same bytes. Of no program. -/
import Derived.Test.YtjpppnfkpnfhoaaDoorPwMem
import Derived.Test.YtjpppnfkpnfhoaaDoorPrBkN
import Derived.Test.YtjpppnfkpnfhoaaDoorZJ
namespace Go.Proofs.YtjpppnfkpnfhoaaDoor
open Go Go.RowKit
set_option linter.unusedVariables false

/-- What is kept of a field. -/
def kF (x : FD) : FD := (x.1, x.2.1, kU x.2.1 x.2.2.1, kS x.2.1 x.2.2.2)
theorem pB_read {T : Prop} : ∀ X : List FD, (∀ j (h : j < X.length), FdOk T X[j]) → fAll (pB X) = (X.map kF, 0)
  | [], _ => rfl
  | x :: X, h => by
    have ok : FdOk T x := h 0 (by simp)
    have ih := pB_read X fun j hj => h (j + 1) (by simpa using hj)
    have hb : fAll (pBs x) = ([kF x], 0) := fAll_back ok.tag x.2.2.1 x.2.2.2 ok.num (by have := ok.txt; omega)
    rw [pB_cons, fAll_app (pB X) (pBs x) (by rw [hb]), hb, ih]
    simp
theorem bB_keep {v : Int} (hv : v = 0 ∨ v = 1 ∨ v = 2 ∨ v = 5) (q : Nat) (s : ByteArray) : bB v (kU v q) (kS v s) = bB v q s := by
  rcases hv with rfl | rfl | rfl | rfl
  · rfl
  · rfl
  · rfl
  · show lowL (q % 4294967296) 4 = lowL q 4
    exact lowL_mod 4 q
theorem pBs_keep {T : Prop} {x : FD} (h : FdOk T x) : pBs (kF x) = pBs x := by
  show fB x.1 x.2.1 (kU x.2.1 x.2.2.1) (kS x.2.1 x.2.2.2) = fB x.1 x.2.1 x.2.2.1 x.2.2.2
  unfold fB
  rw [if_pos h.tag, if_pos h.tag, bB_keep (tag_yes h.tag).2.2]
theorem pB_keep {T : Prop} : ∀ X : List FD, (∀ j (h : j < X.length), FdOk T X[j]) → pB (X.map kF) = pB X
  | [], _ => rfl
  | x :: X, h => by
    have ok : FdOk T x := h 0 (by simp)
    rw [List.map_cons, pB_cons, pB_cons, pBs_keep ok, pB_keep X fun j hj => h (j + 1) (by simpa using hj)]
theorem kF_ok {T : Prop} {x : FD} (h : FdOk T x) : (kF x).2.2.1 < 18446744073709551616 ∧ (kF x).2.2.2.size ≤ 1099511627776 := by
  have h1 := h.num
  have h2 := h.txt
  constructor
  · show kU x.2.1 x.2.2.1 < _
    unfold kU
    split
    · omega
    · split
      · omega
      · exact h1
  · show (kS x.2.1 x.2.2.2).size ≤ _
    unfold kS
    split
    · exact h2
    · exact Nat.zero_le _
end Go.Proofs.YtjpppnfkpnfhoaaDoor
