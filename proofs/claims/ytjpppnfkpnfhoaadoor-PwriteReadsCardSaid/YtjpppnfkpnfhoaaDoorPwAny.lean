/- Law 19: add, of whatever is said; what has been added behind so many. -/
import Derived.Test.YtjpppnfkpnfhoaaDoorPwAdd
import Derived.Test.YtjpppnfkpnfhoaaDoorPwOpn
namespace Go.Proofs.YtjpppnfkpnfhoaaDoor
open Go Go.RowKit
set_option linter.unusedVariables false

theorem addo_any {T : Prop} {B b : Nat} {v : Value} {X : List FD} {w : World} (h : MsgR T w B b v X) (hB : B ≤ w.heap.size) (x : OD) (inner : ByteArray) (hx : OdOk x) (ht : x.2.2.1 = 1 ∨ x.2.2.1 = 5 → T) (hs : x.2.2.2.2.size ≤ 300) (hi : inner.size ≤ 300) (hX : (pB X).length ≤ 1099511627776) (hl : X.length ≤ 1099511627776) :
    Calls Tryd.prog 6 #[.pointer (some ⟨b, 0, none⟩), .agg #[.int .u8 (x.1 : Nat), .int .i64 x.2.1, .int .i64 x.2.2.1, .int .u64 (x.2.2.2.1 : Nat), .string x.2.2.2.2], .string inner] w fun e w' => e = .returned (.tuple #[]) ∧ ∃ v', MsgR T w' B b v' (X ++ opF x.1 x.2.1 x.2.2.1 x.2.2.2.1 x.2.2.2.2 inner) ∧ Below B w w' ∧ AddK b v w w' := by
  obtain ⟨k, n, v0, q, s⟩ := x
  simp only at ht hs ⊢
  have hq : q < 18446744073709551616 := hx.2
  match k with
  | 0 => exact addo_0 h hB n v0 q s inner hq ht hs hi hX hl
  | 1 => exact addo_1 h hB n v0 q s inner hq ht hs hi hX hl
  | 2 => exact addo_2 h hB n v0 q s inner hq ht hs hi hX hl
  | 3 => exact addo_3 h hB n v0 q s inner hq ht hs hi hX hl
  | 4 => exact addo_4 h hB n v0 q s inner hq ht hs hi hX hl
  | k + 5 => exact addo_k h hB (k + 5) (by omega) n v0 q s inner hq ht hs hi hX hl
/-- After j of them. -/
def oAll (l : List OD) : List FD := l.flatMap fun x => opF x.1 x.2.1 x.2.2.1 x.2.2.2.1 x.2.2.2.2 x.2.2.2.2
theorem oAll_next (l : List OD) (j : Nat) (h : j < l.length) : oAll (l.take (j + 1)) = oAll (l.take j) ++ opF l[j].1 l[j].2.1 l[j].2.2.1 l[j].2.2.2.1 l[j].2.2.2.2 l[j].2.2.2.2 := by
  unfold oAll
  rw [List.take_add_one, List.flatMap_append, List.getElem?_eq_getElem h]
  simp
end Go.Proofs.YtjpppnfkpnfhoaaDoor
