/- A cursor's bytes that are left, and what its calls make of them. -/
import Derived.Test.YtmcklfndnjagiaaDoorCur4
import Derived.Test.YtmcklfndnjagiaaDoorBts
namespace Go.Proofs.YtmcklfndnjagiaaDoor
open Go Go.RowKit
set_option linter.unusedVariables false

/-- The bytes that are left. -/
def CS.bs (c : CS) : List UInt8 := (c.s.data.toList.take c.en).drop c.at_
def CS.bad (c : CS) (e : Int) : CS := { c with er := e }
theorem CS.bs_length {c : CS} (h : c.ok) : c.bs.length = c.en - c.at_ := by
  obtain ⟨h1, h2, h3⟩ := h
  unfold CS.bs
  rw [List.length_drop, List.length_take, toList_size]; omega
theorem CS.bs_past (c : CS) (k : Nat) : (c.past k).bs = c.bs.drop k := by
  unfold CS.bs CS.past; rw [List.drop_drop]
theorem CS.past_past (c : CS) (j k : Nat) : (c.past j).past k = c.past (j + k) := by unfold CS.past; simp [Nat.add_assoc]
theorem CS.past_zero (c : CS) : c.past 0 = c := rfl
theorem CS.past_fine {c : CS} (h : c.ok) {k : Nat} (hk : k ≤ c.bs.length) : (c.past k).ok := by
  have := CS.bs_length h
  obtain ⟨h1, h2, h3⟩ := h
  exact ⟨by unfold CS.past; simp only; omega, h2, h3⟩
theorem CS.bad_fine {c : CS} (h : c.ok) (e : Int) : (c.bad e).ok := h
theorem CS.fail_good {c : CS} (h : c.er = 0) (k : Int) : c.fail k = c.bad k := by unfold CS.fail CS.bad; rw [if_pos h]
theorem CS.fail_bad {c : CS} (h : ¬ c.er = 0) (k : Int) : c.fail k = c := by unfold CS.fail; rw [if_neg h]
theorem CS.bs_none {c : CS} (h : c.ok) (hb : c.bs = []) : c.peekIs = false ∧ c.peekB = 0 := by
  have hl := CS.bs_length h
  rw [hb] at hl
  have hp : c.peekIs = false := by unfold CS.peekIs; simp at hl; simp; omega
  exact ⟨hp, CS.peekB_no hp⟩
theorem CS.bs_some {c : CS} (h : c.ok) (h0 : c.er = 0) {x : UInt8} {t : List UInt8} (hb : c.bs = x :: t) : c.peekIs = true ∧ c.peekB = x.toNat ∧ (c.past 1).bs = t ∧ (c.past 1).ok := by
  have hl := CS.bs_length h
  rw [hb] at hl
  simp only [List.length_cons] at hl
  have hlt : c.at_ < c.en := by omega
  have hp : c.peekIs = true := by unfold CS.peekIs; simp [h0, hlt]
  refine ⟨hp, ?_, by rw [CS.bs_past, hb]; rfl, CS.past_fine h (by rw [hb]; simp)⟩
  unfold CS.peekB
  rw [if_pos hp]
  have e : c.bs[0]? = some x := by rw [hb]; rfl
  unfold CS.bs at e
  rw [List.getElem?_drop, List.getElem?_take_of_lt (by omega), Nat.add_zero] at e
  have : c.s.data[c.at_]? = some x := by rw [← Array.getElem?_toList]; exact e
  rw [this]; rfl
theorem byte_next {b : Nat} {c : CS} {w : World} (h : CurT 105 w b c) (hc : c.ok) (h0 : c.er = 0) {x : UInt8} {t : List UInt8} (hb : c.bs = x :: t) :
    Calls Tryd.prog 58 #[.pointer (some ⟨b, 0, none⟩)] w fun e w' => e = .returned (.int .u8 (x.toNat : Int)) ∧ CurT 105 w' b (c.past 1) ∧ Only b w w' := by
  obtain ⟨h1, h2, _⟩ := CS.bs_some hc h0 hb
  have := byte_any h hc
  rw [h2, CS.byte_yes h1] at this; exact this
theorem byte_lacks {b : Nat} {c : CS} {w : World} (h : CurT 105 w b c) (hc : c.ok) (h0 : c.er = 0) (hb : c.bs = []) :
    Calls Tryd.prog 58 #[.pointer (some ⟨b, 0, none⟩)] w fun e w' => e = .returned (.int .u8 0) ∧ CurT 105 w' b (c.bad 1) ∧ Only b w w' := by
  obtain ⟨h1, h2⟩ := CS.bs_none hc hb
  have := byte_any h hc
  rw [h2, CS.byte_no hc h1, CS.fail_good h0] at this; exact this
theorem byte_bad {b : Nat} {c : CS} {w : World} (h : CurT 105 w b c) (hc : c.ok) (h0 : ¬ c.er = 0) :
    Calls Tryd.prog 58 #[.pointer (some ⟨b, 0, none⟩)] w fun e w' => e = .returned (.int .u8 0) ∧ CurT 105 w' b c ∧ Only b w w' := by
  have h1 : c.peekIs = false := by unfold CS.peekIs; simp [h0]
  have := byte_any h hc
  rw [CS.peekB_no h1, CS.byte_no hc h1, CS.fail_bad h0] at this; exact this
theorem fail_fresh {b : Nat} {c : CS} {w : World} (h : CurT 105 w b c) (h0 : c.er = 0) (k : Int) :
    Calls Tryd.prog 57 #[.pointer (some ⟨b, 0, none⟩), .int .i64 k] w fun e w' => e = .returned (.tuple #[]) ∧ CurT 105 w' b (c.bad k) ∧ Only b w w' := by
  have := fail_any h k
  rw [CS.fail_good h0] at this; exact this
theorem fail_more {b : Nat} {c : CS} {w : World} (h : CurT 105 w b c) (h0 : ¬ c.er = 0) (k : Int) :
    Calls Tryd.prog 57 #[.pointer (some ⟨b, 0, none⟩), .int .i64 k] w fun e w' => e = .returned (.tuple #[]) ∧ CurT 105 w' b c ∧ Only b w w' := by
  have := fail_any h k
  rw [CS.fail_bad h0] at this; exact this
/-- Where a cursor stands behind a part of k bytes, or with what is wrong. -/
def CAt (c : CS) (k : Nat) (e : Int) (c' : CS) : Prop := c'.ok ∧ c'.s = c.s ∧ c'.en = c.en ∧ c'.er = e ∧ (e = 0 → c' = c.past k)
theorem CAt.past {c : CS} (h : c.ok) (h0 : c.er = 0) {k : Nat} (hk : k ≤ c.bs.length) : CAt c k 0 (c.past k) := ⟨CS.past_fine h hk, rfl, rfl, h0, fun _ => rfl⟩
theorem CAt.bad {c : CS} (h : c.ok) {j : Nat} (hj : j ≤ c.bs.length) (k : Nat) {e : Int} (he : e ≠ 0) : CAt c k e ((c.past j).bad e) := ⟨CS.past_fine h hj, rfl, rfl, rfl, fun h => absurd h he⟩
theorem CAt.bad0 {c : CS} (h : c.ok) (k : Nat) {e : Int} (he : e ≠ 0) : CAt c k e (c.bad e) := ⟨h, rfl, rfl, rfl, fun h => absurd h he⟩
theorem CAt.more {c c' : CS} {j k : Nat} {e : Int} (h : CAt (c.past j) k e c') : CAt c (j + k) e c' := by
  obtain ⟨h1, h2, h3, h4, h5⟩ := h
  exact ⟨h1, h2, h3, h4, fun h => by rw [h5 h, CS.past_past]⟩
theorem CAt.no {c c' : CS} {j k : Nat} {e : Int} (h : CAt c k e c') (he : e ≠ 0) : CAt c j e c' := by
  obtain ⟨h1, h2, h3, h4, h5⟩ := h
  exact ⟨h1, h2, h3, h4, fun h => absurd h he⟩

def atOf (b : Nat) (w : World) : Nat := match w.cell? ⟨b, 1, none⟩ with
  | some (.int _ a) => a.toNat
  | _ => 0
def erOf (b : Nat) (w : World) : Int := match w.cell? ⟨b, 3, none⟩ with
  | some (.int _ a) => a
  | _ => 0
theorem atOf_cur {t : TypeId} {w : World} {b : Nat} {c : CS} (h : CurT t w b c) : atOf b w = c.at_ := by unfold atOf; rw [h.c1]; simp
theorem erOf_cur {t : TypeId} {w : World} {b : Nat} {c : CS} (h : CurT t w b c) : erOf b w = c.er := by unfold erOf; rw [h.c3]
theorem Bts.only {t : TypeId} {w w' : World} {B b : Nat} {v : Value} {l : List UInt8} (h : Bts t w B v l) (ho : Only b w w') (hb : b < B) : Bts t w' B v l := by
  refine ⟨h.1, ?_⟩
  rcases h.2 with h2 | ⟨g, cap, cur, h3, h4, h5, h6⟩
  · exact .inl h2
  · exact .inr ⟨g, cap, cur, h3, h4, (ho.block g (lt_of_block h5) (by omega)).trans h5, h6⟩
theorem only_then {b N : Nat} {w w1 w2 : World} (h : Only b w w1) (h2 : Below N w1 w2) (hN : w.heap.size ≤ N) : Only b w w2 :=
  ⟨h2.os.trans h.os, h2.tape.trans h.tape, h2.output.trans h.output, Nat.le_trans h.size h2.size, fun k hk hb => (h2.block k (by omega)).trans (h.block k hk hb)⟩
theorem tw_eq {p : UInt8 → Bool} {l : List UInt8} {k : Nat} (hk : k ≤ l.length) (h1 : ∀ x ∈ l.take k, p x = true) (h2 : ∀ x t, l.drop k = x :: t → p x = false) : l.takeWhile p = l.take k ∧ (l.takeWhile p).length = k := by
  have e : l.takeWhile p = l.take k := by
    have h3 : l = l.take k ++ l.drop k := (List.take_append_drop k l).symm
    have h4 : (l.drop k).takeWhile p = [] := by
      match hd : l.drop k with
      | [] => rfl
      | x :: t => rw [List.takeWhile_cons, h2 x t hd]; rfl
    have h5 := List.takeWhile_append_of_pos (p := p) (l₁ := l.take k) (l₂ := l.drop k) h1
    rw [List.take_append_drop, h4, List.append_nil] at h5
    exact h5
  exact ⟨e, by rw [e, List.length_take]; omega⟩
theorem peek_next {b : Nat} {c : CS} {w : World} (h : CurT 105 w b c) (hc : c.ok) (h0 : c.er = 0) {x : UInt8} {t : List UInt8} (hb : c.bs = x :: t) :
    Calls Tryd.prog 80 #[.pointer (some ⟨b, 0, none⟩)] w fun e w' => e = .returned (.tuple #[.int .u8 (x.toNat : Int), .bool true]) ∧ CurT 105 w' b c ∧ Below w.heap.size w w' := by
  obtain ⟨h1, h2, _⟩ := CS.bs_some hc h0 hb
  have := peek_any h hc
  rw [h2, h1] at this
  refine this.mono ?_
  rintro e w' ⟨he, n, hw⟩
  rw [hw]
  exact ⟨he, h.drewN n, drew_below w n⟩
theorem peek_none {b : Nat} {c : CS} {w : World} (h : CurT 105 w b c) (hc : c.ok) (hb : c.bs = []) :
    Calls Tryd.prog 80 #[.pointer (some ⟨b, 0, none⟩)] w fun e w' => e = .returned (.tuple #[.int .u8 0, .bool false]) ∧ CurT 105 w' b c ∧ Below w.heap.size w w' := by
  obtain ⟨h1, h2⟩ := CS.bs_none hc hb
  have := peek_any h hc
  rw [h2, h1] at this
  refine this.mono ?_
  rintro e w' ⟨he, n, hw⟩
  rw [hw]
  exact ⟨he, h.drewN n, drew_below w n⟩

end Go.Proofs.YtmcklfndnjagiaaDoor
