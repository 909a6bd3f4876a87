/- Several texts in one (Cur3, Cur4, CurB, JtMem): each begins with its own words. -/
import Derived.Test.YtmkcfilgiehjaaaGreatDoorZD
import Derived.Test.YtmkcfilgiehjaaaGreatDoorZA
import Derived.Test.YtmkcfilgiehjaaaGreatDoorZC
import Derived.Deep.MidRow
/- The calls of package cursor that read a part: allows, passText, passCursor, read, Take, Sub. -/
namespace Go.Proofs.YtmkcfilgiehjaaaGreatDoor
open Go Go.RowKit
set_option linter.unusedVariables false

def CS.allow (c : CS) (n : Int) : CS := { c with er := c.why n }
theorem CS.allow_ok {c : CS} (h : c.ok) (n : Int) : (c.allow n).ok := h

theorem allow_neg {c : CS} {n : Int} (h : n < 0) : c.allow n = c.fail 13 := by
  unfold CS.allow CS.fail CS.why
  by_cases h0 : c.er = 0
  · simp [h0, h]
  · simp [h0]
theorem allow_cut {c : CS} {n : Int} (h : ¬ n < 0) (h1 : (c.en : Int) - c.at_ < n) : c.allow n = c.fail 1 := by
  unfold CS.allow CS.fail CS.why
  by_cases h0 : c.er = 0
  · simp [h0, h, h1]
  · simp [h0]
theorem allow_same {c : CS} {n : Int} (h : ¬ n < 0) (h1 : ¬ (c.en : Int) - c.at_ < n) : c.allow n = c := by
  unfold CS.allow CS.why
  by_cases h0 : c.er = 0
  · rw [if_neg (by simp [h0]), if_neg h, if_neg h1, ← h0]
  · rw [if_pos h0]
theorem ret_bool {a b : Bool} (h : a = b) : Ending.returned (.bool a) = .returned (.bool b) := by rw [h]
theorem subIs_eq {c d : CS} {n : Int} (h : c.allow n = d) : (d.er == 0) = c.subIs n := by
  rw [← h]; unfold CS.subIs CS.allow; rw [Bool.eq_iff_iff]; simp

theorem allows_any {b : Nat} {c : CS} {w : World} (h : CurT 110 w b c) (hc : c.ok) (n : Int) :
    Calls Tryz.prog 153 #[.pointer (some ⟨b, 0, none⟩), .int .i64 n] w fun e w' => e = .returned (.bool (c.subIs n)) ∧ CurT 110 w' b (c.allow n) ∧ Only b w w' := by
  by_cases h0 : n < 0
  · have HR := Lib.hid (allow_neg (c := c) h0)
    have hd : decide (n < 0) = true := by simp [h0]
    clear h0
    go_enter Tryz.func153, Tryz.ntmps153
    go_wp2_with ((with_reducible refine (fail_any h 13).mono ?_); rintro e w' ⟨rfl, hq, ho⟩)
    go_wp2_with ((with_reducible refine (err_any hq).mono ?_); rintro e w' ⟨rfl, rfl⟩)
    go_ret
    exact ⟨ret_bool (subIs_eq HR.out), by rw [HR.out]; exact hq, ho⟩
  · have hd : decide (n < 0) = false := by simp [h0]
    by_cases h1 : (c.en : Int) - c.at_ < n
    · have HR := Lib.hid (allow_cut (c := c) h0 h1)
      have hd1 : decide ((c.en : Int) - c.at_ < n) = true := by simp [h1]
      clear h0 h1
      go_enter Tryz.func153, Tryz.ntmps153
      go_wp2_with ((with_reducible refine (left_any h hc).mono ?_); rintro e w' ⟨rfl, m, rfl⟩)
      go_wp2_with ((with_reducible refine (fail_any (h.drewN _) 1).mono ?_); rintro e w' ⟨rfl, hq, ho⟩)
      go_wp2_with ((with_reducible refine (err_any hq).mono ?_); rintro e w' ⟨rfl, rfl⟩)
      go_ret
      exact ⟨ret_bool (subIs_eq HR.out), by rw [HR.out]; exact hq, ((Only.refl _ _).drewN _).trans ho⟩
    · have HR := Lib.hid (allow_same (c := c) h0 h1)
      have hd1 : decide ((c.en : Int) - c.at_ < n) = false := by simp [h1]
      clear h0 h1
      go_enter Tryz.func153, Tryz.ntmps153
      go_wp2_with ((with_reducible refine (left_any h hc).mono ?_); rintro e w' ⟨rfl, m, rfl⟩)
      go_wp2_with ((with_reducible refine (err_any (h.drewN _)).mono ?_); rintro e w' ⟨rfl, rfl⟩)
      go_ret
      exact ⟨ret_bool (subIs_eq HR.out), by rw [HR.out]; exact h.drewN _, (Only.refl _ _).drewN _⟩

/-- What is read where it may be: at behind it, the error as it was. -/
def CS.past (c : CS) (n : Nat) : CS := { c with at_ := c.at_ + n }

theorem passText_any {b : Nat} {c : CS} {w : World} (h : CurT 110 w b c) (hc : c.ok) (n : Nat) (hn : c.at_ + n ≤ c.en) :
    Calls Tryz.prog 131 #[.pointer (some ⟨b, 0, none⟩), .int .i64 n] w fun e w' => e = .returned (.string (c.s.extract c.at_ (c.at_ + n))) ∧ CurT 110 w' b (c.past n) ∧ Only b w w' := by
  obtain ⟨k1, k2, k3⟩ := hc
  have h0 := h.c0
  have h1 := h.c1
  have f1 := h.fr 1
  have hq := Lib.hid (h.setAt (c.at_ + n))
  go_enter Tryz.func131, Tryz.ntmps131
  go_wp2
  go_quiet (fail)
  go_wp2
  go_ret
  exact ⟨rfl, (hq.out.drewN _ : _), ((Only.refl _ _).setCell _ _).drewN _⟩

theorem CurT.allocOld {t : TypeId} {w : World} {b : Nat} {c : CS} (h : CurT t w b c) (o : Obj) : CurT t (w.alloc o) b c := (Below.heap_alloc _ _ _ h.lt).trans h
theorem CurT.drew {t : TypeId} {w : World} {b : Nat} {c : CS} (h : CurT t w b c) : CurT t w.drew b c := h


theorem allow_yes {c : CS} {n : Int} (h : c.why n = 0) : c.allow n = c := by
  have := (CS.why_zero h).1
  unfold CS.allow; rw [h, ← this]
theorem take_yes {c : CS} {n : Int} (h : c.why n = 0) : c.take n = c.past n.toNat := by unfold CS.take CS.past; rw [if_pos h]
theorem take_no {c : CS} {n : Int} (h : ¬ c.why n = 0) : c.take n = c.allow n := by unfold CS.take CS.allow; rw [if_neg h]
theorem takeS_yes {c : CS} {n : Int} (h : c.why n = 0) : c.takeS n = c.s.extract c.at_ (c.at_ + n.toNat) := by unfold CS.takeS; rw [if_pos h]
theorem takeS_no {c : CS} {n : Int} (h : ¬ c.why n = 0) : c.takeS n = ⟨#[]⟩ := by unfold CS.takeS; rw [if_neg h]
theorem sub_yes {c : CS} {n : Int} (h : c.why n = 0) : c.sub n = ⟨c.s, c.at_, c.at_ + n.toNat, 0⟩ := by
  have := (CS.why_zero h).1
  unfold CS.sub; rw [if_pos h, ← this]
theorem ret_string {a b : ByteArray} (h : a = b) : Ending.returned (.string a) = .returned (.string b) := by rw [h]

theorem take_any {b : Nat} {c : CS} {w : World} (h : CurT 110 w b c) (hc : c.ok) (n : Int) :
    Calls Tryz.prog 100 #[.pointer (some ⟨b, 0, none⟩), .int .i64 n] w fun e w' => e = .returned (.string (c.takeS n)) ∧ CurT 110 w' b (c.take n) ∧ Only b w w' := by
  have hmf : ∀ (fn : Fn) (first cap : Array Value) (w : World), (Instr.makeFunc fn first cap).run Tryz.prog w = .ok (.func fn first cap) w := fun _ _ _ _ => rfl
  have HA := allows_any h hc n
  by_cases hy : c.why n = 0
  · obtain ⟨y1, y2, y3⟩ := CS.why_zero hy
    obtain ⟨m, rfl⟩ := Int.eq_ofNat_of_zero_le y2
    have hm : c.at_ + m ≤ c.en := by have := hc.1; omega
    have HR := Lib.hid (take_yes hy)
    have HS := Lib.hid (takeS_yes hy)
    rw [Int.toNat_natCast] at HR HS
    have hs : c.subIs (m : Int) = true := by unfold CS.subIs; simp [hy]
    rw [hs, allow_yes hy] at HA
    clear hy y1 y2 y3 hs
    go_enter Tryz.func100, Tryz.ntmps100
    go_wp2_with (first | ((with_reducible refine HA.mono ?_); rintro e w1 ⟨rfl, hq, ho⟩) | ((with_reducible refine (passText_any hq hc m hm).mono ?_); rintro e w2 ⟨rfl, hq2, ho2⟩) | go_in)
    go_ret
    exact ⟨ret_string HS.out.symm, by rw [HR.out]; exact hq2, ho.trans ho2⟩
  · have HR := Lib.hid (take_no hy)
    have HS := Lib.hid (takeS_no hy)
    have hs : c.subIs n = false := by unfold CS.subIs; simp [hy]
    rw [hs] at HA
    clear hy hs
    go_enter Tryz.func100, Tryz.ntmps100
    go_wp2_with (first | ((with_reducible refine HA.mono ?_); rintro e w1 ⟨rfl, hq, ho⟩) | go_in)
    go_ret
    exact ⟨ret_string HS.out.symm, by rw [HR.out]; exact hq, ho⟩

end Go.Proofs.YtmkcfilgiehjaaaGreatDoor
/- Sub, and the calls at a nil cursor. -/
namespace Go.Proofs.YtmkcfilgiehjaaaGreatDoor
open Go Go.RowKit
set_option linter.unusedVariables false



theorem allows_nil (w : World) :
    Calls Tryz.prog 153 #[.pointer none, .int .i64 0] w fun e w' => e = .returned (.bool false) ∧ w' = w := by
  go_enter Tryz.func153, Tryz.ntmps153
  go_wp2_with (first | ((with_reducible refine (left_nil _).mono ?_); rintro e w1 ⟨rfl, rfl⟩) | ((with_reducible refine (err_nil _).mono ?_); rintro e w1 ⟨rfl, rfl⟩))
  go_ret
  exact ⟨rfl, rfl⟩

theorem take_nil (w : World) :
    Calls Tryz.prog 100 #[.pointer none, .int .i64 0] w fun e w' => e = .returned (.string ⟨#[]⟩) ∧ w' = w := by
  have hmf : ∀ (fn : Fn) (first cap : Array Value) (w : World), (Instr.makeFunc fn first cap).run Tryz.prog w = .ok (.func fn first cap) w := fun _ _ _ _ => rfl
  go_enter Tryz.func100, Tryz.ntmps100
  go_wp2_with (first | ((with_reducible refine (allows_nil _).mono ?_); rintro e w1 ⟨rfl, rfl⟩) | go_in)
  go_ret
  exact ⟨rfl, rfl⟩


theorem new_cur (s : ByteArray) (w : World) (hs : s.size ≤ 9223372036854775807) :
    Calls Tryz.prog 36 #[.string s] w fun e w' => ∃ b, e = .returned (.pointer (some ⟨b, 0, none⟩)) ∧ w.heap.size ≤ b ∧ CurT 110 w' b (CS.new s) ∧ Below w.heap.size w w' := by
  refine (new_any s w hs).mono ?_
  rintro e w' ⟨rfl, rfl⟩
  exact ⟨_, rfl, Nat.le_refl _, cur_alloc (c := CS.new s) _, (Below.refl _ _).alloc (Nat.le_refl _) _⟩

end Go.Proofs.YtmkcfilgiehjaaaGreatDoor
/- A cursor's bytes that are left, and what its calls make of them. -/
namespace Go.Proofs.YtmkcfilgiehjaaaGreatDoor
open Go Go.RowKit
set_option linter.unusedVariables false

/-- The bytes that are left. -/
def CS.bs (c : CS) : List UInt8 := (c.s.data.toList.take c.en).drop c.at_
def CS.bad (c : CS) (e : Int) : CS := { c with er := e }
theorem CS.bs_length {c : CS} (h : c.ok) : c.bs.length = c.en - c.at_ := by
  obtain ⟨h1, h2, h3⟩ := h
  unfold CS.bs
  rw [List.length_drop, List.length_take, toList_size]; omega
theorem CS.bs_past (c : CS) (k : Nat) : (c.past k).bs = c.bs.drop k := by
  unfold CS.bs CS.past; rw [List.drop_drop]
theorem CS.past_past (c : CS) (j k : Nat) : (c.past j).past k = c.past (j + k) := by unfold CS.past; simp [Nat.add_assoc]
theorem CS.past_zero (c : CS) : c.past 0 = c := rfl
theorem CS.past_fine {c : CS} (h : c.ok) {k : Nat} (hk : k ≤ c.bs.length) : (c.past k).ok := by
  have := CS.bs_length h
  obtain ⟨h1, h2, h3⟩ := h
  exact ⟨by unfold CS.past; simp only; omega, h2, h3⟩
theorem CS.bad_fine {c : CS} (h : c.ok) (e : Int) : (c.bad e).ok := h
theorem CS.fail_good {c : CS} (h : c.er = 0) (k : Int) : c.fail k = c.bad k := by unfold CS.fail CS.bad; rw [if_pos h]
theorem CS.fail_bad {c : CS} (h : ¬ c.er = 0) (k : Int) : c.fail k = c := by unfold CS.fail; rw [if_neg h]
theorem CS.bs_none {c : CS} (h : c.ok) (hb : c.bs = []) : c.peekIs = false ∧ c.peekB = 0 := by
  have hl := CS.bs_length h
  rw [hb] at hl
  have hp : c.peekIs = false := by unfold CS.peekIs; simp at hl; simp; omega
  exact ⟨hp, CS.peekB_no hp⟩
theorem CS.bs_some {c : CS} (h : c.ok) (h0 : c.er = 0) {x : UInt8} {t : List UInt8} (hb : c.bs = x :: t) : c.peekIs = true ∧ c.peekB = x.toNat ∧ (c.past 1).bs = t ∧ (c.past 1).ok := by
  have hl := CS.bs_length h
  rw [hb] at hl
  simp only [List.length_cons] at hl
  have hlt : c.at_ < c.en := by omega
  have hp : c.peekIs = true := by unfold CS.peekIs; simp [h0, hlt]
  refine ⟨hp, ?_, by rw [CS.bs_past, hb]; rfl, CS.past_fine h (by rw [hb]; simp)⟩
  unfold CS.peekB
  rw [if_pos hp]
  have e : c.bs[0]? = some x := by rw [hb]; rfl
  unfold CS.bs at e
  rw [List.getElem?_drop, List.getElem?_take_of_lt (by omega), Nat.add_zero] at e
  have : c.s.data[c.at_]? = some x := by rw [← Array.getElem?_toList]; exact e
  rw [this]; rfl
theorem byte_next {b : Nat} {c : CS} {w : World} (h : CurT 110 w b c) (hc : c.ok) (h0 : c.er = 0) {x : UInt8} {t : List UInt8} (hb : c.bs = x :: t) :
    Calls Tryz.prog 123 #[.pointer (some ⟨b, 0, none⟩)] w fun e w' => e = .returned (.int .u8 (x.toNat : Int)) ∧ CurT 110 w' b (c.past 1) ∧ Only b w w' := by
  obtain ⟨h1, h2, _⟩ := CS.bs_some hc h0 hb
  have := byte_any h hc
  rw [h2, CS.byte_yes h1] at this; exact this
theorem byte_lacks {b : Nat} {c : CS} {w : World} (h : CurT 110 w b c) (hc : c.ok) (h0 : c.er = 0) (hb : c.bs = []) :
    Calls Tryz.prog 123 #[.pointer (some ⟨b, 0, none⟩)] w fun e w' => e = .returned (.int .u8 0) ∧ CurT 110 w' b (c.bad 1) ∧ Only b w w' := by
  obtain ⟨h1, h2⟩ := CS.bs_none hc hb
  have := byte_any h hc
  rw [h2, CS.byte_no hc h1, CS.fail_good h0] at this; exact this
theorem byte_bad {b : Nat} {c : CS} {w : World} (h : CurT 110 w b c) (hc : c.ok) (h0 : ¬ c.er = 0) :
    Calls Tryz.prog 123 #[.pointer (some ⟨b, 0, none⟩)] w fun e w' => e = .returned (.int .u8 0) ∧ CurT 110 w' b c ∧ Only b w w' := by
  have h1 : c.peekIs = false := by unfold CS.peekIs; simp [h0]
  have := byte_any h hc
  rw [CS.peekB_no h1, CS.byte_no hc h1, CS.fail_bad h0] at this; exact this
theorem fail_fresh {b : Nat} {c : CS} {w : World} (h : CurT 110 w b c) (h0 : c.er = 0) (k : Int) :
    Calls Tryz.prog 60 #[.pointer (some ⟨b, 0, none⟩), .int .i64 k] w fun e w' => e = .returned (.tuple #[]) ∧ CurT 110 w' b (c.bad k) ∧ Only b w w' := by
  have := fail_any h k
  rw [CS.fail_good h0] at this; exact this
theorem fail_more {b : Nat} {c : CS} {w : World} (h : CurT 110 w b c) (h0 : ¬ c.er = 0) (k : Int) :
    Calls Tryz.prog 60 #[.pointer (some ⟨b, 0, none⟩), .int .i64 k] w fun e w' => e = .returned (.tuple #[]) ∧ CurT 110 w' b c ∧ Only b w w' := by
  have := fail_any h k
  rw [CS.fail_bad h0] at this; exact this
/-- Where a cursor stands behind a part of k bytes, or with what is wrong. -/
def CAt (c : CS) (k : Nat) (e : Int) (c' : CS) : Prop := c'.ok ∧ c'.s = c.s ∧ c'.en = c.en ∧ c'.er = e ∧ (e = 0 → c' = c.past k)
theorem CAt.past {c : CS} (h : c.ok) (h0 : c.er = 0) {k : Nat} (hk : k ≤ c.bs.length) : CAt c k 0 (c.past k) := ⟨CS.past_fine h hk, rfl, rfl, h0, fun _ => rfl⟩
theorem CAt.bad {c : CS} (h : c.ok) {j : Nat} (hj : j ≤ c.bs.length) (k : Nat) {e : Int} (he : e ≠ 0) : CAt c k e ((c.past j).bad e) := ⟨CS.past_fine h hj, rfl, rfl, rfl, fun h => absurd h he⟩
theorem CAt.bad0 {c : CS} (h : c.ok) (k : Nat) {e : Int} (he : e ≠ 0) : CAt c k e (c.bad e) := ⟨h, rfl, rfl, rfl, fun h => absurd h he⟩
theorem CAt.more {c c' : CS} {j k : Nat} {e : Int} (h : CAt (c.past j) k e c') : CAt c (j + k) e c' := by
  obtain ⟨h1, h2, h3, h4, h5⟩ := h
  exact ⟨h1, h2, h3, h4, fun h => by rw [h5 h, CS.past_past]⟩
theorem CAt.no {c c' : CS} {j k : Nat} {e : Int} (h : CAt c k e c') (he : e ≠ 0) : CAt c j e c' := by
  obtain ⟨h1, h2, h3, h4, h5⟩ := h
  exact ⟨h1, h2, h3, h4, fun h => absurd h he⟩

def atOf (b : Nat) (w : World) : Nat := match w.cell? ⟨b, 1, none⟩ with
  | some (.int _ a) => a.toNat
  | _ => 0
def erOf (b : Nat) (w : World) : Int := match w.cell? ⟨b, 3, none⟩ with
  | some (.int _ a) => a
  | _ => 0
theorem atOf_cur {t : TypeId} {w : World} {b : Nat} {c : CS} (h : CurT t w b c) : atOf b w = c.at_ := by unfold atOf; rw [h.c1]; simp
theorem erOf_cur {t : TypeId} {w : World} {b : Nat} {c : CS} (h : CurT t w b c) : erOf b w = c.er := by unfold erOf; rw [h.c3]
theorem Bts.only {t : TypeId} {w w' : World} {B b : Nat} {v : Value} {l : List UInt8} (h : Bts t w B v l) (ho : Only b w w') (hb : b < B) : Bts t w' B v l := by
  refine ⟨h.1, ?_⟩
  rcases h.2 with h2 | ⟨g, cap, cur, h3, h4, h5, h6⟩
  · exact .inl h2
  · exact .inr ⟨g, cap, cur, h3, h4, (ho.block g (lt_of_block h5) (by omega)).trans h5, h6⟩
theorem only_then {b N : Nat} {w w1 w2 : World} (h : Only b w w1) (h2 : Below N w1 w2) (hN : w.heap.size ≤ N) : Only b w w2 :=
  ⟨h2.os.trans h.os, h2.tape.trans h.tape, h2.output.trans h.output, Nat.le_trans h.size h2.size, fun k hk hb => (h2.block k (by omega)).trans (h.block k hk hb)⟩
theorem tw_eq {p : UInt8 → Bool} {l : List UInt8} {k : Nat} (hk : k ≤ l.length) (h1 : ∀ x ∈ l.take k, p x = true) (h2 : ∀ x t, l.drop k = x :: t → p x = false) : l.takeWhile p = l.take k ∧ (l.takeWhile p).length = k := by
  have e : l.takeWhile p = l.take k := by
    have h3 : l = l.take k ++ l.drop k := (List.take_append_drop k l).symm
    have h4 : (l.drop k).takeWhile p = [] := by
      match hd : l.drop k with
      | [] => rfl
      | x :: t => rw [List.takeWhile_cons, h2 x t hd]; rfl
    have h5 := List.takeWhile_append_of_pos (p := p) (l₁ := l.take k) (l₂ := l.drop k) h1
    rw [List.take_append_drop, h4, List.append_nil] at h5
    exact h5
  exact ⟨e, by rw [e, List.length_take]; omega⟩
theorem peek_next {b : Nat} {c : CS} {w : World} (h : CurT 110 w b c) (hc : c.ok) (h0 : c.er = 0) {x : UInt8} {t : List UInt8} (hb : c.bs = x :: t) :
    Calls Tryz.prog 98 #[.pointer (some ⟨b, 0, none⟩)] w fun e w' => e = .returned (.tuple #[.int .u8 (x.toNat : Int), .bool true]) ∧ CurT 110 w' b c ∧ Below w.heap.size w w' := by
  obtain ⟨h1, h2, _⟩ := CS.bs_some hc h0 hb
  have := peek_any h hc
  rw [h2, h1] at this
  refine this.mono ?_
  rintro e w' ⟨he, n, hw⟩
  rw [hw]
  exact ⟨he, h.drewN n, drew_below w n⟩
theorem peek_none {b : Nat} {c : CS} {w : World} (h : CurT 110 w b c) (hc : c.ok) (hb : c.bs = []) :
    Calls Tryz.prog 98 #[.pointer (some ⟨b, 0, none⟩)] w fun e w' => e = .returned (.tuple #[.int .u8 0, .bool false]) ∧ CurT 110 w' b c ∧ Below w.heap.size w w' := by
  obtain ⟨h1, h2⟩ := CS.bs_none hc hb
  have := peek_any h hc
  rw [h2, h1] at this
  refine this.mono ?_
  rintro e w' ⟨he, n, hw⟩
  rw [hw]
  exact ⟨he, h.drewN n, drew_below w n⟩

end Go.Proofs.YtmkcfilgiehjaaaGreatDoor
/- Tokens in memory: a block that is one, lists of them; 'append' of one. Of no package but the types' facts. -/
namespace Go.Proofs.YtmkcfilgiehjaaaGreatDoor
open Go Go.RowKit
set_option linter.unusedVariables false

def tkV (x : TK) : Value := .agg #[.int .u8 (x.1.toNat : Int), .string (bA x.2)]
/-- Block b is the token x, of type t. -/
def TkT (t : TypeId) (w : World) (b : Nat) (x : TK) : Prop := w.heap[b]? = some (.cells #[.int .u8 (x.1.toNat : Int), .string (bA x.2)] t (0, 0))
theorem TkT.lt {t : TypeId} {w : World} {b : Nat} {x : TK} (h : TkT t w b x) : b < w.heap.size := lt_of_block h
theorem TkT.c0 {t : TypeId} {w : World} {b : Nat} {x : TK} (h : TkT t w b x) : w.cell? ⟨b, 0, none⟩ = some (.int .u8 (x.1.toNat : Int)) := by unfold TkT at h; simp [World.cell?, h]
theorem TkT.c1 {t : TypeId} {w : World} {b : Nat} {x : TK} (h : TkT t w b x) : w.cell? ⟨b, 1, none⟩ = some (.string (bA x.2)) := by unfold TkT at h; simp [World.cell?, h]
theorem TkT.fr {t : TypeId} {w : World} {b : Nat} {x : TK} (h : TkT t w b x) (o : Nat) : w.frozen? ⟨b, o, none⟩ = false := by unfold TkT at h; simp [World.frozen?, h]
theorem TkT.drewN {t : TypeId} {w : World} {b : Nat} {x : TK} (h : TkT t w b x) (n : Nat) : TkT t (w.drewN n) b x := h
theorem TkT.drew {t : TypeId} {w : World} {b : Nat} {x : TK} (h : TkT t w b x) : TkT t w.drew b x := h
theorem TkT.below {t : TypeId} {w w' : World} {b N : Nat} {x : TK} (h : TkT t w b x) (hb : Below N w w') (hN : b < N) : TkT t w' b x := (hb.block b hN).trans h
theorem TkT.only {t : TypeId} {w w' : World} {b d : Nat} {x : TK} (h : TkT t w b x) (ho : Only d w w') (hd : b ≠ d) : TkT t w' b x := (ho.block b h.lt hd).trans h
theorem TkT.alloc {t : TypeId} {w : World} {b : Nat} {x : TK} (h : TkT t w b x) (o : Obj) : TkT t (w.alloc o) b x := by
  have h2 := h.lt
  show (w.heap.push o)[b]? = _
  rw [Array.getElem?_push_lt h2]
  rw [← Array.getElem?_eq_getElem h2]; exact h
theorem tk_alloc {w : World} (x : TK) (t : TypeId) : TkT t (w.alloc (.cells #[.int .u8 (x.1.toNat : Int), .string (bA x.2)] t (0, 0))) w.heap.size x := by
  show (w.heap.push _)[w.heap.size]? = _
  simp
theorem TkT.setAll {t : TypeId} {w : World} {b : Nat} {x : TK} (h : TkT t w b x) (y : TK) :
    TkT t ((w.setCell ⟨b, 0, none⟩ (.int .u8 (y.1.toNat : Int))).setCell ⟨b, 1, none⟩ (.string (bA y.2))) b y :=
  heap_setCell_block (heap_setCell_block h _) _
theorem Only.setTk (w : World) (b : Nat) (y : TK) : Only b w ((w.setCell ⟨b, 0, none⟩ (.int .u8 (y.1.toNat : Int))).setCell ⟨b, 1, none⟩ (.string (bA y.2))) :=
  ((Only.refl _ _).setCell _ _).setCell _ _

/-- Tokens as cells. -/
def tV (l : List TK) : List Value := l.flatMap fun x => [.int .u8 (x.1.toNat : Int), .string (bA x.2)]
theorem tV_cons (x : TK) (l : List TK) : tV (x :: l) = .int .u8 (x.1.toNat : Int) :: .string (bA x.2) :: tV l := rfl
theorem tV_append (l m : List TK) : tV (l ++ m) = tV l ++ tV m := List.flatMap_append
theorem tV_length : ∀ l : List TK, (tV l).length = l.length * 2
  | [] => rfl
  | x :: l => by rw [tV_cons, List.length_cons, List.length_cons, List.length_cons, tV_length l]; omega
theorem tV_one (l : List TK) : ∀ v ∈ tV l, v.oneCell' = true := by
  intro v hv
  obtain ⟨x, _, hx⟩ := List.mem_flatMap.mp hv
  simp at hx
  rcases hx with rfl | rfl <;> rfl
theorem tV_get : ∀ (l : List TK) (k : Nat) (h : k < l.length), (tV l)[k * 2]? = some (.int .u8 (l[k].1.toNat : Int)) ∧ (tV l)[k * 2 + 1]? = some (.string (bA l[k].2))
  | x :: l, 0, _ => ⟨rfl, rfl⟩
  | x :: l, k + 1, h => by
    have := tV_get l k (by simpa using h)
    rw [tV_cons, show (k + 1) * 2 = k * 2 + 1 + 1 by omega]
    exact this
/-- The slice v, that the call itself made, holds the tokens l. -/
def TRow (e : TypeId) (w : World) (B : Nat) (v : Value) (l : List TK) : Prop := w.ownsRow B e 2 v l.length (tV l)
/-- The slice at a, of so many tokens, holds l. -/
def TIn (w : World) (a : Option Addr) (l : List TK) : Prop :=
  ∀ j (h : j < l.length), ∃ b, a = some ⟨b, 0, none⟩ ∧ b < w.heap.size ∧ w.cell? ⟨b, j * 2, none⟩ = some (.int .u8 (l[j].1.toNat : Int)) ∧ w.cell? ⟨b, j * 2 + 1, none⟩ = some (.string (bA l[j].2))
theorem TIn.below {w w' : World} {a : Option Addr} {l : List TK} {N : Nat} (h : TIn w a l) (hb : Below N w w') (hN : w.heap.size ≤ N) : TIn w' a l := fun j hj => by
  obtain ⟨b, e, hlt, h1, h2⟩ := h j hj
  exact ⟨b, e, Nat.lt_of_lt_of_le hlt hb.size, (hb.cell (p := ⟨b, j * 2, none⟩) (Nat.lt_of_lt_of_le hlt hN)).trans h1, (hb.cell (p := ⟨b, j * 2 + 1, none⟩) (Nat.lt_of_lt_of_le hlt hN)).trans h2⟩
theorem trow_nil (e : TypeId) (w : World) (B : Nat) : TRow e w B (.slice none 0 0) [] := ⟨rfl, .inl ⟨rfl, rfl⟩⟩
theorem TRow.below {e : TypeId} {w w' : World} {B N : Nat} {v : Value} {l : List TK} (h : TRow e w B v l) (hb : Below N w w') (hN : w.heap.size ≤ N) : TRow e w' B v l := by
  refine World.ownsRow.kept (row := none) h ⟨hb.os, hb.tape, hb.output, hb.size, fun k hk _ => hb.block k (by omega)⟩ ?_
  cases v.ownBlock <;> simp
theorem TRow.only {e : TypeId} {w w' : World} {B b : Nat} {v : Value} {l : List TK} (h : TRow e w B v l) (ho : Only b w w') (hb : b < B) : TRow e w' B v l := by
  obtain ⟨hl, h⟩ := h
  refine ⟨hl, ?_⟩
  rcases h with h | ⟨g, cap, cur, h1, h2, h3, h4⟩
  · exact .inl h
  · exact .inr ⟨g, cap, cur, h1, h2, (ho.block g (lt_of_block h3) (by omega)).trans h3, h4⟩
theorem TRow.base {e : TypeId} {w : World} {B N : Nat} {v : Value} {l : List TK} (h : TRow e w N v l) (hB : B ≤ N) : TRow e w B v l := by
  obtain ⟨hl, h⟩ := h
  refine ⟨hl, ?_⟩
  rcases h with h | ⟨g, cap, cur, h1, h2, h3, h4⟩
  · exact .inl h
  · exact .inr ⟨g, cap, cur, h1, by omega, h3, h4⟩
theorem TRow.inn {e : TypeId} {w : World} {B : Nat} {v : Value} {l : List TK} (h : TRow e w B v l) : ∃ a cap, v = .slice a l.length cap ∧ TIn w a l := by
  rcases h.2 with ⟨rfl, hn⟩ | ⟨g, cap, cur, rfl, _, hg, _⟩
  · have h0 : l = [] := List.eq_nil_of_length_eq_zero hn
    subst h0
    exact ⟨none, 0, rfl, fun j hj => by simp at hj⟩
  · refine ⟨_, cap, rfl, fun j hj => ⟨g, rfl, lt_of_block hg, ?_, ?_⟩⟩
    · rw [World.ownsRow.cellAt h (j * 2) (by omega), (tV_get l j hj).1]
    · rw [World.ownsRow.cellAt h (j * 2 + 1) (by omega), (tV_get l j hj).2]
theorem infoJ : (Tryz.prog.info? 80).map (fun i => (i.zero, i.size, i.bytes)) = some (some (.agg #[.int .u8 0, .string ⟨#[]⟩]), 2, 24) := by kernel_rfl
theorem infoR : (Tryz.prog.info? 85).map (fun i => (i.zero, i.size, i.bytes)) = some (some (.agg #[.int .u8 0, .string ⟨#[]⟩]), 2, 24) := by kernel_rfl
/-- 'append(list, x)' on a list that the call itself made. -/
theorem wpList_append_tok {P : Program} {ops : Array Oper} {rest : List Oper} {o : Oper} {a : Act} {Q : Exit → Act → World → Prop} (hgd : o.guard = none) (sl x : Operand) (t : TypeId)
    (ho : o.op = .call { callee := .builtin .append, args := #[sl, x], argTypes := #[t, t] })
    (e : TypeId) (ht : P.underlying t = some (.slice e)) (hi : (P.info? e).map (fun i => (i.zero, i.size, i.bytes)) = some (some (.agg #[.int .u8 0, .string ⟨#[]⟩]), 2, 24))
    (v : Value) (wr : World) (B : Nat) (l : List TK) (hb : TRow e wr B v l) (hB : B ≤ wr.heap.size) (hs : a.eval sl = v)
    (k : Int) (s : ByteArray) (y : TK) (hk : k = (y.1.toNat : Int)) (hss : s = bA y.2) (hx : a.eval x = .slice (some ⟨wr.heap.size, 0, none⟩) 1 1) (hlen : l.length ≤ 1099511627776)
    (h : ∀ v' w', TRow e w' B v' (l ++ [y]) → Below B wr w' → wpList P ops Q rest (a.put o.dst v') w') :
    wpList P ops Q (o :: rest) a (wr.alloc (.cells #[.int .u8 k, .string s] e)) := by
  subst hk hss
  obtain ⟨i0, hi, hz, hz1, hz2⟩ := info_parts hi
  refine wpList_append_own _ hgd sl x t ho B e i0 (.agg #[.int .u8 0, .string ⟨#[]⟩]) 2 24 ht hi hz hz1 hz2 rfl (by decide) v l.length (tV l) hs (World.ownsRow.alloc hb _) ⟨wr.heap.size, 0, none⟩ 1 1 (tV [y]) hx rfl ?_ (tV_one _) (by unfold maxLen; omega) (by omega) (by simp; omega) ?_
  · intro j u hj
    have h1 := heap_alloc_new wr (.cells #[.int .u8 (y.1.toNat : Int), .string (bA y.2)] e)
    have e1 : (Addr.mk wr.heap.size 0 none).add j = ⟨wr.heap.size, j, none⟩ := by unfold Addr.add; split <;> simp_all
    rw [e1]
    simp only [World.cell?]
    rw [h1]
    match j, hj with
    | 0, hj => simpa [tV] using hj
    | 1, hj => simpa [tV] using hj
    | j + 2, hj => simp [tV] at hj
  · intro v' w' hown hgr _
    refine h v' w' ?_ ?_
    · unfold TRow
      rw [tV_append, List.length_append]
      exact hown
    · refine ⟨hgr.os, hgr.tape, hgr.output, by have := hgr.size; simp at this; omega, fun k hk => ?_⟩
      have hne : some k ≠ v.ownBlock := fun hk' => by
        have := (World.ownsRow.lt hb k hk'.symm).1
        omega
      rw [hgr.block k (by simp; omega) hne]
      exact Below.heap_alloc _ _ _ (by omega)
theorem ret_tk {x y : TK} (h : x = y) : Ending.returned (tkV x) = .returned (tkV y) := by rw [h]
theorem tok_result {fn : Func} {p : Tmp} (h : fn.results = #[.cell p 80]) {tmps : Array Value} {w : World} {g : Nat} {x : TK} (hg : TkT 80 w g x) (hp : tmps.getD p undef = .pointer (some ⟨g, 0, none⟩)) :
    (results fn tmps).run Tryz.prog w = .ok (tkV x) w := by
  have hq := run_loadVar_row (P := Tryz.prog) w g 80 80 #[.int .u8 (x.1.toNat : Int), .string (bA x.2)] (0, 0) _ hg Tryz.underlying80 rfl (by kernel_rfl)
  have hp' : tmps[p]?.getD undef = .pointer (some ⟨g, 0, none⟩) := by simpa using hp
  simp [results, h, hp', asAddr, hq, tkV]
theorem ctok_result {fn : Func} {p q : Tmp} (h : fn.results = #[.cell p 83, .cell q 85]) {tmps : Array Value} {w : World} {g d : Nat} {c : CS} {x : TK} (hg : CurT 83 w g c) (hd : TkT 85 w d x) (hp : tmps.getD p undef = .pointer (some ⟨g, 0, none⟩)) (hq : tmps.getD q undef = .pointer (some ⟨d, 0, none⟩)) :
    (results fn tmps).run Tryz.prog w = .ok (.tuple #[c.val, tkV x]) w := by
  have h1 := run_loadVar_row (P := Tryz.prog) w g 83 83 #[.string c.s, .int .i64 c.at_, .int .i64 c.en, .int .i64 c.er] (0, 0) _ hg Tryz.underlying83 rfl (by kernel_rfl)
  have h2 := run_loadVar_row (P := Tryz.prog) w d 85 85 #[.int .u8 (x.1.toNat : Int), .string (bA x.2)] (0, 0) _ hd Tryz.underlying85 rfl (by kernel_rfl)
  have hp' : tmps[p]?.getD undef = .pointer (some ⟨g, 0, none⟩) := by simpa using hp
  have hq' : tmps[q]?.getD undef = .pointer (some ⟨d, 0, none⟩) := by simpa using hq
  simp [results, h, hp', hq', asAddr, h1, h2, tkV, CS.val]
end Go.Proofs.YtmkcfilgiehjaaaGreatDoor
