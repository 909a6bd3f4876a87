/- Law 19: add: what is said is added. -/
import Derived.Test.YtjpppnfkpnfhoaaDoorPwH
import Derived.Deep.RegionWith
namespace Go.Proofs.YtjpppnfkpnfhoaaDoor
open Go Go.RowKit
set_option linter.unusedVariables false

/-- What is added where it is said so: kind k, a number, a wire type, a number, a text; of a message with the text inner as its field 1. -/
def opF (k : Nat) (n v : Int) (q : Nat) (s inner : ByteArray) : List FD :=
  if k = 0 then (if v = 2 then [] else fTag (n, v, q, ⟨#[]⟩))
  else if k = 1 then (if q = 0 then [] else if v = 2 then [] else fTag (n, v, q, ⟨#[]⟩))
  else if k = 2 then fTag (n, 2, 0, s)
  else if k = 3 then (if s = ⟨#[]⟩ then [] else fTag (n, 2, 0, s))
  else if k = 4 then fTag (n, 2, 0, bA (pB (oF inner)))
  else if pB (oF inner) = [] then [] else fTag (n, 2, 0, bA (pB (oF inner)))
theorem oF_len (s : ByteArray) (hs : s.size ≤ 300) : (pB (oF s)).length ≤ 320 := by
  have h1 := fTag_le 1 2 0 s (by decide) (by omega)
  unfold oF
  split
  · simp [pB_nil]
  · omega
theorem opF_le (k : Nat) (n v : Int) (q : Nat) (s inner : ByteArray) (hq : q < 18446744073709551616) (hs : s.size ≤ 300) (hi : inner.size ≤ 300) : (pB (opF k n v q s inner)).length ≤ 400 ∧ (opF k n v q s inner).length ≤ 1 := by
  have h0 : (pB []).length ≤ 400 ∧ ([] : List FD).length ≤ 1 := by simp [pB_nil]
  have e0 : (⟨#[]⟩ : ByteArray).size = 0 := rfl
  have h1 : (pB (fTag (n, v, q, ⟨#[]⟩))).length ≤ 400 ∧ (fTag (n, v, q, ⟨#[]⟩)).length ≤ 1 := ⟨by have := fTag_le n v q ⟨#[]⟩ hq (by decide); omega, fTag_len _⟩
  have h2 : (pB (fTag (n, 2, 0, s))).length ≤ 400 ∧ (fTag (n, 2, 0, s)).length ≤ 1 := ⟨by have := fTag_le n 2 0 s (by decide) (by omega); omega, fTag_len _⟩
  have h3 : (pB (fTag (n, 2, 0, bA (pB (oF inner))))).length ≤ 400 ∧ (fTag (n, 2, 0, bA (pB (oF inner)))).length ≤ 1 :=
    ⟨by have := fTag_le n 2 0 (bA (pB (oF inner))) (by decide) (by have := oF_len inner hi; rw [size_bA]; omega); have := oF_len inner hi; rw [size_bA] at *; omega, fTag_len _⟩
  unfold opF
  repeat' split
  all_goals assumption
theorem AdQ.oneK {T : Prop} {w w' : World} {B b : Nat} {v : Value} {X X' : List FD} {e : Ending} (h : MsgR T w B b v X) (hq : AdQ T w B b v X' e w') {N : Nat} (hN : N ≤ B) (hw : N ≤ w.heap.size) : e = .returned (.tuple #[]) ∧ ∃ v', MsgR T w' B b v' X' ∧ Below N w w' ∧ AddK b v w w' := by
  have hb := hq.below h hN hw
  obtain ⟨rfl, v', hm, hk, ho⟩ := hq
  exact ⟨rfl, v', hm, hb, hk⟩
def OpT (t : TypeId) (w : World) (b : Nat) (k : Nat) (n v : Int) (q : Nat) (s : ByteArray) : Prop := w.heap[b]? = some (.cells #[.int .u8 (k : Nat), .int .i64 n, .int .i64 v, .int .u64 (q : Nat), .string s] t (0, 0))
theorem op_alloc (t : TypeId) (w : World) (k : Nat) (n v : Int) (q : Nat) (s : ByteArray) : OpT t (w.alloc (.cells #[.int .u8 (k : Nat), .int .i64 n, .int .i64 v, .int .u64 (q : Nat), .string s] t)) w.heap.size k n v q s := heap_alloc_new w _
theorem OpT.c {t : TypeId} {w : World} {b k : Nat} {n v : Int} {q : Nat} {s : ByteArray} (h : OpT t w b k n v q s) : w.cell? ⟨b, 0, none⟩ = some (.int .u8 (k : Nat)) ∧ w.cell? ⟨b, 1, none⟩ = some (.int .i64 n) ∧ w.cell? ⟨b, 2, none⟩ = some (.int .i64 v) ∧ w.cell? ⟨b, 3, none⟩ = some (.int .u64 (q : Nat)) ∧ w.cell? ⟨b, 4, none⟩ = some (.string s) := by
  unfold OpT at h; simp [World.cell?, h]
theorem OpT.below {t : TypeId} {w w' : World} {b k : Nat} {n v : Int} {q : Nat} {s : ByteArray} (h : OpT t w b k n v q s) (hb : Below w.heap.size w w') : OpT t w' b k n v q s := (hb.block b (lt_of_block h)).trans h
theorem op_grow (t : TypeId) (w : World) (k : Nat) (n v : Int) (q : Nat) (s : ByteArray) : Below w.heap.size w (w.alloc (.cells #[.int .u8 (k : Nat), .int .i64 n, .int .i64 v, .int .u64 (q : Nat), .string s] t)) := (Below.refl _ w).alloc (Nat.le_refl _) _
theorem rm_of {B : Nat} {w : World} {X Y : List FD} (hB : B ≤ w.heap.size) (hX : (pB X).length ≤ 1099511627776) (hY : (pB Y).length ≤ 1099511627776) (hl : X.length ≤ 1099511627776) : Rm B w X Y := ⟨hB, by rw [pB_len]; omega, hl⟩
theorem addo_0 {T : Prop} {B b : Nat} {v : Value} {X : List FD} {w : World} (h : MsgR T w B b v X) (hB : B ≤ w.heap.size) (n v0 : Int) (q : Nat) (s inner : ByteArray) (hq : q < 18446744073709551616) (ht : v0 = 1 ∨ v0 = 5 → T) (hs : s.size ≤ 300) (hi : inner.size ≤ 300) (hX : (pB X).length ≤ 1099511627776) (hl : X.length ≤ 1099511627776) :
    Calls Tryd.prog 6 #[.pointer (some ⟨b, 0, none⟩), .agg #[.int .u8 0, .int .i64 n, .int .i64 v0, .int .u64 (q : Nat), .string s], .string inner] w fun e w' => e = .returned (.tuple #[]) ∧ ∃ v', MsgR T w' B b v' (X ++ opF 0 n v0 q s inner) ∧ Below B w w' ∧ AddK b v w w' := by
  have M1 := h.below (op_grow 28 w 0 n v0 q s)
  have HC := Lib.hid (psure_any M1 n v0 q hq ht (rm_of (by simp; omega) hX (by have := fTag_le n v0 q ⟨#[]⟩ hq (by decide); have e0 : (⟨#[]⟩ : ByteArray).size = 0 := rfl; omega) hl))
  have HM := Lib.hid M1
  have HB := Lib.hid ((op_grow 28 w 0 n v0 q s).mono hB)
  have HG := Lib.hid (AddK.of_below (b := b) (v := v) (op_grow 28 w 0 n v0 q s))
  have c := (op_alloc 28 w 0 n v0 q s).c
  obtain ⟨c0, c1, c2, c3, c4⟩ := c
  have hR := Lib.hid (show opF 0 n v0 q s inner = if v0 = 2 then [] else fTag (n, v0, q, ⟨#[]⟩) from rfl)
  rw [hR.out]
  clear M1 h ht hq
  generalize (if v0 = 2 then [] else fTag (n, v0, q, ⟨#[]⟩)) = Y at *
  clear hR
  go_enter Tryd.func6, Tryd.ntmps6
  go_wp2_with fail
  refine HC.out.mono ?_
  intro e w2 hq2
  obtain ⟨rfl, v', m2, b2, k2⟩ := hq2.oneK HM.out (N := B) (Nat.le_refl _) (by simp; omega)
  have HQ := Lib.hid (And.intro m2 (And.intro (HB.out.trans b2) (HG.out.trans k2)))
  clear hq2 m2 b2 k2 HC c0 c1 c2 c3 c4
  go_wp2
  go_end0
  exact ⟨rfl, _, HQ.out⟩
theorem addo_1 {T : Prop} {B b : Nat} {v : Value} {X : List FD} {w : World} (h : MsgR T w B b v X) (hB : B ≤ w.heap.size) (n v0 : Int) (q : Nat) (s inner : ByteArray) (hq : q < 18446744073709551616) (ht : v0 = 1 ∨ v0 = 5 → T) (hs : s.size ≤ 300) (hi : inner.size ≤ 300) (hX : (pB X).length ≤ 1099511627776) (hl : X.length ≤ 1099511627776) :
    Calls Tryd.prog 6 #[.pointer (some ⟨b, 0, none⟩), .agg #[.int .u8 1, .int .i64 n, .int .i64 v0, .int .u64 (q : Nat), .string s], .string inner] w fun e w' => e = .returned (.tuple #[]) ∧ ∃ v', MsgR T w' B b v' (X ++ opF 1 n v0 q s inner) ∧ Below B w w' ∧ AddK b v w w' := by
  have M1 := h.below (op_grow 28 w 1 n v0 q s)
  have HC := Lib.hid (pnum_any M1 n v0 q hq ht (rm_of (by simp; omega) hX (by have := fTag_le n v0 q ⟨#[]⟩ hq (by decide); have e0 : (⟨#[]⟩ : ByteArray).size = 0 := rfl; omega) hl))
  have HM := Lib.hid M1
  have HB := Lib.hid ((op_grow 28 w 1 n v0 q s).mono hB)
  have HG := Lib.hid (AddK.of_below (b := b) (v := v) (op_grow 28 w 1 n v0 q s))
  have c := (op_alloc 28 w 1 n v0 q s).c
  obtain ⟨c0, c1, c2, c3, c4⟩ := c
  have hR := Lib.hid (show opF 1 n v0 q s inner = if q = 0 then [] else if v0 = 2 then [] else fTag (n, v0, q, ⟨#[]⟩) from rfl)
  rw [hR.out]
  clear M1 h ht hq
  generalize (if q = 0 then [] else if v0 = 2 then [] else fTag (n, v0, q, ⟨#[]⟩)) = Y at *
  clear hR
  go_enter Tryd.func6, Tryd.ntmps6
  go_wp2_with fail
  refine HC.out.mono ?_
  intro e w2 hq2
  obtain ⟨rfl, v', m2, b2, k2⟩ := hq2.oneK HM.out (N := B) (Nat.le_refl _) (by simp; omega)
  have HQ := Lib.hid (And.intro m2 (And.intro (HB.out.trans b2) (HG.out.trans k2)))
  clear hq2 m2 b2 k2 HC c0 c1 c2 c3 c4
  go_wp2
  go_end0
  exact ⟨rfl, _, HQ.out⟩
theorem addo_2 {T : Prop} {B b : Nat} {v : Value} {X : List FD} {w : World} (h : MsgR T w B b v X) (hB : B ≤ w.heap.size) (n v0 : Int) (q : Nat) (s inner : ByteArray) (hq : q < 18446744073709551616) (ht : v0 = 1 ∨ v0 = 5 → T) (hs : s.size ≤ 300) (hi : inner.size ≤ 300) (hX : (pB X).length ≤ 1099511627776) (hl : X.length ≤ 1099511627776) :
    Calls Tryd.prog 6 #[.pointer (some ⟨b, 0, none⟩), .agg #[.int .u8 2, .int .i64 n, .int .i64 v0, .int .u64 (q : Nat), .string s], .string inner] w fun e w' => e = .returned (.tuple #[]) ∧ ∃ v', MsgR T w' B b v' (X ++ opF 2 n v0 q s inner) ∧ Below B w w' ∧ AddK b v w w' := by
  have M1 := h.below (op_grow 28 w 2 n v0 q s)
  have HC := Lib.hid (pstext_any M1 n s (by omega) (rm_of (by simp; omega) hX (by have := fTag_le n 2 0 s (by decide) (by omega); omega) hl))
  have HM := Lib.hid M1
  have HB := Lib.hid ((op_grow 28 w 2 n v0 q s).mono hB)
  have HG := Lib.hid (AddK.of_below (b := b) (v := v) (op_grow 28 w 2 n v0 q s))
  have c := (op_alloc 28 w 2 n v0 q s).c
  obtain ⟨c0, c1, c2, c3, c4⟩ := c
  have hR := Lib.hid (show opF 2 n v0 q s inner = fTag (n, 2, 0, s) from rfl)
  rw [hR.out]
  clear M1 h ht hq
  generalize (fTag (n, 2, 0, s)) = Y at *
  clear hR
  go_enter Tryd.func6, Tryd.ntmps6
  go_wp2_with fail
  refine HC.out.mono ?_
  intro e w2 hq2
  obtain ⟨rfl, v', m2, b2, k2⟩ := hq2.oneK HM.out (N := B) (Nat.le_refl _) (by simp; omega)
  have HQ := Lib.hid (And.intro m2 (And.intro (HB.out.trans b2) (HG.out.trans k2)))
  clear hq2 m2 b2 k2 HC c0 c1 c2 c3 c4
  go_wp2
  go_end0
  exact ⟨rfl, _, HQ.out⟩
theorem addo_3 {T : Prop} {B b : Nat} {v : Value} {X : List FD} {w : World} (h : MsgR T w B b v X) (hB : B ≤ w.heap.size) (n v0 : Int) (q : Nat) (s inner : ByteArray) (hq : q < 18446744073709551616) (ht : v0 = 1 ∨ v0 = 5 → T) (hs : s.size ≤ 300) (hi : inner.size ≤ 300) (hX : (pB X).length ≤ 1099511627776) (hl : X.length ≤ 1099511627776) :
    Calls Tryd.prog 6 #[.pointer (some ⟨b, 0, none⟩), .agg #[.int .u8 3, .int .i64 n, .int .i64 v0, .int .u64 (q : Nat), .string s], .string inner] w fun e w' => e = .returned (.tuple #[]) ∧ ∃ v', MsgR T w' B b v' (X ++ opF 3 n v0 q s inner) ∧ Below B w w' ∧ AddK b v w w' := by
  have M1 := h.below (op_grow 28 w 3 n v0 q s)
  have HC := Lib.hid (ptext_any M1 n s (by omega) (rm_of (by simp; omega) hX (by have := fTag_le n 2 0 s (by decide) (by omega); omega) hl))
  have HM := Lib.hid M1
  have HB := Lib.hid ((op_grow 28 w 3 n v0 q s).mono hB)
  have HG := Lib.hid (AddK.of_below (b := b) (v := v) (op_grow 28 w 3 n v0 q s))
  have c := (op_alloc 28 w 3 n v0 q s).c
  obtain ⟨c0, c1, c2, c3, c4⟩ := c
  have hR := Lib.hid (show opF 3 n v0 q s inner = if s = ⟨#[]⟩ then [] else fTag (n, 2, 0, s) from rfl)
  rw [hR.out]
  clear M1 h ht hq
  generalize (if s = ⟨#[]⟩ then [] else fTag (n, 2, 0, s)) = Y at *
  clear hR
  go_enter Tryd.func6, Tryd.ntmps6
  go_wp2_with fail
  refine HC.out.mono ?_
  intro e w2 hq2
  obtain ⟨rfl, v', m2, b2, k2⟩ := hq2.oneK HM.out (N := B) (Nat.le_refl _) (by simp; omega)
  have HQ := Lib.hid (And.intro m2 (And.intro (HB.out.trans b2) (HG.out.trans k2)))
  clear hq2 m2 b2 k2 HC c0 c1 c2 c3 c4
  go_wp2
  go_end0
  exact ⟨rfl, _, HQ.out⟩
theorem two_last {T : Prop} {w w' : World} {C c : Nat} {u v2 : Value} {Y Z : List FD} (h : MsgR T w C c u Y) (hm : MsgR T w' w.heap.size w.heap.size v2 Z) (hb : Below w.heap.size w w') : Two T w' C c u Y w.heap.size w.heap.size v2 Z :=
  ⟨h.below hb, hm, by have := h.lt; omega, fun g hg hu => by have h1 := (h.own g hg).2; have h2 := (hm.own g hu).1; omega⟩
theorem addo_4 {T : Prop} {B b : Nat} {v : Value} {X : List FD} {w : World} (h : MsgR T w B b v X) (hB : B ≤ w.heap.size) (n v0 : Int) (q : Nat) (s inner : ByteArray) (hq : q < 18446744073709551616) (ht : v0 = 1 ∨ v0 = 5 → T) (hs : s.size ≤ 300) (hi : inner.size ≤ 300) (hX : (pB X).length ≤ 1099511627776) (hl : X.length ≤ 1099511627776) :
    Calls Tryd.prog 6 #[.pointer (some ⟨b, 0, none⟩), .agg #[.int .u8 4, .int .i64 n, .int .i64 v0, .int .u64 (q : Nat), .string s], .string inner] w fun e w' => e = .returned (.tuple #[]) ∧ ∃ v', MsgR T w' B b v' (X ++ opF 4 n v0 q s inner) ∧ Below B w w' ∧ AddK b v w w' := by
  have hL := oF_len inner hi
  have hR := Lib.hid (show opF 4 n v0 q s inner = fTag (n, 2, 0, bA (pB (oF inner))) from rfl)
  rw [hR.out]
  have HO := Lib.hid (fun w => pof_any T inner w (by omega))
  have HRm := Lib.hid (fun W (hW : B ≤ W.heap.size) => rm_of (w := W) (Y := fTag (n, 2, 0, bA (pB (oF inner)))) hW hX (by have := fTag_le n 2 0 (bA (pB (oF inner))) (by decide) (by rw [size_bA]; omega); rw [size_bA] at this; omega) hl)
  have HL := Lib.hid (show (pB (oF inner)).length ≤ 1099511627776 by omega)
  obtain ⟨w1, hw1⟩ : ∃ w1, w1 = w.alloc (.cells #[.int .u8 4, .int .i64 n, .int .i64 v0, .int .u64 (q : Nat), .string s] 28) := ⟨_, rfl⟩
  have M1 := Lib.hid (show MsgR T w1 B b v X by rw [hw1]; exact h.below (op_grow 28 w 4 n v0 q s))
  have B1 := Lib.hid (show Below B w w1 by rw [hw1]; exact (op_grow 28 w 4 n v0 q s).mono hB)
  have G1 := Lib.hid (show AddK b v w w1 by rw [hw1]; exact AddK.of_below (op_grow 28 w 4 n v0 q s))
  have O1 := Lib.hid (show OpT 28 w1 w.heap.size 4 n v0 q s by rw [hw1]; exact op_alloc 28 w 4 n v0 q s)
  obtain ⟨c0, c1, c2, c3, c4⟩ := O1.out.c
  have z1 := B1.out.size
  clear h ht hq hs hi hX hl hL hR
  generalize oF inner = Z at *
  go_enter Tryd.func6, Tryd.ntmps6
  go_upto_region 1 with fail
  rw [← hw1]
  clear hw1
  go_upto_region 12 with fail
  have d1 : w1.drew.cell? ⟨w.heap.size, 1, none⟩ = some (.int .i64 n) := c1
  clear c0 c2 c3 c4
  go_region_with (first
    | (go_at_call 17; go_loud (with_reducible refine (HO.out _).mono ?_; rintro r w2 ⟨rfl, v2, m2, b2⟩); (have S2 := Lib.hid (two_last (M1.out.below (Below.refl _ w1).drew) m2 b2)); (have B2 := Lib.hid (B1.out.trans ((Below.refl _ w1).drew.trans (b2.mono (by simp; omega))))); (have G2 := Lib.hid (G1.out.trans (AddK.of_below ((Below.refl _ w1).drew.trans b2)))); (have e1 := (O1.out.below ((Below.refl _ w1).drew.trans b2)).c.2.1); (have z2 := B2.out.size); clear m2 b2)
    | (go_at_call 13; go_loud (refine (pssub_any S2.out.m S2.out.x n HL.out (HRm.out _ (by show B ≤ w2.heap.size; omega))).mono ?_; intro r w3 hq3); (have hq4 := hq3.oneK S2.out.m (N := B) (Nat.le_refl _) (by omega)); (obtain ⟨rfl, v', m3, b3, k3⟩ := hq4); (have HQ := Lib.hid (And.intro m3 (And.intro (B2.out.trans b3) (G2.out.trans k3)))); clear hq3 m3 b3 k3))
  all_goals go_wp2
  all_goals go_end0
  all_goals exact ⟨rfl, _, HQ.out⟩
theorem addo_k {T : Prop} {B b : Nat} {v : Value} {X : List FD} {w : World} (h : MsgR T w B b v X) (hB : B ≤ w.heap.size) (k : Nat) (hk : 4 < k) (n v0 : Int) (q : Nat) (s inner : ByteArray) (hq : q < 18446744073709551616) (ht : v0 = 1 ∨ v0 = 5 → T) (hs : s.size ≤ 300) (hi : inner.size ≤ 300) (hX : (pB X).length ≤ 1099511627776) (hl : X.length ≤ 1099511627776) :
    Calls Tryd.prog 6 #[.pointer (some ⟨b, 0, none⟩), .agg #[.int .u8 (k : Nat), .int .i64 n, .int .i64 v0, .int .u64 (q : Nat), .string s], .string inner] w fun e w' => e = .returned (.tuple #[]) ∧ ∃ v', MsgR T w' B b v' (X ++ opF k n v0 q s inner) ∧ Below B w w' ∧ AddK b v w w' := by
  have q0 : ((k : Int) == 0) = false := beq_eq_false_iff_ne.mpr (by omega)
  have q1 : ((k : Int) == 1) = false := beq_eq_false_iff_ne.mpr (by omega)
  have q2 : ((k : Int) == 2) = false := beq_eq_false_iff_ne.mpr (by omega)
  have q3 : ((k : Int) == 3) = false := beq_eq_false_iff_ne.mpr (by omega)
  have q4 : ((k : Int) == 4) = false := beq_eq_false_iff_ne.mpr (by omega)
  have hL := oF_len inner hi
  have hR := Lib.hid (show opF k n v0 q s inner = if pB (oF inner) = [] then [] else fTag (n, 2, 0, bA (pB (oF inner))) from by unfold opF; rw [if_neg (by omega), if_neg (by omega), if_neg (by omega), if_neg (by omega), if_neg (by omega)])
  rw [hR.out]
  have HO := Lib.hid (fun w => pof_any T inner w (by omega))
  have HRm := Lib.hid (fun W (hW : B ≤ W.heap.size) => rm_of (w := W) (Y := fTag (n, 2, 0, bA (pB (oF inner)))) hW hX (by have := fTag_le n 2 0 (bA (pB (oF inner))) (by decide) (by rw [size_bA]; omega); rw [size_bA] at this; omega) hl)
  have HL := Lib.hid (show (pB (oF inner)).length ≤ 1099511627776 by omega)
  obtain ⟨w1, hw1⟩ : ∃ w1, w1 = w.alloc (.cells #[.int .u8 (k : Nat), .int .i64 n, .int .i64 v0, .int .u64 (q : Nat), .string s] 28) := ⟨_, rfl⟩
  have M1 := Lib.hid (show MsgR T w1 B b v X by rw [hw1]; exact h.below (op_grow 28 w k n v0 q s))
  have B1 := Lib.hid (show Below B w w1 by rw [hw1]; exact (op_grow 28 w k n v0 q s).mono hB)
  have G1 := Lib.hid (show AddK b v w w1 by rw [hw1]; exact AddK.of_below (op_grow 28 w k n v0 q s))
  have O1 := Lib.hid (show OpT 28 w1 w.heap.size k n v0 q s by rw [hw1]; exact op_alloc 28 w k n v0 q s)
  obtain ⟨c0, c1, c2, c3, c4⟩ := O1.out.c
  have z1 := B1.out.size
  clear h ht hq hs hi hX hl hL hR hk
  generalize oF inner = Z at *
  generalize hY : (if pB Z = [] then [] else fTag (n, 2, 0, bA (pB Z))) = Y at *
  have HY := Lib.hid hY
  clear hY
  go_enter Tryd.func6, Tryd.ntmps6
  go_upto_region 1 with fail
  rw [← hw1]
  clear hw1
  go_upto_region 2 with fail
  have d1 : w1.drew.cell? ⟨w.heap.size, 1, none⟩ = some (.int .i64 n) := c1
  clear c0 c2 c3 c4
  go_region_with (first
    | (go_at_call 17; go_loud (with_reducible refine (HO.out _).mono ?_; rintro r w2 ⟨rfl, v2, m2, b2⟩); (have S2 := Lib.hid (two_last (M1.out.below (Below.refl _ w1).drew) m2 b2)); (have B2 := Lib.hid (B1.out.trans ((Below.refl _ w1).drew.trans (b2.mono (by simp; omega))))); (have G2 := Lib.hid (G1.out.trans (AddK.of_below ((Below.refl _ w1).drew.trans b2)))); (have e1 := (O1.out.below ((Below.refl _ w1).drew.trans b2)).c.2.1); (have z2 := B2.out.size); clear m2 b2)
    | (go_at_call 12; go_loud (refine (psub_any S2.out.m S2.out.x n HL.out (HRm.out _ (by show B ≤ w2.heap.size; omega))).mono ?_; intro r w3 hq3); (rw [HY.out] at hq3); (have hq4 := hq3.oneK S2.out.m (N := B) (Nat.le_refl _) (by omega)); (obtain ⟨rfl, v', m3, b3, k3⟩ := hq4); (have HQ := Lib.hid (And.intro m3 (And.intro (B2.out.trans b3) (G2.out.trans k3)))); clear hq3 m3 b3 k3))
  all_goals go_wp2
  all_goals go_end0
  all_goals exact ⟨rfl, _, HQ.out⟩
end Go.Proofs.YtjpppnfkpnfhoaaDoor
