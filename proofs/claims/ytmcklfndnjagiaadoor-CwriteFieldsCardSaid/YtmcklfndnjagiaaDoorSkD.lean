/- Package cskip: Inner, kind by kind, and by how many things it stands within; Value. -/
import Derived.Test.YtmcklfndnjagiaaDoorSkC
namespace Go.Proofs.YtmcklfndnjagiaaDoor
open Go Go.RowKit
set_option linter.unusedVariables false
theorem inner_1 {b : Nat} {c : CS} {w : World} (h : CurT 105 w b c) (hc : c.ok) (deep : Int) :
    Calls Tryd.prog 92 #[.pointer (some ⟨b, 0, none⟩), .int .u8 1, .int .i64 deep] w fun e w' => e = .returned (.tuple #[]) ∧ CurT 105 w' b c.tru ∧ Only b w w' := by
  have HX := Lib.hid (fun w (h : CurT 105 w b c) => truth_any h hc deep)
  have S0 := Lib.hid (pl_start h deep)
  clear hc h
  unfold plV at *
  go_enter Tryd.func92, Tryd.ntmps92
  have g0 := S0.out.2.2.2.c0
  have g1 := S0.out.2.2.2.c1
  go_wp2_with fail
  with_reducible refine (HX.out _ S0.out.1).mono ?_
  rintro e w1 ⟨rfl, h1, o1⟩
  go_wp2
  go_end0
  exact ⟨rfl, h1, S0.out.2.1.trans o1⟩
theorem inner_2 {b : Nat} {c : CS} {w : World} (h : CurT 105 w b c) (hc : c.ok) (deep : Int) :
    Calls Tryd.prog 92 #[.pointer (some ⟨b, 0, none⟩), .int .u8 2, .int .i64 deep] w fun e w' => e = .returned (.tuple #[]) ∧ CurT 105 w' b c.tru ∧ Only b w w' := by
  have HX := Lib.hid (fun w (h : CurT 105 w b c) => truth_any h hc deep)
  have S0 := Lib.hid (pl_start h deep)
  clear hc h
  unfold plV at *
  go_enter Tryd.func92, Tryd.ntmps92
  have g0 := S0.out.2.2.2.c0
  have g1 := S0.out.2.2.2.c1
  go_wp2_with fail
  with_reducible refine (HX.out _ S0.out.1).mono ?_
  rintro e w1 ⟨rfl, h1, o1⟩
  go_wp2
  go_end0
  exact ⟨rfl, h1, S0.out.2.1.trans o1⟩
theorem inner_3 {b : Nat} {c : CS} {w : World} (h : CurT 105 w b c) (hc : c.ok) (deep : Int) :
    Calls Tryd.prog 92 #[.pointer (some ⟨b, 0, none⟩), .int .u8 3, .int .i64 deep] w fun e w' => e = .returned (.tuple #[]) ∧ CurT 105 w' b c.byte ∧ Only b w w' := by
  have HX := Lib.hid (fun w (h : CurT 105 w b c) => byte_any h hc)
  have S0 := Lib.hid (pl_start h deep)
  clear hc h
  unfold plV at *
  go_enter Tryd.func92, Tryd.ntmps92
  have g0 := S0.out.2.2.2.c0
  have g1 := S0.out.2.2.2.c1
  go_wp2_with fail
  with_reducible refine (HX.out _ S0.out.1).mono ?_
  rintro e w1 ⟨rfl, h1, o1⟩
  go_wp2
  go_end0
  exact ⟨rfl, h1, S0.out.2.1.trans o1⟩
theorem inner_4 {b : Nat} {c : CS} {w : World} (h : CurT 105 w b c) (hc : c.ok) (deep : Int) :
    Calls Tryd.prog 92 #[.pointer (some ⟨b, 0, none⟩), .int .u8 4, .int .i64 deep] w fun e w' => e = .returned (.tuple #[]) ∧ CurT 105 w' b c.vTo ∧ Only b w w' := by
  have HX := Lib.hid (fun w (h : CurT 105 w b c) => vread_any h hc)
  have S0 := Lib.hid (pl_start h deep)
  clear hc h
  unfold plV at *
  go_enter Tryd.func92, Tryd.ntmps92
  have g0 := S0.out.2.2.2.c0
  have g1 := S0.out.2.2.2.c1
  go_wp2_with fail
  with_reducible refine (HX.out _ S0.out.1).mono ?_
  rintro e w1 ⟨rfl, h1, o1⟩
  go_wp2
  go_end0
  exact ⟨rfl, h1, S0.out.2.1.trans o1⟩
theorem inner_5 {b : Nat} {c : CS} {w : World} (h : CurT 105 w b c) (hc : c.ok) (deep : Int) :
    Calls Tryd.prog 92 #[.pointer (some ⟨b, 0, none⟩), .int .u8 5, .int .i64 deep] w fun e w' => e = .returned (.tuple #[]) ∧ CurT 105 w' b c.vTo ∧ Only b w w' := by
  have HX := Lib.hid (fun w (h : CurT 105 w b c) => vread_any h hc)
  have S0 := Lib.hid (pl_start h deep)
  clear hc h
  unfold plV at *
  go_enter Tryd.func92, Tryd.ntmps92
  have g0 := S0.out.2.2.2.c0
  have g1 := S0.out.2.2.2.c1
  go_wp2_with fail
  with_reducible refine (HX.out _ S0.out.1).mono ?_
  rintro e w1 ⟨rfl, h1, o1⟩
  go_wp2
  go_end0
  exact ⟨rfl, h1, S0.out.2.1.trans o1⟩
theorem inner_6 {b : Nat} {c : CS} {w : World} (h : CurT 105 w b c) (hc : c.ok) (deep : Int) :
    Calls Tryd.prog 92 #[.pointer (some ⟨b, 0, none⟩), .int .u8 6, .int .i64 deep] w fun e w' => e = .returned (.tuple #[]) ∧ CurT 105 w' b c.vTo ∧ Only b w w' := by
  have HX := Lib.hid (fun w (h : CurT 105 w b c) => vread_any h hc)
  have S0 := Lib.hid (pl_start h deep)
  clear hc h
  unfold plV at *
  go_enter Tryd.func92, Tryd.ntmps92
  have g0 := S0.out.2.2.2.c0
  have g1 := S0.out.2.2.2.c1
  go_wp2_with fail
  with_reducible refine (HX.out _ S0.out.1).mono ?_
  rintro e w1 ⟨rfl, h1, o1⟩
  go_wp2
  go_end0
  exact ⟨rfl, h1, S0.out.2.1.trans o1⟩
theorem inner_7 {b : Nat} {c : CS} {w : World} (h : CurT 105 w b c) (hc : c.ok) (deep : Int) :
    Calls Tryd.prog 92 #[.pointer (some ⟨b, 0, none⟩), .int .u8 7, .int .i64 deep] w fun e w' => e = .returned (.tuple #[]) ∧ CurT 105 w' b (c.take 8) ∧ Only b w w' := by
  have HX := Lib.hid (fun w (h : CurT 105 w b c) => take_any h hc 8)
  have S0 := Lib.hid (pl_start h deep)
  clear hc h
  unfold plV at *
  go_enter Tryd.func92, Tryd.ntmps92
  have g0 := S0.out.2.2.2.c0
  have g1 := S0.out.2.2.2.c1
  go_wp2_with fail
  with_reducible refine (HX.out _ S0.out.1).mono ?_
  rintro e w1 ⟨rfl, h1, o1⟩
  go_wp2
  go_end0
  exact ⟨rfl, h1, S0.out.2.1.trans o1⟩
theorem inner_8 {b : Nat} {c : CS} {w : World} (h : CurT 105 w b c) (hc : c.ok) (deep : Int) :
    Calls Tryd.prog 92 #[.pointer (some ⟨b, 0, none⟩), .int .u8 8, .int .i64 deep] w fun e w' => e = .returned (.tuple #[]) ∧ CurT 105 w' b c.txt ∧ Only b w w' := by
  have HX := Lib.hid (fun w (h : CurT 105 w b c) => text_any h hc deep)
  have S0 := Lib.hid (pl_start h deep)
  clear hc h
  unfold plV at *
  go_enter Tryd.func92, Tryd.ntmps92
  have g0 := S0.out.2.2.2.c0
  have g1 := S0.out.2.2.2.c1
  go_wp2_with fail
  with_reducible refine (HX.out _ S0.out.1).mono ?_
  rintro e w1 ⟨rfl, h1, o1⟩
  go_wp2
  go_end0
  exact ⟨rfl, h1, S0.out.2.1.trans o1⟩
theorem inner_9 {b : Nat} {c d : CS} {w : World} (h : CurT 105 w b c) (hc : c.ok) (deep : Int)
    (HE : Hid (∀ w, CurT 105 w b c → Calls Tryd.prog 96 #[plV b deep, .func (.func 97) #[] #[]] w fun e w' => e = .returned (.tuple #[]) ∧ CurT 105 w' b d ∧ Only b w w')) :
    Calls Tryd.prog 92 #[.pointer (some ⟨b, 0, none⟩), .int .u8 9, .int .i64 deep] w fun e w' => e = .returned (.tuple #[]) ∧ CurT 105 w' b d ∧ Only b w w' := by
  have HX := Lib.hid (fun w (h : CurT 105 w b c) => HE.out w h)
  have S0 := Lib.hid (pl_start h deep)
  clear hc h
  unfold plV at *
  go_enter Tryd.func92, Tryd.ntmps92
  have g0 := S0.out.2.2.2.c0
  have g1 := S0.out.2.2.2.c1
  go_wp2_with fail
  with_reducible refine (HX.out _ S0.out.1).mono ?_
  rintro e w1 ⟨rfl, h1, o1⟩
  go_wp2
  go_end0
  exact ⟨rfl, h1, S0.out.2.1.trans o1⟩
theorem inner_10 {b : Nat} {c d : CS} {w : World} (h : CurT 105 w b c) (hc : c.ok) (deep : Int)
    (HE : Hid (∀ w, CurT 105 w b c → Calls Tryd.prog 96 #[plV b deep, .func (.func 97) #[] #[]] w fun e w' => e = .returned (.tuple #[]) ∧ CurT 105 w' b d ∧ Only b w w')) :
    Calls Tryd.prog 92 #[.pointer (some ⟨b, 0, none⟩), .int .u8 10, .int .i64 deep] w fun e w' => e = .returned (.tuple #[]) ∧ CurT 105 w' b d ∧ Only b w w' := by
  have HX := Lib.hid (fun w (h : CurT 105 w b c) => HE.out w h)
  have S0 := Lib.hid (pl_start h deep)
  clear hc h
  unfold plV at *
  go_enter Tryd.func92, Tryd.ntmps92
  have g0 := S0.out.2.2.2.c0
  have g1 := S0.out.2.2.2.c1
  go_wp2_with fail
  with_reducible refine (HX.out _ S0.out.1).mono ?_
  rintro e w1 ⟨rfl, h1, o1⟩
  go_wp2
  go_end0
  exact ⟨rfl, h1, S0.out.2.1.trans o1⟩
theorem inner_11 {b : Nat} {c d : CS} {w : World} (h : CurT 105 w b c) (hc : c.ok) (deep : Int)
    (HE : Hid (∀ w, CurT 105 w b c → Calls Tryd.prog 96 #[plV b deep, .func (.func 98) #[] #[]] w fun e w' => e = .returned (.tuple #[]) ∧ CurT 105 w' b d ∧ Only b w w')) :
    Calls Tryd.prog 92 #[.pointer (some ⟨b, 0, none⟩), .int .u8 11, .int .i64 deep] w fun e w' => e = .returned (.tuple #[]) ∧ CurT 105 w' b d ∧ Only b w w' := by
  have HX := Lib.hid (fun w (h : CurT 105 w b c) => HE.out w h)
  have S0 := Lib.hid (pl_start h deep)
  clear hc h
  unfold plV at *
  go_enter Tryd.func92, Tryd.ntmps92
  have g0 := S0.out.2.2.2.c0
  have g1 := S0.out.2.2.2.c1
  go_wp2_with fail
  with_reducible refine (HX.out _ S0.out.1).mono ?_
  rintro e w1 ⟨rfl, h1, o1⟩
  go_wp2
  go_end0
  exact ⟨rfl, h1, S0.out.2.1.trans o1⟩
theorem inner_12 {b : Nat} {c d : CS} {w : World} (h : CurT 105 w b c) (hc : c.ok) (deep : Int)
    (HE : Hid (∀ w, CurT 105 w b c → Calls Tryd.prog 96 #[plV b deep, .func (.func 99) #[] #[]] w fun e w' => e = .returned (.tuple #[]) ∧ CurT 105 w' b d ∧ Only b w w')) :
    Calls Tryd.prog 92 #[.pointer (some ⟨b, 0, none⟩), .int .u8 12, .int .i64 deep] w fun e w' => e = .returned (.tuple #[]) ∧ CurT 105 w' b d ∧ Only b w w' := by
  have HX := Lib.hid (fun w (h : CurT 105 w b c) => HE.out w h)
  have S0 := Lib.hid (pl_start h deep)
  clear hc h
  unfold plV at *
  go_enter Tryd.func92, Tryd.ntmps92
  have g0 := S0.out.2.2.2.c0
  have g1 := S0.out.2.2.2.c1
  go_wp2_with fail
  with_reducible refine (HX.out _ S0.out.1).mono ?_
  rintro e w1 ⟨rfl, h1, o1⟩
  go_wp2
  go_end0
  exact ⟨rfl, h1, S0.out.2.1.trans o1⟩
set_option maxHeartbeats 1000000 in
theorem inner_no {b : Nat} {c : CS} {w : World} (h : CurT 105 w b c) (hc : c.ok) (deep : Int) (k : Nat) (hk : ¬ (1 ≤ k ∧ k ≤ 12)) :
    Calls Tryd.prog 92 #[.pointer (some ⟨b, 0, none⟩), .int .u8 (k : Nat), .int .i64 deep] w fun e w' => e = .returned (.tuple #[]) ∧ CurT 105 w' b (c.fail 7) ∧ Only b w w' := by
  have HX := Lib.hid (fun w (h : CurT 105 w b c) => fail_any h 7)
  have S0 := Lib.hid (pl_start h deep)
  have p1 : ((k : Int) == 1) = false := beq_eq_false_iff_ne.mpr (by omega)
  have q1 : (k == 1) = false := beq_eq_false_iff_ne.mpr (by omega)
  have p2 : ((k : Int) == 2) = false := beq_eq_false_iff_ne.mpr (by omega)
  have q2 : (k == 2) = false := beq_eq_false_iff_ne.mpr (by omega)
  have p3 : ((k : Int) == 3) = false := beq_eq_false_iff_ne.mpr (by omega)
  have q3 : (k == 3) = false := beq_eq_false_iff_ne.mpr (by omega)
  have p4 : ((k : Int) == 4) = false := beq_eq_false_iff_ne.mpr (by omega)
  have q4 : (k == 4) = false := beq_eq_false_iff_ne.mpr (by omega)
  have p5 : ((k : Int) == 5) = false := beq_eq_false_iff_ne.mpr (by omega)
  have q5 : (k == 5) = false := beq_eq_false_iff_ne.mpr (by omega)
  have p6 : ((k : Int) == 6) = false := beq_eq_false_iff_ne.mpr (by omega)
  have q6 : (k == 6) = false := beq_eq_false_iff_ne.mpr (by omega)
  have p7 : ((k : Int) == 7) = false := beq_eq_false_iff_ne.mpr (by omega)
  have q7 : (k == 7) = false := beq_eq_false_iff_ne.mpr (by omega)
  have p8 : ((k : Int) == 8) = false := beq_eq_false_iff_ne.mpr (by omega)
  have q8 : (k == 8) = false := beq_eq_false_iff_ne.mpr (by omega)
  have p9 : ((k : Int) == 9) = false := beq_eq_false_iff_ne.mpr (by omega)
  have q9 : (k == 9) = false := beq_eq_false_iff_ne.mpr (by omega)
  have p10 : ((k : Int) == 10) = false := beq_eq_false_iff_ne.mpr (by omega)
  have q10 : (k == 10) = false := beq_eq_false_iff_ne.mpr (by omega)
  have p11 : ((k : Int) == 11) = false := beq_eq_false_iff_ne.mpr (by omega)
  have q11 : (k == 11) = false := beq_eq_false_iff_ne.mpr (by omega)
  have p12 : ((k : Int) == 12) = false := beq_eq_false_iff_ne.mpr (by omega)
  have q12 : (k == 12) = false := beq_eq_false_iff_ne.mpr (by omega)
  clear hk
  clear hc h
  unfold plV at *
  go_enter Tryd.func92, Tryd.ntmps92
  have g0 := S0.out.2.2.2.c0
  have g1 := S0.out.2.2.2.c1
  go_wp2_with fail
  with_reducible refine (HX.out _ S0.out.1).mono ?_
  rintro e w1 ⟨rfl, h1, o1⟩
  go_wp2
  go_end0
  exact ⟨rfl, h1, S0.out.2.1.trans o1⟩
/-- Inner, of what stands within so many others. -/
theorem inner_step {deep : Int} (h0 : 0 ≤ deep) {r : Nat} (hr : (32 - deep).toNat = r) (hI : ∀ m, r = m + 1 → InR (deep + 1) (inTo m)) : InR deep (inTo r) := by
  intro k b c w hk h hc
  have hflat : ∀ j, hdK j = false → inTo r j c = flatTo j c := fun j hj => inTo_flat hj r c
  have hh : ∀ (j : Nat) (F : FuncId) (hj : hdK j = true) (hF : F = 97 ∨ F = 98 ∨ F = 99)
      (hP : ∀ m, r = m + 1 → ∀ w, CurT 105 w b c → Calls Tryd.prog F #[plV b (deep + 1)] w fun e w' => e = .returned (.tuple #[]) ∧ CurT 105 w' b (holdTo (inTo m) j c) ∧ Only b w w'),
      Hid (∀ w, CurT 105 w b c → Calls Tryd.prog 96 #[plV b deep, .func (.func F) #[] #[]] w fun e w' => e = .returned (.tuple #[]) ∧ CurT 105 w' b (inTo r j c) ∧ Only b w w') := by
    intro j F hj hF hP
    refine Lib.hid fun w h => ?_
    cases r with
    | zero =>
      rw [inTo_deep hj]
      exact enter_deep h deep (by omega) _
    | succ m =>
      rw [inTo_hold hj]
      exact enter_in h deep ⟨h0, by omega⟩ F hF (Lib.hid (hP m rfl))
  have hs : ∀ m k, Std (inTo m k) := in_std
  by_cases hk12 : 1 ≤ k ∧ k ≤ 12
  · have hcase : k = 1 ∨ k = 2 ∨ k = 3 ∨ k = 4 ∨ k = 5 ∨ k = 6 ∨ k = 7 ∨ k = 8 ∨ k = 9 ∨ k = 10 ∨ k = 11 ∨ k = 12 := by omega
    rcases hcase with rfl | rfl | rfl | rfl | rfl | rfl | rfl | rfl | rfl | rfl | rfl | rfl
    · rw [hflat 1 rfl]; exact inner_1 h hc deep
    · rw [hflat 2 rfl]; exact inner_2 h hc deep
    · rw [hflat 3 rfl]; exact inner_3 h hc deep
    · rw [hflat 4 rfl]; exact inner_4 h hc deep
    · rw [hflat 5 rfl]; exact inner_5 h hc deep
    · rw [hflat 6 rfl]; exact inner_6 h hc deep
    · rw [hflat 7 rfl]; exact inner_7 h hc deep
    · rw [hflat 8 rfl]; exact inner_8 h hc deep
    · exact inner_9 h hc deep (hh 9 _ rfl (.inl rfl) fun m hm w h => passlist_any (hI m hm) (hs m) h hc)
    · exact inner_10 h hc deep (hh 10 _ rfl (.inl rfl) fun m hm w h => passlist_any (hI m hm) (hs m) h hc)
    · exact inner_11 h hc deep (hh 11 _ rfl (.inr (.inl rfl)) fun m hm w h => passmap_any (hI m hm) (hs m) h hc)
    · exact inner_12 h hc deep (hh 12 _ rfl (.inr (.inr rfl)) fun m hm w h => passstruct_any (hI m hm) (hs m) h hc)
  · have hk9 : hdK k = false := by
      unfold hdK
      rcases Nat.lt_or_ge k 1 with h | h
      · rw [decide_eq_false (by omega)]; rfl
      · rw [decide_eq_false (show ¬ k ≤ 12 by omega), Bool.and_false]
    rw [hflat k hk9]
    have hfl : flatTo k c = c.fail 7 := by
      unfold flatTo
      rw [if_neg (by unfold trB; simp; omega), if_neg (by omega), if_neg (by omega), if_neg (by omega), if_neg (by omega)]
    rw [hfl]
    exact inner_no h hc deep k hk12
theorem inner_any : ∀ (r : Nat) (deep : Int), 0 ≤ deep → (32 - deep).toNat = r → InR deep (inTo r)
  | 0, deep, h0, hr => inner_step h0 hr fun m h => absurd h (by omega)
  | r + 1, deep, h0, hr => inner_step h0 hr fun m h => by
    obtain rfl : m = r := by omega
    exact inner_any m (deep + 1) (by omega) (by omega)
theorem skip_inner (k : Nat) (deep : Int) (h0 : 0 ≤ deep) {b : Nat} {c : CS} {w : World} (hk : k < 256) (h : CurT 105 w b c) (hc : c.ok) :
    Calls Tryd.prog 92 #[.pointer (some ⟨b, 0, none⟩), .int .u8 (k : Nat), .int .i64 deep] w fun e w' => e = .returned (.tuple #[]) ∧ CurT 105 w' b (inTo (32 - deep).toNat k c) ∧ Only b w w' :=
  inner_any _ deep h0 rfl k b c w hk h hc
theorem skip_value (k : Nat) (deep : Int) (h0 : 0 ≤ deep) {b : Nat} {c : CS} {w : World} (hk : k < 256) (h : CurT 105 w b c) (hc : c.ok) :
    Calls Tryd.prog 84 #[.pointer (some ⟨b, 0, none⟩), .int .u8 (k : Nat), .int .i64 deep] w fun e w' => e = .returned (.tuple #[]) ∧ CurT 105 w' b (valTo (inTo (32 - deep).toNat) k c) ∧ Only b w w' :=
  value_of (inner_any _ deep h0 rfl) k b c w hk h hc
end Go.Proofs.YtmcklfndnjagiaaDoor
