/- The document's own layer 21: values, where going past a thing within is known. -/
import Derived.Test.YtmiagebcobcaiaaDoorSkR
namespace Go.Proofs.YtmiagebcobcaiaaDoor
open Go Go.RowKit
set_option linter.unusedVariables false

/-- The document's Inner, Value, of things that stand within so many. -/
def RiR (deep : Int) (f : Nat → CS → CS) : Prop := ∀ (k : Nat) (c r : CS) (w : World), k < 256 → Alike c r → r.s.size ≤ 140737488351232 →
  Calls Tryd.prog 29 #[.agg #[.string r.s, .int .i64 r.at_, .int .i64 r.en, .int .i64 r.er], .int .u8 (k : Nat), .int .i64 deep] w fun e w' => ∃ d, e = .returned (.agg #[.string d.s, .int .i64 d.at_, .int .i64 d.en, .int .i64 d.er]) ∧ Alike (f k c) d ∧ d.s = r.s ∧ Below w.heap.size w w'
def RvR (deep : Int) (f : Nat → CS → CS) : Prop := ∀ (k : Nat) (c r : CS) (w : World), k < 256 → Alike c r → r.s.size ≤ 140737488351232 →
  Calls Tryd.prog 22 #[.agg #[.string r.s, .int .i64 r.at_, .int .i64 r.en, .int .i64 r.er], .int .u8 (k : Nat), .int .i64 deep] w fun e w' => ∃ d, e = .returned (.agg #[.string d.s, .int .i64 d.at_, .int .i64 d.en, .int .i64 d.er]) ∧ Alike (valTo f k c) d ∧ d.s = r.s ∧ Below w.heap.size w w'

def RsRel (f : Nat → CS → CS) (ks : List Nat) (R : CS) (n : Nat) (s : ByteArray) (w : World) (i : Value) (wr : World) : Prop :=
  ∃ (j : Nat) (c r : CS), j ≤ n ∧ i = .int .i64 j ∧ eachTo f ks (n - j) c = R ∧ Alike c r ∧ r.s = s ∧ R2 w wr r CS.zero
set_option maxHeartbeats 1000000 in
theorem rvals_one {deep : Int} {f : Nat → CS → CS} (hI : RiR deep f) (hf : ∀ k, Std (f k)) {n a : Nat} (hn : n ≤ 2147483647) (ha : a < 256) {c r : CS} (hal : Alike c r) (hs : r.s.size ≤ 140737488351232) (w : World) :
    Calls Tryd.prog 57 #[.agg #[.string r.s, .int .i64 r.at_, .int .i64 r.en, .int .i64 r.er], .int .i64 (n : Nat), .int .u8 (a : Nat), .int .u8 0, .int .i64 deep] w fun e w' => ∃ d, e = .returned (.agg #[.string d.s, .int .i64 d.at_, .int .i64 d.en, .int .i64 d.er]) ∧ Alike (eachTo f [a] n c) d ∧ d.s = r.s ∧ Below w.heap.size w w' := by
  obtain ⟨R, hR⟩ : ∃ R, R = eachTo f [a] n c := ⟨_, rfl⟩
  rw [← hR]
  obtain ⟨s, hss⟩ : ∃ s, s = r.s := ⟨_, rfl⟩
  have HR0 := Lib.hid (show RsRel f [a] R n s w (.int .i64 0) _ from ⟨0, c, r, Nat.zero_le _, rfl, by rw [Nat.sub_zero]; exact hR.symm, hal, hss.symm, R2.start w r⟩)
  have HI := Lib.hid hI
  have HF := Lib.hid hf
  have HZ := Lib.hid (show s.size ≤ 140737488351232 by rw [hss]; exact hs)
  have HS := Lib.hid hss
  have HAA := Lib.hid ha
  clear hI hf hR hal hs hss ha
  go_enter Tryd.func57, Tryd.ntmps57
  go_wp2_with fail
  go_loopw [11] (fun i wr => RsRel f [a] R n s w i wr) (fun i _ => n - (intOf i).toNat)
  case atStart => exact HR0.out
  case round =>
    obtain ⟨j, c1, r1, hj, rfl, hE, hal, hrs, T0⟩ := hrel
    have T0 := Lib.hid T0
    by_cases hlt : j < n
    · have p1 : decide ((j : Int) < (n : Int)) = true := decide_eq_true (by omega)
      have p1' : decide (j < n) = true := decide_eq_true hlt
      by_cases he : r1.er = 0
      · have p2 : (r1.er == 0) = true := by rw [he]; rfl
        have hE2 : eachTo f [a] (n - (j + 1)) ([a].foldl (fun c k => f k c) c1) = R := by
          rw [← hE, show n - j = (n - (j + 1)) + 1 by omega, eachTo]
        have hE2 : eachTo f [a] (n - (j + 1)) (f a c1) = R := hE2
        have HC := Lib.hid (fun w => HI.out a c1 r1 w HAA.out hal (by rw [hrs]; exact HZ.out))
        have HE := Lib.hid hE2
        have HRS := Lib.hid hrs
        clear hE hE2 he hal hrs
        have a0 := T0.out.a.c0; have a1 := T0.out.a.c1; have a2 := T0.out.a.c2; have a3 := T0.out.a.c3; have af := T0.out.a.fr
        have z0 := T0.out.b.c0; have z1 := T0.out.b.c1; have z2 := T0.out.b.c2; have z3 := T0.out.b.c3; have zf := T0.out.b.fr
        go_wp2_with fail
        with_reducible refine (HC.out _).mono ?_
        rintro e w1 ⟨d, rfl, hal1, hds, b1⟩
        have T1 := Lib.hid (T0.out.call b1)
        have HA1 := Lib.hid hal1
        have HD1 := Lib.hid (hds.trans HRS.out)
        clear b1 hal1 hds
        clear a0 a1 a2 a3 af z0 z1 z2 z3 zf
        have a0 := T1.out.a.c0; have a1 := T1.out.a.c1; have a2 := T1.out.a.c2; have a3 := T1.out.a.c3; have af := T1.out.a.fr
        have z0 := T1.out.b.c0; have z1 := T1.out.b.c1; have z2 := T1.out.b.c2; have z3 := T1.out.b.c3; have zf := T1.out.b.fr
        go_wp2_with fail
        have T2 := Lib.hid (T1.out.setA d)
        have NX := Lib.hid (show RsRel f [a] R n s w (.int .i64 ((j + 1 : Nat) : Int)) _ from ⟨j + 1, _, d, hlt, rfl, HE.out, HA1.out, HD1.out, T2.out⟩)
        clear a0 a1 a2 a3 af z0 z1 z2 z3 zf
        go_wp2
        go_roundw
        case rel => exact NX.out
        case measure => simp [intOf]; omega
      · have p2 : (r1.er == 0) = false := beq_eq_false_iff_ne.mpr he
        have HX := Lib.hid (show c1 = R by
          rw [← hE]; exact (each_bad HF.out hal.1 (by rw [hal.2.2.1]; exact he) _ _).symm)
        have HA1 := Lib.hid hal
        have HD1 := Lib.hid (hrs.trans HS.out)
        clear hE he hal hrs
        have a0 := T0.out.a.c0; have a1 := T0.out.a.c1; have a2 := T0.out.a.c2; have a3 := T0.out.a.c3; have af := T0.out.a.fr
        have z0 := T0.out.b.c0; have z1 := T0.out.b.c1; have z2 := T0.out.b.c2; have z3 := T0.out.b.c3; have zf := T0.out.b.fr
        have S1 := Lib.hid (T0.out.setB r1)
        try simp only []
        repeat (first | go_values | go_skip | go_guarded | go_step | go_upon)
        exact bodyPost_ret (cur_res1 Tryd.underlying56 rfl (by kernel_rfl) Tryd.results57 S1.out.b (by kernel_rfl)) rfl ⟨r1, rfl, by rw [← HX.out]; exact HA1.out, HD1.out, S1.out.k⟩
    · have p1 : decide ((j : Int) < (n : Int)) = false := decide_eq_false (by omega)
      have p1' : decide (j < n) = false := decide_eq_false hlt
      have HX := Lib.hid (show c1 = R by rw [← hE, show n - j = 0 by omega, eachTo])
      have HA1 := Lib.hid hal
      have HD1 := Lib.hid (hrs.trans HS.out)
      clear hE hal hrs
      have a0 := T0.out.a.c0; have a1 := T0.out.a.c1; have a2 := T0.out.a.c2; have a3 := T0.out.a.c3; have af := T0.out.a.fr
      have z0 := T0.out.b.c0; have z1 := T0.out.b.c1; have z2 := T0.out.b.c2; have z3 := T0.out.b.c3; have zf := T0.out.b.fr
      have S1 := Lib.hid (T0.out.setB r1)
      try simp only []
      repeat (first | go_values | go_skip | go_guarded | go_step | go_upon)
      exact bodyPost_ret (cur_res1 Tryd.underlying56 rfl (by kernel_rfl) Tryd.results57 S1.out.b (by kernel_rfl)) rfl ⟨r1, rfl, by rw [← HX.out]; exact HA1.out, HD1.out, S1.out.k⟩
set_option maxHeartbeats 1000000 in
theorem rvals_two {deep : Int} {f : Nat → CS → CS} (hI : RiR deep f) (hf : ∀ k, Std (f k)) {n a b : Nat} (hn : n ≤ 2147483647) (ha : a < 256) (hb : b < 256) (hb0 : ¬ b = 0) {c r : CS} (hal : Alike c r) (hs : r.s.size ≤ 140737488351232) (w : World) :
    Calls Tryd.prog 57 #[.agg #[.string r.s, .int .i64 r.at_, .int .i64 r.en, .int .i64 r.er], .int .i64 (n : Nat), .int .u8 (a : Nat), .int .u8 (b : Nat), .int .i64 deep] w fun e w' => ∃ d, e = .returned (.agg #[.string d.s, .int .i64 d.at_, .int .i64 d.en, .int .i64 d.er]) ∧ Alike (eachTo f [a, b] n c) d ∧ d.s = r.s ∧ Below w.heap.size w w' := by
  obtain ⟨R, hR⟩ : ∃ R, R = eachTo f [a, b] n c := ⟨_, rfl⟩
  rw [← hR]
  obtain ⟨s, hss⟩ : ∃ s, s = r.s := ⟨_, rfl⟩
  have HR0 := Lib.hid (show RsRel f [a, b] R n s w (.int .i64 0) _ from ⟨0, c, r, Nat.zero_le _, rfl, by rw [Nat.sub_zero]; exact hR.symm, hal, hss.symm, R2.start w r⟩)
  have HI := Lib.hid hI
  have HF := Lib.hid hf
  have HZ := Lib.hid (show s.size ≤ 140737488351232 by rw [hss]; exact hs)
  have HS := Lib.hid hss
  have k1 : ((b : Int) != 0) = true := by simp; omega
  have k1' : (b != 0) = true := by simp [hb0]
  have HB := Lib.hid hb
  have HAA := Lib.hid ha
  clear hI hf hR hal hs hss ha hb hb0
  go_enter Tryd.func57, Tryd.ntmps57
  go_wp2_with fail
  go_loopw [11] (fun i wr => RsRel f [a, b] R n s w i wr) (fun i _ => n - (intOf i).toNat)
  case atStart => exact HR0.out
  case round =>
    obtain ⟨j, c1, r1, hj, rfl, hE, hal, hrs, T0⟩ := hrel
    have T0 := Lib.hid T0
    by_cases hlt : j < n
    · have p1 : decide ((j : Int) < (n : Int)) = true := decide_eq_true (by omega)
      have p1' : decide (j < n) = true := decide_eq_true hlt
      by_cases he : r1.er = 0
      · have p2 : (r1.er == 0) = true := by rw [he]; rfl
        have hE2 : eachTo f [a, b] (n - (j + 1)) ([a, b].foldl (fun c k => f k c) c1) = R := by
          rw [← hE, show n - j = (n - (j + 1)) + 1 by omega, eachTo]
        have hE2 : eachTo f [a, b] (n - (j + 1)) (f b (f a c1)) = R := hE2
        have HC := Lib.hid (fun w => HI.out a c1 r1 w HAA.out hal (by rw [hrs]; exact HZ.out))
        have HE := Lib.hid hE2
        have HRS := Lib.hid hrs
        clear hE hE2 he hal hrs
        have a0 := T0.out.a.c0; have a1 := T0.out.a.c1; have a2 := T0.out.a.c2; have a3 := T0.out.a.c3; have af := T0.out.a.fr
        have z0 := T0.out.b.c0; have z1 := T0.out.b.c1; have z2 := T0.out.b.c2; have z3 := T0.out.b.c3; have zf := T0.out.b.fr
        go_wp2_with fail
        with_reducible refine (HC.out _).mono ?_
        rintro e w1 ⟨d, rfl, hal1, hds, b1⟩
        have T1 := Lib.hid (T0.out.call b1)
        have HA1 := Lib.hid hal1
        have HD1 := Lib.hid (hds.trans HRS.out)
        clear b1 hal1 hds
        clear a0 a1 a2 a3 af z0 z1 z2 z3 zf
        have a0 := T1.out.a.c0; have a1 := T1.out.a.c1; have a2 := T1.out.a.c2; have a3 := T1.out.a.c3; have af := T1.out.a.fr
        have z0 := T1.out.b.c0; have z1 := T1.out.b.c1; have z2 := T1.out.b.c2; have z3 := T1.out.b.c3; have zf := T1.out.b.fr
        go_wp2_with fail
        have T2 := Lib.hid (T1.out.setA d)
        obtain ⟨w2, hw⟩ : ∃ W, W = ((((w1.setCell ⟨w.heap.size, 0, none⟩ (.string d.s)).setCell ⟨w.heap.size, 1, none⟩ (.int .i64 d.at_)).setCell ⟨w.heap.size, 2, none⟩ (.int .i64 d.en)).setCell ⟨w.heap.size, 3, none⟩ (.int .i64 d.er)) := ⟨_, rfl⟩
        rw [← hw] at T2 ⊢
        clear hw
        clear a0 a1 a2 a3 af z0 z1 z2 z3 zf
        have a0 := T2.out.a.c0; have a1 := T2.out.a.c1; have a2 := T2.out.a.c2; have a3 := T2.out.a.c3; have af := T2.out.a.fr
        have z0 := T2.out.b.c0; have z1 := T2.out.b.c1; have z2 := T2.out.b.c2; have z3 := T2.out.b.c3; have zf := T2.out.b.fr
        have HC2 := Lib.hid (fun w => HI.out b (f a c1) d w HB.out HA1.out (by rw [HD1.out]; exact HZ.out))
        with_reducible refine (HC2.out _).mono ?_
        rintro e w3 ⟨x, rfl, hal3, hxs, b3⟩
        have T3 := Lib.hid (T2.out.call b3)
        have T4 := Lib.hid (T3.out.setA x)
        have NX := Lib.hid (show RsRel f [a, b] R n s w (.int .i64 ((j + 1 : Nat) : Int)) _ from ⟨j + 1, _, x, hlt, rfl, HE.out, hal3, hxs.trans HD1.out, T4.out⟩)
        clear b3 hal3 hxs
        clear a0 a1 a2 a3 af z0 z1 z2 z3 zf
        have a0 := T3.out.a.c0; have a1 := T3.out.a.c1; have a2 := T3.out.a.c2; have a3 := T3.out.a.c3; have af := T3.out.a.fr
        have z0 := T3.out.b.c0; have z1 := T3.out.b.c1; have z2 := T3.out.b.c2; have z3 := T3.out.b.c3; have zf := T3.out.b.fr
        go_wp2
        go_roundw
        case rel => exact NX.out
        case measure => simp [intOf]; omega
      · have p2 : (r1.er == 0) = false := beq_eq_false_iff_ne.mpr he
        have HX := Lib.hid (show c1 = R by
          rw [← hE]; exact (each_bad HF.out hal.1 (by rw [hal.2.2.1]; exact he) _ _).symm)
        have HA1 := Lib.hid hal
        have HD1 := Lib.hid (hrs.trans HS.out)
        clear hE he hal hrs
        have a0 := T0.out.a.c0; have a1 := T0.out.a.c1; have a2 := T0.out.a.c2; have a3 := T0.out.a.c3; have af := T0.out.a.fr
        have z0 := T0.out.b.c0; have z1 := T0.out.b.c1; have z2 := T0.out.b.c2; have z3 := T0.out.b.c3; have zf := T0.out.b.fr
        have S1 := Lib.hid (T0.out.setB r1)
        try simp only []
        repeat (first | go_values | go_skip | go_guarded | go_step | go_upon)
        exact bodyPost_ret (cur_res1 Tryd.underlying56 rfl (by kernel_rfl) Tryd.results57 S1.out.b (by kernel_rfl)) rfl ⟨r1, rfl, by rw [← HX.out]; exact HA1.out, HD1.out, S1.out.k⟩
    · have p1 : decide ((j : Int) < (n : Int)) = false := decide_eq_false (by omega)
      have p1' : decide (j < n) = false := decide_eq_false hlt
      have HX := Lib.hid (show c1 = R by rw [← hE, show n - j = 0 by omega, eachTo])
      have HA1 := Lib.hid hal
      have HD1 := Lib.hid (hrs.trans HS.out)
      clear hE hal hrs
      have a0 := T0.out.a.c0; have a1 := T0.out.a.c1; have a2 := T0.out.a.c2; have a3 := T0.out.a.c3; have af := T0.out.a.fr
      have z0 := T0.out.b.c0; have z1 := T0.out.b.c1; have z2 := T0.out.b.c2; have z3 := T0.out.b.c3; have zf := T0.out.b.fr
      have S1 := Lib.hid (T0.out.setB r1)
      try simp only []
      repeat (first | go_values | go_skip | go_guarded | go_step | go_upon)
      exact bodyPost_ret (cur_res1 Tryd.underlying56 rfl (by kernel_rfl) Tryd.results57 S1.out.b (by kernel_rfl)) rfl ⟨r1, rfl, by rw [← HX.out]; exact HA1.out, HD1.out, S1.out.k⟩
end Go.Proofs.YtmiagebcobcaiaaDoor
