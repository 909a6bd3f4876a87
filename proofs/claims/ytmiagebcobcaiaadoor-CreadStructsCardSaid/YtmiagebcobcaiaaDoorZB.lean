/- Several texts in one (SkT, SkU, SkV): each begins with its own words. -/
import Derived.Test.YtmiagebcobcaiaaDoorSkS
import Derived.Test.YtmiagebcobcaiaaDoorZA
/- The document's own layer 21: fields, where going past a field's value is known. -/
namespace Go.Proofs.YtmiagebcobcaiaaDoor
open Go Go.RowKit
set_option linter.unusedVariables false

def RfRel (f : Nat → CS → CS) (R : CS) (s : ByteArray) (w : World) (v i : Value) (wr : World) : Prop :=
  ∃ (m j : Nat) (last : Int) (c r : CS), v = .int .i64 last ∧ numB last = true ∧ i = .int .i64 j ∧ (r.er = 0 → j ≤ c.at_) ∧ c.lf < m ∧ fldTo f m last c = R ∧ Alike c r ∧ r.s = s ∧ R2 w wr r CS.zero
theorem fld_step (f : Nat → CS → CS) {m : Nat} (h : 0 < m) (last : Int) (c : CS) : fldTo f m last c = if c.hKd last = 0 then c.hTo last else fldTo f (m - 1) (c.hId last) (valTo f (c.hKd last) (c.hTo last)) := by
  cases m with
  | zero => omega
  | succ m => rfl
theorem fld_bad {f : Nat → CS → CS} {m : Nat} (h : 0 < m) (last : Int) {c : CS} (hc : c.ok) (he : ¬ c.er = 0) : fldTo f m last c = c := by
  have hk : c.hKd last = 0 := by
    by_cases hk : c.hKd last = 0
    · exact hk
    · exact absurd (head_more hc hk).2.2 he
  rw [fld_step f h, if_pos hk]
  exact (head_std last c hc).2.2.2.2 he
set_option maxHeartbeats 2000000 in
theorem rfields_any {deep : Int} {f : Nat → CS → CS} (hI : RvR deep f) (hf : ∀ k, Std (f k)) {c r : CS} (hal : Alike c r) (hs : r.s.size ≤ 140737488351232) (w : World) :
    Calls Tryd.prog 55 #[.agg #[.string r.s, .int .i64 r.at_, .int .i64 r.en, .int .i64 r.er], .int .i64 deep] w fun e w' => ∃ d, e = .returned (.agg #[.string d.s, .int .i64 d.at_, .int .i64 d.en, .int .i64 d.er]) ∧ Alike (fldTo f fuelN 0 c) d ∧ d.s = r.s ∧ Below w.heap.size w w' := by
  have hv : ∀ k, Std (valTo f k) := by
    intro k
    unfold valTo
    intro c hc
    split
    · exact Std.id c hc
    · exact hf k c hc
  obtain ⟨R, hR⟩ : ∃ R, R = fldTo f fuelN 0 c := ⟨_, rfl⟩
  rw [← hR]
  obtain ⟨s, hss⟩ : ∃ s, s = r.s := ⟨_, rfl⟩
  have HR0 := Lib.hid (show RfRel f R s w (.int .i64 0) (.int .i64 r.at_) _ from ⟨fuelN, r.at_, 0, c, r, rfl, rfl, rfl, fun h => by rw [hal.2.2.2.1 (hal.2.2.1.trans h)]; exact Nat.le_refl _, lf_fuel hal.1, hR.symm, hal, hss.symm, R2.start w r⟩)
  have T0 := Lib.hid (R2.start w r)
  have HI := Lib.hid hI
  have HV := Lib.hid hv
  have HZ := Lib.hid (show s.size ≤ 140737488351232 by rw [hss]; exact hs)
  have HS := Lib.hid hss
  clear hI hf hR hal hs hss hv
  go_enter Tryd.func55, Tryd.ntmps55
  have a0 := T0.out.a.c0; have a1 := T0.out.a.c1; have a2 := T0.out.a.c2; have a3 := T0.out.a.c3; have af := T0.out.a.fr
  have z0 := T0.out.b.c0; have z1 := T0.out.b.c1; have z2 := T0.out.b.c2; have z3 := T0.out.b.c3; have zf := T0.out.b.fr
  go_wp2_with fail
  clear T0
  clear a0 a1 a2 a3 af z0 z1 z2 z3 zf
  go_loopw [5, 6] (fun v i wr => RfRel f R s w v i wr) (fun _ i _ => s.size + 1 - (intOf i).toNat)
  case atStart => exact HR0.out
  case round =>
    obtain ⟨m, j, last, c1, r1, rfl, hnl, rfl, hj, hlf, hT, hal, hrs, T0⟩ := hrel
    have T0 := Lib.hid T0
    have hm0 : 0 < m := by omega
    by_cases he : r1.er = 0
    · have hcr : c1 = r1 := hal.2.2.2.1 (hal.2.2.1.trans he)
      have hok := hal.1
      have hj2 := hj he
      have hjs : j ≤ s.size ∧ c1.at_ ≤ s.size := by
        have h1 := hok.1
        have h2 := hok.2.1
        rw [hcr] at h1 h2
        rw [hrs] at h2
        rw [hcr] at hj2 ⊢
        omega
      have p1 : decide ((j : Int) ≤ (r1.en : Int)) = true := decide_eq_true (by have := hok.1; rw [hcr] at this hj2; omega)
      have p1' : decide (j ≤ r1.en) = true := decide_eq_true (by have := hok.1; rw [hcr] at this hj2; omega)
      have p2 : (r1.er == 0) = true := by rw [he]; rfl
      have HX := Lib.hid (fun w => rfield_any hal (by rw [hrs]; exact HZ.out) w last hnl)
      have hstd : (c1.hTo last).ok ∧ (c1.hTo last).s = c1.s ∧ (c1.hTo last).en = c1.en ∧ c1.at_ ≤ (c1.hTo last).at_ ∧ (¬ c1.er = 0 → c1.hTo last = c1) := head_std last c1 hok
      have hkl := CS.hKd_le c1 last
      have hnum := CS.hId_numb c1 last
      have hmore := head_more (c := c1) hok (last := last)
      rw [fld_step f hm0] at hT
      obtain ⟨d, hd⟩ : ∃ d, d = c1.hTo last := ⟨_, rfl⟩
      obtain ⟨k, hk⟩ : ∃ k, k = c1.hKd last := ⟨_, rfl⟩
      obtain ⟨i, hi⟩ : ∃ i, i = c1.hId last := ⟨_, rfl⟩
      rw [← hd, ← hk, ← hi] at hT HX
      rw [← hk] at hkl hmore
      rw [← hi] at hnum
      rw [← hd] at hstd hmore
      have HRS := Lib.hid hrs
      by_cases h0 : k = 0
      · subst h0
        rw [if_pos rfl] at hT
        have HT := Lib.hid hT
        clear hT hd hk hi hkl hmore hnum hstd hlf hok hnl hal hrs hm0 he hj hj2 hjs hcr
        have a0 := T0.out.a.c0; have a1 := T0.out.a.c1; have a2 := T0.out.a.c2; have a3 := T0.out.a.c3; have af := T0.out.a.fr
        have z0 := T0.out.b.c0; have z1 := T0.out.b.c1; have z2 := T0.out.b.c2; have z3 := T0.out.b.c3; have zf := T0.out.b.fr
        go_wp2_with fail
        with_reducible refine (HX.out _).mono ?_
        rintro e w1 ⟨x, rfl, hal1, hxs, b1⟩
        have T1 := Lib.hid (T0.out.call b1)
        have HA1 := Lib.hid hal1
        have HD1 := Lib.hid ((hxs.trans HRS.out).trans HS.out)
        have q := cur_alloc (w := w1) (c := x) 56
        have T2 := Lib.hid (T1.out.alloc (.cells #[.string x.s, .int .i64 x.at_, .int .i64 x.en, .int .i64 x.er] 56))
        clear b1 hal1 hxs
        clear a0 a1 a2 a3 af z0 z1 z2 z3 zf
        have a0 := T2.out.a.c0; have a1 := T2.out.a.c1; have a2 := T2.out.a.c2; have a3 := T2.out.a.c3; have af := T2.out.a.fr
        have z0 := T2.out.b.c0; have z1 := T2.out.b.c1; have z2 := T2.out.b.c2; have z3 := T2.out.b.c3; have zf := T2.out.b.fr
        have q0 := q.c0; have q1 := q.c1; have q2 := q.c2; have q3 := q.c3
        have S3 := Lib.hid ((T2.out.setA x).setB x)
        try simp only []
        repeat (first | go_values | go_skip | go_guarded | go_step | go_upon)
        exact bodyPost_ret (cur_res1 Tryd.underlying56 rfl (by kernel_rfl) Tryd.results55 S3.out.b (by kernel_rfl)) rfl ⟨x, rfl, by rw [← HT.out]; exact HA1.out, HD1.out, S3.out.k⟩
      · rw [if_neg h0] at hT
        have k1 : ((k : Int) == 0) = false := beq_eq_false_iff_ne.mpr (by omega)
        have k1' : (k == 0) = false := beq_eq_false_iff_ne.mpr h0
        obtain ⟨hm1, hm2, hm3⟩ := hmore h0
        obtain ⟨s1, s2, s3, s4, s5⟩ := hstd
        obtain ⟨z1, z2, z3, z4, z5⟩ := HV.out k d s1
        have hl2 : (valTo f k d).lf < m - 1 := by
          have := lf_less hok z1 (z3.trans s3) (by omega)
          omega
        have hj3 : j + 1 ≤ (valTo f k d).at_ := by omega
        have HC := Lib.hid (fun x w (h : Alike d x) (hx : x.s = s) => HI.out k d x w hkl h (by rw [hx]; exact HZ.out))
        have NX := Lib.hid (fun (y : CS) (wr : World) (hy : Alike (valTo f k d) y) (hys : y.s = s) (T : R2 w wr y CS.zero) => show RfRel f R s w (.int .i64 i) (.int .i64 ((j + 1 : Nat) : Int)) wr from ⟨m - 1, j + 1, i, _, y, rfl, hnum, rfl, fun _ => hj3, hl2, hT, hy, hys, T⟩)
        have HJ := Lib.hid hjs
        have hj64 : j ≤ 140737488351232 := by have := HZ.out; omega
        clear hT hd hk hi hkl hmore hnum hlf hok hnl hal hrs hm0 he hj hj2 hjs hcr hl2 hj3 hm1 hm2 hm3 s1 s2 s3 s4 s5 z1 z2 z3 z4 z5 h0
        have a0 := T0.out.a.c0; have a1 := T0.out.a.c1; have a2 := T0.out.a.c2; have a3 := T0.out.a.c3; have af := T0.out.a.fr
        have z0 := T0.out.b.c0; have z1 := T0.out.b.c1; have z2 := T0.out.b.c2; have z3 := T0.out.b.c3; have zf := T0.out.b.fr
        go_wp2_with fail
        with_reducible refine (HX.out _).mono ?_
        rintro e w1 ⟨x, rfl, hal1, hxs, b1⟩
        have T1 := Lib.hid (T0.out.call b1)
        have HA1 := Lib.hid hal1
        have HD1 := Lib.hid (hxs.trans HRS.out)
        have q := cur_alloc (w := w1) (c := x) 56
        have T2 := Lib.hid (T1.out.alloc (.cells #[.string x.s, .int .i64 x.at_, .int .i64 x.en, .int .i64 x.er] 56))
        clear b1 hal1 hxs
        clear a0 a1 a2 a3 af z0 z1 z2 z3 zf
        have a0 := T2.out.a.c0; have a1 := T2.out.a.c1; have a2 := T2.out.a.c2; have a3 := T2.out.a.c3; have af := T2.out.a.fr
        have z0 := T2.out.b.c0; have z1 := T2.out.b.c1; have z2 := T2.out.b.c2; have z3 := T2.out.b.c3; have zf := T2.out.b.fr
        have q0 := q.c0; have q1 := q.c1; have q2 := q.c2; have q3 := q.c3
        go_wp2_with fail
        clear q q0 q1 q2 q3
        generalize w1.alloc (.cells #[.string x.s, .int .i64 x.at_, .int .i64 x.en, .int .i64 x.er] 56) = w2 at T2 ⊢
        have T3 := Lib.hid (T2.out.setA x)
        obtain ⟨w3, hw⟩ : ∃ W, W = ((((w2.setCell ⟨w.heap.size, 0, none⟩ (.string x.s)).setCell ⟨w.heap.size, 1, none⟩ (.int .i64 x.at_)).setCell ⟨w.heap.size, 2, none⟩ (.int .i64 x.en)).setCell ⟨w.heap.size, 3, none⟩ (.int .i64 x.er)) := ⟨_, rfl⟩
        rw [← hw] at T3 ⊢
        clear hw
        clear a0 a1 a2 a3 af z0 z1 z2 z3 zf
        have a0 := T3.out.a.c0; have a1 := T3.out.a.c1; have a2 := T3.out.a.c2; have a3 := T3.out.a.c3; have af := T3.out.a.fr
        have z0 := T3.out.b.c0; have z1 := T3.out.b.c1; have z2 := T3.out.b.c2; have z3 := T3.out.b.c3; have zf := T3.out.b.fr
        with_reducible refine (HC.out x _ HA1.out HD1.out).mono ?_
        rintro e w4 ⟨y, rfl, hal4, hys, b4⟩
        have T4 := Lib.hid (T3.out.call b4)
        have T5 := Lib.hid (T4.out.setA y)
        have N5 := Lib.hid (NX.out y _ hal4 (hys.trans HD1.out) T5.out)
        clear b4 hal4 hys NX
        clear a0 a1 a2 a3 af z0 z1 z2 z3 zf
        have a0 := T4.out.a.c0; have a1 := T4.out.a.c1; have a2 := T4.out.a.c2; have a3 := T4.out.a.c3; have af := T4.out.a.fr
        have z0 := T4.out.b.c0; have z1 := T4.out.b.c1; have z2 := T4.out.b.c2; have z3 := T4.out.b.c3; have zf := T4.out.b.fr
        go_wp2
        go_roundw
        case rel => exact N5.out
        case measure => have := HJ.out; simp [intOf]; omega
    · have p2 : (r1.er == 0) = false := beq_eq_false_iff_ne.mpr he
      have HX := Lib.hid (show c1 = R by
        rw [← hT]; exact (fld_bad hm0 last hal.1 (by rw [hal.2.2.1]; exact he)).symm)
      have HA1 := Lib.hid hal
      have HD1 := Lib.hid (hrs.trans HS.out)
      have S1 := Lib.hid (T0.out.setB r1)
      by_cases hje : j ≤ r1.en
      · have p1 : decide ((j : Int) ≤ (r1.en : Int)) = true := decide_eq_true (by omega)
        have p1' : decide (j ≤ r1.en) = true := decide_eq_true hje
        clear hT he hal hrs hlf hm0 hj hnl hje
        have a0 := T0.out.a.c0; have a1 := T0.out.a.c1; have a2 := T0.out.a.c2; have a3 := T0.out.a.c3; have af := T0.out.a.fr
        have z0 := T0.out.b.c0; have z1 := T0.out.b.c1; have z2 := T0.out.b.c2; have z3 := T0.out.b.c3; have zf := T0.out.b.fr
        try simp only []
        repeat (first | go_values | go_skip | go_guarded | go_step | go_upon)
        exact bodyPost_ret (cur_res1 Tryd.underlying56 rfl (by kernel_rfl) Tryd.results55 S1.out.b (by kernel_rfl)) rfl ⟨r1, rfl, by rw [← HX.out]; exact HA1.out, HD1.out, S1.out.k⟩
      · have p1 : decide ((j : Int) ≤ (r1.en : Int)) = false := decide_eq_false (by omega)
        have p1' : decide (j ≤ r1.en) = false := decide_eq_false hje
        clear hT he hal hrs hlf hm0 hj hnl hje
        have a0 := T0.out.a.c0; have a1 := T0.out.a.c1; have a2 := T0.out.a.c2; have a3 := T0.out.a.c3; have af := T0.out.a.fr
        have z0 := T0.out.b.c0; have z1 := T0.out.b.c1; have z2 := T0.out.b.c2; have z3 := T0.out.b.c3; have zf := T0.out.b.fr
        try simp only []
        repeat (first | go_values | go_skip | go_guarded | go_step | go_upon)
        exact bodyPost_ret (cur_res1 Tryd.underlying56 rfl (by kernel_rfl) Tryd.results55 S1.out.b (by kernel_rfl)) rfl ⟨r1, rfl, by rw [← HX.out]; exact HA1.out, HD1.out, S1.out.k⟩
end Go.Proofs.YtmiagebcobcaiaaDoor
/- The document's own layer 21: Value, kind by kind. -/
namespace Go.Proofs.YtmiagebcobcaiaaDoor
open Go Go.RowKit
set_option linter.unusedVariables false
set_option maxHeartbeats 1000000 in
theorem rvalue_no {c r : CS} (ha : Alike c r) (hs : r.s.size ≤ 140737488351232) (w : World) (deep : Int) (k : Nat) (hk : kB k = false) :
    Calls Tryd.prog 22 #[.agg #[.string r.s, .int .i64 r.at_, .int .i64 r.en, .int .i64 r.er], .int .u8 (k : Nat), .int .i64 deep] w fun e w' => ∃ d, e = .returned (.agg #[.string d.s, .int .i64 d.at_, .int .i64 d.en, .int .i64 d.er]) ∧ Alike (c.fail 7) d ∧ d.s = r.s ∧ Below w.heap.size w w' := by
  have HI := Lib.hid (fun w => ris_l (k := k) (x := false) (Lib.hid hk.symm) w)
  have HQ := Lib.hid (ha.std (Std.fail 7))
  have HS := Lib.hid (show (r.fail 7).s = r.s from (Std.fail 7 r ha.2.1).2.1)
  have HK := Lib.hid (fun w => rfl_l (r := r) (k := 7) (Lib.hid rfl) w)
  obtain ⟨x, hx⟩ : ∃ x, x = r.fail 7 := ⟨_, rfl⟩
  rw [← hx] at HK HS HQ
  clear ha hs hx hk
  have T0 := Lib.hid (R2.start w r)
  go_enter Tryd.func22, Tryd.ntmps22
  have a0 := T0.out.a.c0; have a1 := T0.out.a.c1; have a2 := T0.out.a.c2; have a3 := T0.out.a.c3; have af := T0.out.a.fr
  have z0 := T0.out.b.c0; have z1 := T0.out.b.c1; have z2 := T0.out.b.c2; have z3 := T0.out.b.c3; have zf := T0.out.b.fr
  go_wp2_with fail
  with_reducible refine (HI.out _).mono ?_
  rintro e w' ⟨rfl, hww⟩
  rw [hww]
  clear hww
  go_wp2_with fail
  with_reducible refine (HK.out _).mono ?_
  rintro e w1 ⟨rfl, b1⟩
  have T1 := Lib.hid (T0.out.call b1)
  clear b1
  clear a0 a1 a2 a3 af z0 z1 z2 z3 zf
  have a0 := T1.out.a.c0; have a1 := T1.out.a.c1; have a2 := T1.out.a.c2; have a3 := T1.out.a.c3; have af := T1.out.a.fr
  have z0 := T1.out.b.c0; have z1 := T1.out.b.c1; have z2 := T1.out.b.c2; have z3 := T1.out.b.c3; have zf := T1.out.b.fr
  have S1 := Lib.hid (T1.out.setB x)
  try simp only []
  repeat (first | go_values | go_skip | go_guarded | go_step | go_upon)
  exact bodyPost_ret (cur_res1 Tryd.underlying56 rfl (by kernel_rfl) Tryd.results22 S1.out.b (by kernel_rfl)) rfl ⟨x, rfl, HQ.out, HS.out, S1.out.k⟩
set_option maxHeartbeats 1000000 in
theorem rvalue_deep {c r : CS} (ha : Alike c r) (hs : r.s.size ≤ 140737488351232) (w : World) (deep : Int) (k : Nat) (hk : kB k = true) (hh : hdK k = true) (hd : 32 ≤ deep) :
    Calls Tryd.prog 22 #[.agg #[.string r.s, .int .i64 r.at_, .int .i64 r.en, .int .i64 r.er], .int .u8 (k : Nat), .int .i64 deep] w fun e w' => ∃ d, e = .returned (.agg #[.string d.s, .int .i64 d.at_, .int .i64 d.en, .int .i64 d.er]) ∧ Alike (c.fail 33) d ∧ d.s = r.s ∧ Below w.heap.size w w' := by
  have HI := Lib.hid (fun w => ris_l (k := k) (x := true) (Lib.hid hk.symm) w)
  have HH0 := (fun w => rholds_any k w)
  rw [hh] at HH0
  have HH := Lib.hid HH0
  have p1 : decide ((32 : Int) ≤ deep) = true := decide_eq_true hd
  have HQ := Lib.hid (ha.std (Std.fail 33))
  have HS := Lib.hid (show (r.fail 33).s = r.s from (Std.fail 33 r ha.2.1).2.1)
  have HK := Lib.hid (fun w => rfl_l (r := r) (k := 33) (Lib.hid rfl) w)
  obtain ⟨x, hx⟩ : ∃ x, x = r.fail 33 := ⟨_, rfl⟩
  rw [← hx] at HK HS HQ
  clear ha hs hx hk HH0 hh hd
  have T0 := Lib.hid (R2.start w r)
  go_enter Tryd.func22, Tryd.ntmps22
  have a0 := T0.out.a.c0; have a1 := T0.out.a.c1; have a2 := T0.out.a.c2; have a3 := T0.out.a.c3; have af := T0.out.a.fr
  have z0 := T0.out.b.c0; have z1 := T0.out.b.c1; have z2 := T0.out.b.c2; have z3 := T0.out.b.c3; have zf := T0.out.b.fr
  go_wp2_with fail
  with_reducible refine (HI.out _).mono ?_
  rintro e w' ⟨rfl, hww⟩
  rw [hww]
  clear hww
  go_wp2_with fail
  with_reducible refine (HH.out _).mono ?_
  rintro e w' ⟨rfl, hww⟩
  rw [hww]
  clear hww
  go_wp2_with fail
  with_reducible refine (HK.out _).mono ?_
  rintro e w1 ⟨rfl, b1⟩
  have T1 := Lib.hid (T0.out.call b1)
  clear b1
  clear a0 a1 a2 a3 af z0 z1 z2 z3 zf
  have a0 := T1.out.a.c0; have a1 := T1.out.a.c1; have a2 := T1.out.a.c2; have a3 := T1.out.a.c3; have af := T1.out.a.fr
  have z0 := T1.out.b.c0; have z1 := T1.out.b.c1; have z2 := T1.out.b.c2; have z3 := T1.out.b.c3; have zf := T1.out.b.fr
  have S1 := Lib.hid (T1.out.setB x)
  try simp only []
  repeat (first | go_values | go_skip | go_guarded | go_step | go_upon)
  exact bodyPost_ret (cur_res1 Tryd.underlying56 rfl (by kernel_rfl) Tryd.results22 S1.out.b (by kernel_rfl)) rfl ⟨x, rfl, HQ.out, HS.out, S1.out.k⟩
set_option maxHeartbeats 1000000 in
theorem rvalue_1 {c r : CS} (ha : Alike c r) (hs : r.s.size ≤ 140737488351232) (w : World) (deep : Int) :
    Calls Tryd.prog 22 #[.agg #[.string r.s, .int .i64 r.at_, .int .i64 r.en, .int .i64 r.er], .int .u8 1, .int .i64 deep] w fun e w' => ∃ d, e = .returned (.agg #[.string d.s, .int .i64 d.at_, .int .i64 d.en, .int .i64 d.er]) ∧ Alike c d ∧ d.s = r.s ∧ Below w.heap.size w w' := by
  have HI : Hid (∀ w, Calls Tryd.prog 47 #[.int .u8 1] w fun e w' => e = .returned (.bool true) ∧ w' = w) := Lib.hid fun w => ris_any 1 w
  have HH : Hid (∀ w, Calls Tryd.prog 52 #[.int .u8 1] w fun e w' => e = .returned (.bool false) ∧ w' = w) := Lib.hid fun w => rholds_any 1 w
  have HA := Lib.hid ha
  clear ha hs
  have T0 := Lib.hid (R2.start w r)
  go_enter Tryd.func22, Tryd.ntmps22
  have a0 := T0.out.a.c0; have a1 := T0.out.a.c1; have a2 := T0.out.a.c2; have a3 := T0.out.a.c3; have af := T0.out.a.fr
  have z0 := T0.out.b.c0; have z1 := T0.out.b.c1; have z2 := T0.out.b.c2; have z3 := T0.out.b.c3; have zf := T0.out.b.fr
  go_wp2_with fail
  with_reducible refine (HI.out _).mono ?_
  rintro e w' ⟨rfl, hww⟩
  rw [hww]
  clear hww
  go_wp2_with fail
  with_reducible refine (HH.out _).mono ?_
  rintro e w' ⟨rfl, hww⟩
  rw [hww]
  clear hww
  obtain ⟨w0, hw0⟩ : ∃ W, W = ((w.alloc (.cells #[.string r.s, .int .i64 r.at_, .int .i64 r.en, .int .i64 r.er] 56)).alloc (.cells #[.string ⟨#[]⟩, .int .i64 0, .int .i64 0, .int .i64 0] 56)) := ⟨_, rfl⟩
  rw [← hw0] at T0 ⊢
  clear hw0
  clear a0 a1 a2 a3 af z0 z1 z2 z3 zf
  have a0 := T0.out.a.c0; have a1 := T0.out.a.c1; have a2 := T0.out.a.c2; have a3 := T0.out.a.c3; have af := T0.out.a.fr
  have z0 := T0.out.b.c0; have z1 := T0.out.b.c1; have z2 := T0.out.b.c2; have z3 := T0.out.b.c3; have zf := T0.out.b.fr
  have S1 := Lib.hid (T0.out.setB r)
  try simp only []
  repeat (first | go_values | go_skip | go_guarded | go_step | go_upon)
  exact bodyPost_ret (cur_res1 Tryd.underlying56 rfl (by kernel_rfl) Tryd.results22 S1.out.b (by kernel_rfl)) rfl ⟨r, rfl, HA.out, rfl, S1.out.k⟩
set_option maxHeartbeats 1000000 in
theorem rvalue_2 {c r : CS} (ha : Alike c r) (hs : r.s.size ≤ 140737488351232) (w : World) (deep : Int) :
    Calls Tryd.prog 22 #[.agg #[.string r.s, .int .i64 r.at_, .int .i64 r.en, .int .i64 r.er], .int .u8 2, .int .i64 deep] w fun e w' => ∃ d, e = .returned (.agg #[.string d.s, .int .i64 d.at_, .int .i64 d.en, .int .i64 d.er]) ∧ Alike c d ∧ d.s = r.s ∧ Below w.heap.size w w' := by
  have HI : Hid (∀ w, Calls Tryd.prog 47 #[.int .u8 2] w fun e w' => e = .returned (.bool true) ∧ w' = w) := Lib.hid fun w => ris_any 2 w
  have HH : Hid (∀ w, Calls Tryd.prog 52 #[.int .u8 2] w fun e w' => e = .returned (.bool false) ∧ w' = w) := Lib.hid fun w => rholds_any 2 w
  have HA := Lib.hid ha
  clear ha hs
  have T0 := Lib.hid (R2.start w r)
  go_enter Tryd.func22, Tryd.ntmps22
  have a0 := T0.out.a.c0; have a1 := T0.out.a.c1; have a2 := T0.out.a.c2; have a3 := T0.out.a.c3; have af := T0.out.a.fr
  have z0 := T0.out.b.c0; have z1 := T0.out.b.c1; have z2 := T0.out.b.c2; have z3 := T0.out.b.c3; have zf := T0.out.b.fr
  go_wp2_with fail
  with_reducible refine (HI.out _).mono ?_
  rintro e w' ⟨rfl, hww⟩
  rw [hww]
  clear hww
  go_wp2_with fail
  with_reducible refine (HH.out _).mono ?_
  rintro e w' ⟨rfl, hww⟩
  rw [hww]
  clear hww
  obtain ⟨w0, hw0⟩ : ∃ W, W = ((w.alloc (.cells #[.string r.s, .int .i64 r.at_, .int .i64 r.en, .int .i64 r.er] 56)).alloc (.cells #[.string ⟨#[]⟩, .int .i64 0, .int .i64 0, .int .i64 0] 56)) := ⟨_, rfl⟩
  rw [← hw0] at T0 ⊢
  clear hw0
  clear a0 a1 a2 a3 af z0 z1 z2 z3 zf
  have a0 := T0.out.a.c0; have a1 := T0.out.a.c1; have a2 := T0.out.a.c2; have a3 := T0.out.a.c3; have af := T0.out.a.fr
  have z0 := T0.out.b.c0; have z1 := T0.out.b.c1; have z2 := T0.out.b.c2; have z3 := T0.out.b.c3; have zf := T0.out.b.fr
  have S1 := Lib.hid (T0.out.setB r)
  try simp only []
  repeat (first | go_values | go_skip | go_guarded | go_step | go_upon)
  exact bodyPost_ret (cur_res1 Tryd.underlying56 rfl (by kernel_rfl) Tryd.results22 S1.out.b (by kernel_rfl)) rfl ⟨r, rfl, HA.out, rfl, S1.out.k⟩
set_option maxHeartbeats 1000000 in
theorem rvalue_3 {c r : CS} (ha : Alike c r) (hs : r.s.size ≤ 140737488351232) (w : World) (deep : Int) :
    Calls Tryd.prog 22 #[.agg #[.string r.s, .int .i64 r.at_, .int .i64 r.en, .int .i64 r.er], .int .u8 3, .int .i64 deep] w fun e w' => ∃ d, e = .returned (.agg #[.string d.s, .int .i64 d.at_, .int .i64 d.en, .int .i64 d.er]) ∧ Alike (c.take 1) d ∧ d.s = r.s ∧ Below w.heap.size w w' := by
  have HI : Hid (∀ w, Calls Tryd.prog 47 #[.int .u8 3] w fun e w' => e = .returned (.bool true) ∧ w' = w) := Lib.hid fun w => ris_any 3 w
  have HH : Hid (∀ w, Calls Tryd.prog 52 #[.int .u8 3] w fun e w' => e = .returned (.bool false) ∧ w' = w) := Lib.hid fun w => rholds_any 3 w
  have HQ := Lib.hid (ha.std (Std.take 1))
  have HS := Lib.hid (show (r.take 1).s = r.s from (Std.take 1 r ha.2.1).2.1)
  have HK := Lib.hid (fun w => rtk_l (r := r) (n := 1) (Lib.hid rfl) (Lib.hid rfl) (Lib.hid ha.2.1) w)
  obtain ⟨x, hx⟩ : ∃ x, x = r.take 1 := ⟨_, rfl⟩
  rw [← hx] at HK HS HQ
  clear ha hs hx
  have T0 := Lib.hid (R2.start w r)
  go_enter Tryd.func22, Tryd.ntmps22
  have a0 := T0.out.a.c0; have a1 := T0.out.a.c1; have a2 := T0.out.a.c2; have a3 := T0.out.a.c3; have af := T0.out.a.fr
  have z0 := T0.out.b.c0; have z1 := T0.out.b.c1; have z2 := T0.out.b.c2; have z3 := T0.out.b.c3; have zf := T0.out.b.fr
  go_wp2_with fail
  with_reducible refine (HI.out _).mono ?_
  rintro e w' ⟨rfl, hww⟩
  rw [hww]
  clear hww
  go_wp2_with fail
  with_reducible refine (HH.out _).mono ?_
  rintro e w' ⟨rfl, hww⟩
  rw [hww]
  clear hww
  go_wp2_with fail
  with_reducible refine (HK.out _).mono ?_
  rintro e w1 ⟨rfl, b1⟩
  have T1 := Lib.hid (T0.out.call b1)
  clear b1
  clear a0 a1 a2 a3 af z0 z1 z2 z3 zf
  have a0 := T1.out.a.c0; have a1 := T1.out.a.c1; have a2 := T1.out.a.c2; have a3 := T1.out.a.c3; have af := T1.out.a.fr
  have z0 := T1.out.b.c0; have z1 := T1.out.b.c1; have z2 := T1.out.b.c2; have z3 := T1.out.b.c3; have zf := T1.out.b.fr
  have S1 := Lib.hid ((T1.out.setA x).setB x)
  try simp only []
  repeat (first | go_values | go_skip | go_guarded | go_step | go_upon)
  exact bodyPost_ret (cur_res1 Tryd.underlying56 rfl (by kernel_rfl) Tryd.results22 S1.out.b (by kernel_rfl)) rfl ⟨x, rfl, HQ.out, HS.out, S1.out.k⟩
set_option maxHeartbeats 1000000 in
theorem rvalue_7 {c r : CS} (ha : Alike c r) (hs : r.s.size ≤ 140737488351232) (w : World) (deep : Int) :
    Calls Tryd.prog 22 #[.agg #[.string r.s, .int .i64 r.at_, .int .i64 r.en, .int .i64 r.er], .int .u8 7, .int .i64 deep] w fun e w' => ∃ d, e = .returned (.agg #[.string d.s, .int .i64 d.at_, .int .i64 d.en, .int .i64 d.er]) ∧ Alike (c.take 8) d ∧ d.s = r.s ∧ Below w.heap.size w w' := by
  have HI : Hid (∀ w, Calls Tryd.prog 47 #[.int .u8 7] w fun e w' => e = .returned (.bool true) ∧ w' = w) := Lib.hid fun w => ris_any 7 w
  have HH : Hid (∀ w, Calls Tryd.prog 52 #[.int .u8 7] w fun e w' => e = .returned (.bool false) ∧ w' = w) := Lib.hid fun w => rholds_any 7 w
  have HQ := Lib.hid (ha.std (Std.take 8))
  have HS := Lib.hid (show (r.take 8).s = r.s from (Std.take 8 r ha.2.1).2.1)
  have HK := Lib.hid (fun w => rtk_l (r := r) (n := 8) (Lib.hid rfl) (Lib.hid rfl) (Lib.hid ha.2.1) w)
  obtain ⟨x, hx⟩ : ∃ x, x = r.take 8 := ⟨_, rfl⟩
  rw [← hx] at HK HS HQ
  clear ha hs hx
  have T0 := Lib.hid (R2.start w r)
  go_enter Tryd.func22, Tryd.ntmps22
  have a0 := T0.out.a.c0; have a1 := T0.out.a.c1; have a2 := T0.out.a.c2; have a3 := T0.out.a.c3; have af := T0.out.a.fr
  have z0 := T0.out.b.c0; have z1 := T0.out.b.c1; have z2 := T0.out.b.c2; have z3 := T0.out.b.c3; have zf := T0.out.b.fr
  go_wp2_with fail
  with_reducible refine (HI.out _).mono ?_
  rintro e w' ⟨rfl, hww⟩
  rw [hww]
  clear hww
  go_wp2_with fail
  with_reducible refine (HH.out _).mono ?_
  rintro e w' ⟨rfl, hww⟩
  rw [hww]
  clear hww
  go_wp2_with fail
  with_reducible refine (HK.out _).mono ?_
  rintro e w1 ⟨rfl, b1⟩
  have T1 := Lib.hid (T0.out.call b1)
  clear b1
  clear a0 a1 a2 a3 af z0 z1 z2 z3 zf
  have a0 := T1.out.a.c0; have a1 := T1.out.a.c1; have a2 := T1.out.a.c2; have a3 := T1.out.a.c3; have af := T1.out.a.fr
  have z0 := T1.out.b.c0; have z1 := T1.out.b.c1; have z2 := T1.out.b.c2; have z3 := T1.out.b.c3; have zf := T1.out.b.fr
  have S1 := Lib.hid ((T1.out.setA x).setB x)
  try simp only []
  repeat (first | go_values | go_skip | go_guarded | go_step | go_upon)
  exact bodyPost_ret (cur_res1 Tryd.underlying56 rfl (by kernel_rfl) Tryd.results22 S1.out.b (by kernel_rfl)) rfl ⟨x, rfl, HQ.out, HS.out, S1.out.k⟩
set_option maxHeartbeats 1000000 in
theorem rvalue_4 {c r : CS} (ha : Alike c r) (hs : r.s.size ≤ 140737488351232) (w : World) (deep : Int) :
    Calls Tryd.prog 22 #[.agg #[.string r.s, .int .i64 r.at_, .int .i64 r.en, .int .i64 r.er], .int .u8 4, .int .i64 deep] w fun e w' => ∃ d, e = .returned (.agg #[.string d.s, .int .i64 d.at_, .int .i64 d.en, .int .i64 d.er]) ∧ Alike c.vTo d ∧ d.s = r.s ∧ Below w.heap.size w w' := by
  have HI : Hid (∀ w, Calls Tryd.prog 47 #[.int .u8 4] w fun e w' => e = .returned (.bool true) ∧ w' = w) := Lib.hid fun w => ris_any 4 w
  have HH : Hid (∀ w, Calls Tryd.prog 52 #[.int .u8 4] w fun e w' => e = .returned (.bool false) ∧ w' = w) := Lib.hid fun w => rholds_any 4 w
  have HK := Lib.hid (fun w => rr_l (V := ((c.vVal : Nat) : Int)) (Lib.hid rfl) (Lib.hid ha) hs w)
  generalize c.vVal = u at HK
  clear ha hs
  have T0 := Lib.hid (R2.start w r)
  go_enter Tryd.func22, Tryd.ntmps22
  have a0 := T0.out.a.c0; have a1 := T0.out.a.c1; have a2 := T0.out.a.c2; have a3 := T0.out.a.c3; have af := T0.out.a.fr
  have z0 := T0.out.b.c0; have z1 := T0.out.b.c1; have z2 := T0.out.b.c2; have z3 := T0.out.b.c3; have zf := T0.out.b.fr
  go_wp2_with fail
  with_reducible refine (HI.out _).mono ?_
  rintro e w' ⟨rfl, hww⟩
  rw [hww]
  clear hww
  go_wp2_with fail
  with_reducible refine (HH.out _).mono ?_
  rintro e w' ⟨rfl, hww⟩
  rw [hww]
  clear hww
  go_wp2_with fail
  with_reducible refine (HK.out _).mono ?_
  rintro e w1 ⟨x, rfl, hal, hxs, b1⟩
  have T1 := Lib.hid (T0.out.call b1)
  have HQ := Lib.hid hal
  have HS := Lib.hid hxs
  clear b1 hal hxs
  clear a0 a1 a2 a3 af z0 z1 z2 z3 zf
  have a0 := T1.out.a.c0; have a1 := T1.out.a.c1; have a2 := T1.out.a.c2; have a3 := T1.out.a.c3; have af := T1.out.a.fr
  have z0 := T1.out.b.c0; have z1 := T1.out.b.c1; have z2 := T1.out.b.c2; have z3 := T1.out.b.c3; have zf := T1.out.b.fr
  have S1 := Lib.hid ((T1.out.setA x).setB x)
  try simp only []
  repeat (first | go_values | go_skip | go_guarded | go_step | go_upon)
  exact bodyPost_ret (cur_res1 Tryd.underlying56 rfl (by kernel_rfl) Tryd.results22 S1.out.b (by kernel_rfl)) rfl ⟨x, rfl, HQ.out, HS.out, S1.out.k⟩
set_option maxHeartbeats 1000000 in
theorem rvalue_5 {c r : CS} (ha : Alike c r) (hs : r.s.size ≤ 140737488351232) (w : World) (deep : Int) :
    Calls Tryd.prog 22 #[.agg #[.string r.s, .int .i64 r.at_, .int .i64 r.en, .int .i64 r.er], .int .u8 5, .int .i64 deep] w fun e w' => ∃ d, e = .returned (.agg #[.string d.s, .int .i64 d.at_, .int .i64 d.en, .int .i64 d.er]) ∧ Alike c.vTo d ∧ d.s = r.s ∧ Below w.heap.size w w' := by
  have HI : Hid (∀ w, Calls Tryd.prog 47 #[.int .u8 5] w fun e w' => e = .returned (.bool true) ∧ w' = w) := Lib.hid fun w => ris_any 5 w
  have HH : Hid (∀ w, Calls Tryd.prog 52 #[.int .u8 5] w fun e w' => e = .returned (.bool false) ∧ w' = w) := Lib.hid fun w => rholds_any 5 w
  have HK := Lib.hid (fun w => rr_l (V := ((c.vVal : Nat) : Int)) (Lib.hid rfl) (Lib.hid ha) hs w)
  generalize c.vVal = u at HK
  clear ha hs
  have T0 := Lib.hid (R2.start w r)
  go_enter Tryd.func22, Tryd.ntmps22
  have a0 := T0.out.a.c0; have a1 := T0.out.a.c1; have a2 := T0.out.a.c2; have a3 := T0.out.a.c3; have af := T0.out.a.fr
  have z0 := T0.out.b.c0; have z1 := T0.out.b.c1; have z2 := T0.out.b.c2; have z3 := T0.out.b.c3; have zf := T0.out.b.fr
  go_wp2_with fail
  with_reducible refine (HI.out _).mono ?_
  rintro e w' ⟨rfl, hww⟩
  rw [hww]
  clear hww
  go_wp2_with fail
  with_reducible refine (HH.out _).mono ?_
  rintro e w' ⟨rfl, hww⟩
  rw [hww]
  clear hww
  go_wp2_with fail
  with_reducible refine (HK.out _).mono ?_
  rintro e w1 ⟨x, rfl, hal, hxs, b1⟩
  have T1 := Lib.hid (T0.out.call b1)
  have HQ := Lib.hid hal
  have HS := Lib.hid hxs
  clear b1 hal hxs
  clear a0 a1 a2 a3 af z0 z1 z2 z3 zf
  have a0 := T1.out.a.c0; have a1 := T1.out.a.c1; have a2 := T1.out.a.c2; have a3 := T1.out.a.c3; have af := T1.out.a.fr
  have z0 := T1.out.b.c0; have z1 := T1.out.b.c1; have z2 := T1.out.b.c2; have z3 := T1.out.b.c3; have zf := T1.out.b.fr
  have S1 := Lib.hid ((T1.out.setA x).setB x)
  try simp only []
  repeat (first | go_values | go_skip | go_guarded | go_step | go_upon)
  exact bodyPost_ret (cur_res1 Tryd.underlying56 rfl (by kernel_rfl) Tryd.results22 S1.out.b (by kernel_rfl)) rfl ⟨x, rfl, HQ.out, HS.out, S1.out.k⟩
set_option maxHeartbeats 1000000 in
theorem rvalue_6 {c r : CS} (ha : Alike c r) (hs : r.s.size ≤ 140737488351232) (w : World) (deep : Int) :
    Calls Tryd.prog 22 #[.agg #[.string r.s, .int .i64 r.at_, .int .i64 r.en, .int .i64 r.er], .int .u8 6, .int .i64 deep] w fun e w' => ∃ d, e = .returned (.agg #[.string d.s, .int .i64 d.at_, .int .i64 d.en, .int .i64 d.er]) ∧ Alike c.vTo d ∧ d.s = r.s ∧ Below w.heap.size w w' := by
  have HI : Hid (∀ w, Calls Tryd.prog 47 #[.int .u8 6] w fun e w' => e = .returned (.bool true) ∧ w' = w) := Lib.hid fun w => ris_any 6 w
  have HH : Hid (∀ w, Calls Tryd.prog 52 #[.int .u8 6] w fun e w' => e = .returned (.bool false) ∧ w' = w) := Lib.hid fun w => rholds_any 6 w
  have HK := Lib.hid (fun w => rr_l (V := ((c.vVal : Nat) : Int)) (Lib.hid rfl) (Lib.hid ha) hs w)
  generalize c.vVal = u at HK
  clear ha hs
  have T0 := Lib.hid (R2.start w r)
  go_enter Tryd.func22, Tryd.ntmps22
  have a0 := T0.out.a.c0; have a1 := T0.out.a.c1; have a2 := T0.out.a.c2; have a3 := T0.out.a.c3; have af := T0.out.a.fr
  have z0 := T0.out.b.c0; have z1 := T0.out.b.c1; have z2 := T0.out.b.c2; have z3 := T0.out.b.c3; have zf := T0.out.b.fr
  go_wp2_with fail
  with_reducible refine (HI.out _).mono ?_
  rintro e w' ⟨rfl, hww⟩
  rw [hww]
  clear hww
  go_wp2_with fail
  with_reducible refine (HH.out _).mono ?_
  rintro e w' ⟨rfl, hww⟩
  rw [hww]
  clear hww
  go_wp2_with fail
  with_reducible refine (HK.out _).mono ?_
  rintro e w1 ⟨x, rfl, hal, hxs, b1⟩
  have T1 := Lib.hid (T0.out.call b1)
  have HQ := Lib.hid hal
  have HS := Lib.hid hxs
  clear b1 hal hxs
  clear a0 a1 a2 a3 af z0 z1 z2 z3 zf
  have a0 := T1.out.a.c0; have a1 := T1.out.a.c1; have a2 := T1.out.a.c2; have a3 := T1.out.a.c3; have af := T1.out.a.fr
  have z0 := T1.out.b.c0; have z1 := T1.out.b.c1; have z2 := T1.out.b.c2; have z3 := T1.out.b.c3; have zf := T1.out.b.fr
  have S1 := Lib.hid ((T1.out.setA x).setB x)
  try simp only []
  repeat (first | go_values | go_skip | go_guarded | go_step | go_upon)
  exact bodyPost_ret (cur_res1 Tryd.underlying56 rfl (by kernel_rfl) Tryd.results22 S1.out.b (by kernel_rfl)) rfl ⟨x, rfl, HQ.out, HS.out, S1.out.k⟩
set_option maxHeartbeats 1000000 in
theorem rvalue_8 {c r : CS} (ha : Alike c r) (hs : r.s.size ≤ 140737488351232) (w : World) (deep : Int) :
    Calls Tryd.prog 22 #[.agg #[.string r.s, .int .i64 r.at_, .int .i64 r.en, .int .i64 r.er], .int .u8 8, .int .i64 deep] w fun e w' => ∃ d, e = .returned (.agg #[.string d.s, .int .i64 d.at_, .int .i64 d.en, .int .i64 d.er]) ∧ Alike c.txt d ∧ d.s = r.s ∧ Below w.heap.size w w' := by
  have HI : Hid (∀ w, Calls Tryd.prog 47 #[.int .u8 8] w fun e w' => e = .returned (.bool true) ∧ w' = w) := Lib.hid fun w => ris_any 8 w
  have HH : Hid (∀ w, Calls Tryd.prog 52 #[.int .u8 8] w fun e w' => e = .returned (.bool false) ∧ w' = w) := Lib.hid fun w => rholds_any 8 w
  have HK := Lib.hid (fun w => rtxt_any ha hs w)
  clear ha hs
  have T0 := Lib.hid (R2.start w r)
  go_enter Tryd.func22, Tryd.ntmps22
  have a0 := T0.out.a.c0; have a1 := T0.out.a.c1; have a2 := T0.out.a.c2; have a3 := T0.out.a.c3; have af := T0.out.a.fr
  have z0 := T0.out.b.c0; have z1 := T0.out.b.c1; have z2 := T0.out.b.c2; have z3 := T0.out.b.c3; have zf := T0.out.b.fr
  go_wp2_with fail
  with_reducible refine (HI.out _).mono ?_
  rintro e w' ⟨rfl, hww⟩
  rw [hww]
  clear hww
  go_wp2_with fail
  with_reducible refine (HH.out _).mono ?_
  rintro e w' ⟨rfl, hww⟩
  rw [hww]
  clear hww
  go_wp2_with fail
  with_reducible refine (HK.out _).mono ?_
  rintro e w1 ⟨x, rfl, hal, hxs, b1⟩
  have T1 := Lib.hid (T0.out.call b1)
  have HQ := Lib.hid hal
  have HS := Lib.hid hxs
  clear b1 hal hxs
  clear a0 a1 a2 a3 af z0 z1 z2 z3 zf
  have a0 := T1.out.a.c0; have a1 := T1.out.a.c1; have a2 := T1.out.a.c2; have a3 := T1.out.a.c3; have af := T1.out.a.fr
  have z0 := T1.out.b.c0; have z1 := T1.out.b.c1; have z2 := T1.out.b.c2; have z3 := T1.out.b.c3; have zf := T1.out.b.fr
  have S1 := Lib.hid (T1.out.setB x)
  try simp only []
  repeat (first | go_values | go_skip | go_guarded | go_step | go_upon)
  exact bodyPost_ret (cur_res1 Tryd.underlying56 rfl (by kernel_rfl) Tryd.results22 S1.out.b (by kernel_rfl)) rfl ⟨x, rfl, HQ.out, HS.out, S1.out.k⟩
set_option maxHeartbeats 1000000 in
theorem rvalue_12 {c r D : CS} (ha : Alike c r) (hs : r.s.size ≤ 140737488351232) (w : World) (deep : Int) (hd : 0 ≤ deep ∧ deep < 32)
    (HK : Hid (∀ w, Calls Tryd.prog 55 #[.agg #[.string r.s, .int .i64 r.at_, .int .i64 r.en, .int .i64 r.er], .int .i64 (deep + 1)] w fun e w' => ∃ d, e = .returned (.agg #[.string d.s, .int .i64 d.at_, .int .i64 d.en, .int .i64 d.er]) ∧ Alike D d ∧ d.s = r.s ∧ Below w.heap.size w w')) :
    Calls Tryd.prog 22 #[.agg #[.string r.s, .int .i64 r.at_, .int .i64 r.en, .int .i64 r.er], .int .u8 12, .int .i64 deep] w fun e w' => ∃ d, e = .returned (.agg #[.string d.s, .int .i64 d.at_, .int .i64 d.en, .int .i64 d.er]) ∧ Alike D d ∧ d.s = r.s ∧ Below w.heap.size w w' := by
  have HI : Hid (∀ w, Calls Tryd.prog 47 #[.int .u8 12] w fun e w' => e = .returned (.bool true) ∧ w' = w) := Lib.hid fun w => ris_any 12 w
  have HH : Hid (∀ w, Calls Tryd.prog 52 #[.int .u8 12] w fun e w' => e = .returned (.bool true) ∧ w' = w) := Lib.hid fun w => rholds_any 12 w
  have p1 : decide ((32 : Int) ≤ deep) = false := decide_eq_false (by omega)
  have m1 : IntKind.i64.wrap (deep + 1) = deep + 1 := IntWalk.i64_in _ (by omega)
  clear ha hs hd
  have T0 := Lib.hid (R2.start w r)
  go_enter Tryd.func22, Tryd.ntmps22
  have a0 := T0.out.a.c0; have a1 := T0.out.a.c1; have a2 := T0.out.a.c2; have a3 := T0.out.a.c3; have af := T0.out.a.fr
  have z0 := T0.out.b.c0; have z1 := T0.out.b.c1; have z2 := T0.out.b.c2; have z3 := T0.out.b.c3; have zf := T0.out.b.fr
  go_wp2_with fail
  with_reducible refine (HI.out _).mono ?_
  rintro e w' ⟨rfl, hww⟩
  rw [hww]
  clear hww
  go_wp2_with fail
  with_reducible refine (HH.out _).mono ?_
  rintro e w' ⟨rfl, hww⟩
  rw [hww]
  clear hww
  go_wp2_with fail
  with_reducible refine (HK.out _).mono ?_
  rintro e w1 ⟨x, rfl, hal, hxs, b1⟩
  have T1 := Lib.hid (T0.out.call b1)
  have HQ := Lib.hid hal
  have HS := Lib.hid hxs
  clear b1 hal hxs
  clear a0 a1 a2 a3 af z0 z1 z2 z3 zf
  have a0 := T1.out.a.c0; have a1 := T1.out.a.c1; have a2 := T1.out.a.c2; have a3 := T1.out.a.c3; have af := T1.out.a.fr
  have z0 := T1.out.b.c0; have z1 := T1.out.b.c1; have z2 := T1.out.b.c2; have z3 := T1.out.b.c3; have zf := T1.out.b.fr
  have S1 := Lib.hid (T1.out.setB x)
  try simp only []
  repeat (first | go_values | go_skip | go_guarded | go_step | go_upon)
  exact bodyPost_ret (cur_res1 Tryd.underlying56 rfl (by kernel_rfl) Tryd.results22 S1.out.b (by kernel_rfl)) rfl ⟨x, rfl, HQ.out, HS.out, S1.out.k⟩
set_option maxHeartbeats 1000000 in
theorem rvalue_9 {c r D : CS} (ha : Alike c r) (hs : r.s.size ≤ 140737488351232) (w : World) (deep : Int) (hd : 0 ≤ deep ∧ deep < 32)
    (HE : Hid (∀ (x : CS) (w : World), Alike c.lTo x → x.s = r.s → Calls Tryd.prog 57 #[.agg #[.string x.s, .int .i64 x.at_, .int .i64 x.en, .int .i64 x.er], .int .i64 (c.lCt : Nat), .int .u8 (c.lKd : Nat), .int .u8 0, .int .i64 (deep + 1)] w fun e w' => ∃ d, e = .returned (.agg #[.string d.s, .int .i64 d.at_, .int .i64 d.en, .int .i64 d.er]) ∧ Alike D d ∧ d.s = x.s ∧ Below w.heap.size w w')) :
    Calls Tryd.prog 22 #[.agg #[.string r.s, .int .i64 r.at_, .int .i64 r.en, .int .i64 r.er], .int .u8 9, .int .i64 deep] w fun e w' => ∃ d, e = .returned (.agg #[.string d.s, .int .i64 d.at_, .int .i64 d.en, .int .i64 d.er]) ∧ Alike D d ∧ d.s = r.s ∧ Below w.heap.size w w' := by
  have HI : Hid (∀ w, Calls Tryd.prog 47 #[.int .u8 9] w fun e w' => e = .returned (.bool true) ∧ w' = w) := Lib.hid fun w => ris_any 9 w
  have HH : Hid (∀ w, Calls Tryd.prog 52 #[.int .u8 9] w fun e w' => e = .returned (.bool true) ∧ w' = w) := Lib.hid fun w => rholds_any 9 w
  have p1 : decide ((32 : Int) ≤ deep) = false := decide_eq_false (by omega)
  have m1 : IntKind.i64.wrap (deep + 1) = deep + 1 := IntWalk.i64_in _ (by omega)
  have HK := Lib.hid (fun w => rlist_any ha hs w)
  obtain ⟨n, hn⟩ : ∃ n, n = c.lCt := ⟨_, rfl⟩
  rw [← hn] at HK HE
  clear hn
  obtain ⟨a, ha⟩ : ∃ a, a = c.lKd := ⟨_, rfl⟩
  rw [← ha] at HK HE
  clear ha
  obtain ⟨c1, hc1⟩ : ∃ x, x = c.lTo := ⟨_, rfl⟩
  rw [← hc1] at HK HE
  clear hc1
  clear ha hs hd
  have T0 := Lib.hid (R2.start w r)
  go_enter Tryd.func22, Tryd.ntmps22
  have a0 := T0.out.a.c0; have a1 := T0.out.a.c1; have a2 := T0.out.a.c2; have a3 := T0.out.a.c3; have af := T0.out.a.fr
  have z0 := T0.out.b.c0; have z1 := T0.out.b.c1; have z2 := T0.out.b.c2; have z3 := T0.out.b.c3; have zf := T0.out.b.fr
  go_wp2_with fail
  with_reducible refine (HI.out _).mono ?_
  rintro e w' ⟨rfl, hww⟩
  rw [hww]
  clear hww
  go_wp2_with fail
  with_reducible refine (HH.out _).mono ?_
  rintro e w' ⟨rfl, hww⟩
  rw [hww]
  clear hww
  go_wp2_with fail
  with_reducible refine (HK.out _).mono ?_
  rintro e w1 ⟨x, rfl, hal, hxs, b1⟩
  have T1 := Lib.hid (T0.out.call b1)
  have HA1 := Lib.hid hal
  have HD1 := Lib.hid hxs
  have q := cur_alloc (w := w1) (c := x) 56
  have T2 := Lib.hid (T1.out.alloc (.cells #[.string x.s, .int .i64 x.at_, .int .i64 x.en, .int .i64 x.er] 56))
  clear b1 hal hxs
  clear a0 a1 a2 a3 af z0 z1 z2 z3 zf
  have a0 := T2.out.a.c0; have a1 := T2.out.a.c1; have a2 := T2.out.a.c2; have a3 := T2.out.a.c3; have af := T2.out.a.fr
  have z0 := T2.out.b.c0; have z1 := T2.out.b.c1; have z2 := T2.out.b.c2; have z3 := T2.out.b.c3; have zf := T2.out.b.fr
  have q0 := q.c0; have q1 := q.c1; have q2 := q.c2; have q3 := q.c3
  go_wp2_with fail
  with_reducible refine (HE.out x _ HA1.out HD1.out).mono ?_
  clear q q0 q1 q2 q3
  rintro e w3 ⟨y, rfl, hal3, hys, b3⟩
  have T3 := Lib.hid (T2.out.call b3)
  have HQ := Lib.hid hal3
  have HS := Lib.hid (hys.trans HD1.out)
  clear b3 hal3 hys
  clear a0 a1 a2 a3 af z0 z1 z2 z3 zf
  have a0 := T3.out.a.c0; have a1 := T3.out.a.c1; have a2 := T3.out.a.c2; have a3 := T3.out.a.c3; have af := T3.out.a.fr
  have z0 := T3.out.b.c0; have z1 := T3.out.b.c1; have z2 := T3.out.b.c2; have z3 := T3.out.b.c3; have zf := T3.out.b.fr
  have S1 := Lib.hid (T3.out.setB y)
  try simp only []
  repeat (first | go_values | go_skip | go_guarded | go_step | go_upon)
  exact bodyPost_ret (cur_res1 Tryd.underlying56 rfl (by kernel_rfl) Tryd.results22 S1.out.b (by kernel_rfl)) rfl ⟨y, rfl, HQ.out, HS.out, S1.out.k⟩
set_option maxHeartbeats 1000000 in
theorem rvalue_10 {c r D : CS} (ha : Alike c r) (hs : r.s.size ≤ 140737488351232) (w : World) (deep : Int) (hd : 0 ≤ deep ∧ deep < 32)
    (HE : Hid (∀ (x : CS) (w : World), Alike c.lTo x → x.s = r.s → Calls Tryd.prog 57 #[.agg #[.string x.s, .int .i64 x.at_, .int .i64 x.en, .int .i64 x.er], .int .i64 (c.lCt : Nat), .int .u8 (c.lKd : Nat), .int .u8 0, .int .i64 (deep + 1)] w fun e w' => ∃ d, e = .returned (.agg #[.string d.s, .int .i64 d.at_, .int .i64 d.en, .int .i64 d.er]) ∧ Alike D d ∧ d.s = x.s ∧ Below w.heap.size w w')) :
    Calls Tryd.prog 22 #[.agg #[.string r.s, .int .i64 r.at_, .int .i64 r.en, .int .i64 r.er], .int .u8 10, .int .i64 deep] w fun e w' => ∃ d, e = .returned (.agg #[.string d.s, .int .i64 d.at_, .int .i64 d.en, .int .i64 d.er]) ∧ Alike D d ∧ d.s = r.s ∧ Below w.heap.size w w' := by
  have HI : Hid (∀ w, Calls Tryd.prog 47 #[.int .u8 10] w fun e w' => e = .returned (.bool true) ∧ w' = w) := Lib.hid fun w => ris_any 10 w
  have HH : Hid (∀ w, Calls Tryd.prog 52 #[.int .u8 10] w fun e w' => e = .returned (.bool true) ∧ w' = w) := Lib.hid fun w => rholds_any 10 w
  have p1 : decide ((32 : Int) ≤ deep) = false := decide_eq_false (by omega)
  have m1 : IntKind.i64.wrap (deep + 1) = deep + 1 := IntWalk.i64_in _ (by omega)
  have HK := Lib.hid (fun w => rlist_any ha hs w)
  obtain ⟨n, hn⟩ : ∃ n, n = c.lCt := ⟨_, rfl⟩
  rw [← hn] at HK HE
  clear hn
  obtain ⟨a, ha⟩ : ∃ a, a = c.lKd := ⟨_, rfl⟩
  rw [← ha] at HK HE
  clear ha
  obtain ⟨c1, hc1⟩ : ∃ x, x = c.lTo := ⟨_, rfl⟩
  rw [← hc1] at HK HE
  clear hc1
  clear ha hs hd
  have T0 := Lib.hid (R2.start w r)
  go_enter Tryd.func22, Tryd.ntmps22
  have a0 := T0.out.a.c0; have a1 := T0.out.a.c1; have a2 := T0.out.a.c2; have a3 := T0.out.a.c3; have af := T0.out.a.fr
  have z0 := T0.out.b.c0; have z1 := T0.out.b.c1; have z2 := T0.out.b.c2; have z3 := T0.out.b.c3; have zf := T0.out.b.fr
  go_wp2_with fail
  with_reducible refine (HI.out _).mono ?_
  rintro e w' ⟨rfl, hww⟩
  rw [hww]
  clear hww
  go_wp2_with fail
  with_reducible refine (HH.out _).mono ?_
  rintro e w' ⟨rfl, hww⟩
  rw [hww]
  clear hww
  go_wp2_with fail
  with_reducible refine (HK.out _).mono ?_
  rintro e w1 ⟨x, rfl, hal, hxs, b1⟩
  have T1 := Lib.hid (T0.out.call b1)
  have HA1 := Lib.hid hal
  have HD1 := Lib.hid hxs
  have q := cur_alloc (w := w1) (c := x) 56
  have T2 := Lib.hid (T1.out.alloc (.cells #[.string x.s, .int .i64 x.at_, .int .i64 x.en, .int .i64 x.er] 56))
  clear b1 hal hxs
  clear a0 a1 a2 a3 af z0 z1 z2 z3 zf
  have a0 := T2.out.a.c0; have a1 := T2.out.a.c1; have a2 := T2.out.a.c2; have a3 := T2.out.a.c3; have af := T2.out.a.fr
  have z0 := T2.out.b.c0; have z1 := T2.out.b.c1; have z2 := T2.out.b.c2; have z3 := T2.out.b.c3; have zf := T2.out.b.fr
  have q0 := q.c0; have q1 := q.c1; have q2 := q.c2; have q3 := q.c3
  go_wp2_with fail
  with_reducible refine (HE.out x _ HA1.out HD1.out).mono ?_
  clear q q0 q1 q2 q3
  rintro e w3 ⟨y, rfl, hal3, hys, b3⟩
  have T3 := Lib.hid (T2.out.call b3)
  have HQ := Lib.hid hal3
  have HS := Lib.hid (hys.trans HD1.out)
  clear b3 hal3 hys
  clear a0 a1 a2 a3 af z0 z1 z2 z3 zf
  have a0 := T3.out.a.c0; have a1 := T3.out.a.c1; have a2 := T3.out.a.c2; have a3 := T3.out.a.c3; have af := T3.out.a.fr
  have z0 := T3.out.b.c0; have z1 := T3.out.b.c1; have z2 := T3.out.b.c2; have z3 := T3.out.b.c3; have zf := T3.out.b.fr
  have S1 := Lib.hid (T3.out.setB y)
  try simp only []
  repeat (first | go_values | go_skip | go_guarded | go_step | go_upon)
  exact bodyPost_ret (cur_res1 Tryd.underlying56 rfl (by kernel_rfl) Tryd.results22 S1.out.b (by kernel_rfl)) rfl ⟨y, rfl, HQ.out, HS.out, S1.out.k⟩
set_option maxHeartbeats 1000000 in
theorem rvalue_11 {c r D : CS} (ha : Alike c r) (hs : r.s.size ≤ 140737488351232) (w : World) (deep : Int) (hd : 0 ≤ deep ∧ deep < 32)
    (HE : Hid (∀ (x : CS) (w : World), Alike c.mTo x → x.s = r.s → Calls Tryd.prog 57 #[.agg #[.string x.s, .int .i64 x.at_, .int .i64 x.en, .int .i64 x.er], .int .i64 (c.mCt : Nat), .int .u8 (c.mKy : Nat), .int .u8 (c.mVl : Nat), .int .i64 (deep + 1)] w fun e w' => ∃ d, e = .returned (.agg #[.string d.s, .int .i64 d.at_, .int .i64 d.en, .int .i64 d.er]) ∧ Alike D d ∧ d.s = x.s ∧ Below w.heap.size w w')) :
    Calls Tryd.prog 22 #[.agg #[.string r.s, .int .i64 r.at_, .int .i64 r.en, .int .i64 r.er], .int .u8 11, .int .i64 deep] w fun e w' => ∃ d, e = .returned (.agg #[.string d.s, .int .i64 d.at_, .int .i64 d.en, .int .i64 d.er]) ∧ Alike D d ∧ d.s = r.s ∧ Below w.heap.size w w' := by
  have HI : Hid (∀ w, Calls Tryd.prog 47 #[.int .u8 11] w fun e w' => e = .returned (.bool true) ∧ w' = w) := Lib.hid fun w => ris_any 11 w
  have HH : Hid (∀ w, Calls Tryd.prog 52 #[.int .u8 11] w fun e w' => e = .returned (.bool true) ∧ w' = w) := Lib.hid fun w => rholds_any 11 w
  have p1 : decide ((32 : Int) ≤ deep) = false := decide_eq_false (by omega)
  have m1 : IntKind.i64.wrap (deep + 1) = deep + 1 := IntWalk.i64_in _ (by omega)
  have HK := Lib.hid (fun w => rmap_any ha hs w)
  obtain ⟨n, hn⟩ : ∃ n, n = c.mCt := ⟨_, rfl⟩
  rw [← hn] at HK HE
  clear hn
  obtain ⟨a, ha⟩ : ∃ a, a = c.mKy := ⟨_, rfl⟩
  rw [← ha] at HK HE
  clear ha
  obtain ⟨b, hb⟩ : ∃ b, b = c.mVl := ⟨_, rfl⟩
  rw [← hb] at HK HE
  clear hb
  obtain ⟨c1, hc1⟩ : ∃ x, x = c.mTo := ⟨_, rfl⟩
  rw [← hc1] at HK HE
  clear hc1
  clear ha hs hd
  have T0 := Lib.hid (R2.start w r)
  go_enter Tryd.func22, Tryd.ntmps22
  have a0 := T0.out.a.c0; have a1 := T0.out.a.c1; have a2 := T0.out.a.c2; have a3 := T0.out.a.c3; have af := T0.out.a.fr
  have z0 := T0.out.b.c0; have z1 := T0.out.b.c1; have z2 := T0.out.b.c2; have z3 := T0.out.b.c3; have zf := T0.out.b.fr
  go_wp2_with fail
  with_reducible refine (HI.out _).mono ?_
  rintro e w' ⟨rfl, hww⟩
  rw [hww]
  clear hww
  go_wp2_with fail
  with_reducible refine (HH.out _).mono ?_
  rintro e w' ⟨rfl, hww⟩
  rw [hww]
  clear hww
  go_wp2_with fail
  with_reducible refine (HK.out _).mono ?_
  rintro e w1 ⟨x, rfl, hal, hxs, b1⟩
  have T1 := Lib.hid (T0.out.call b1)
  have HA1 := Lib.hid hal
  have HD1 := Lib.hid hxs
  have q := cur_alloc (w := w1) (c := x) 56
  have T2 := Lib.hid (T1.out.alloc (.cells #[.string x.s, .int .i64 x.at_, .int .i64 x.en, .int .i64 x.er] 56))
  clear b1 hal hxs
  clear a0 a1 a2 a3 af z0 z1 z2 z3 zf
  have a0 := T2.out.a.c0; have a1 := T2.out.a.c1; have a2 := T2.out.a.c2; have a3 := T2.out.a.c3; have af := T2.out.a.fr
  have z0 := T2.out.b.c0; have z1 := T2.out.b.c1; have z2 := T2.out.b.c2; have z3 := T2.out.b.c3; have zf := T2.out.b.fr
  have q0 := q.c0; have q1 := q.c1; have q2 := q.c2; have q3 := q.c3
  go_wp2_with fail
  with_reducible refine (HE.out x _ HA1.out HD1.out).mono ?_
  clear q q0 q1 q2 q3
  rintro e w3 ⟨y, rfl, hal3, hys, b3⟩
  have T3 := Lib.hid (T2.out.call b3)
  have HQ := Lib.hid hal3
  have HS := Lib.hid (hys.trans HD1.out)
  clear b3 hal3 hys
  clear a0 a1 a2 a3 af z0 z1 z2 z3 zf
  have a0 := T3.out.a.c0; have a1 := T3.out.a.c1; have a2 := T3.out.a.c2; have a3 := T3.out.a.c3; have af := T3.out.a.fr
  have z0 := T3.out.b.c0; have z1 := T3.out.b.c1; have z2 := T3.out.b.c2; have z3 := T3.out.b.c3; have zf := T3.out.b.fr
  have S1 := Lib.hid (T3.out.setB y)
  try simp only []
  repeat (first | go_values | go_skip | go_guarded | go_step | go_upon)
  exact bodyPost_ret (cur_res1 Tryd.underlying56 rfl (by kernel_rfl) Tryd.results22 S1.out.b (by kernel_rfl)) rfl ⟨y, rfl, HQ.out, HS.out, S1.out.k⟩
end Go.Proofs.YtmiagebcobcaiaaDoor
/- The document's own layer 21: Inner; Value and Inner by how many things these stand within. -/
namespace Go.Proofs.YtmiagebcobcaiaaDoor
open Go Go.RowKit
set_option linter.unusedVariables false
set_option maxHeartbeats 1000000 in
theorem rinner_1good {c r : CS} (ha : Alike c r) (w : World) (deep : Int) (hq : c.pB ≤ 2) :
    Calls Tryd.prog 29 #[.agg #[.string r.s, .int .i64 r.at_, .int .i64 r.en, .int .i64 r.er], .int .u8 1, .int .i64 deep] w fun e w' => ∃ d, e = .returned (.agg #[.string d.s, .int .i64 d.at_, .int .i64 d.en, .int .i64 d.er]) ∧ Alike c.tru d ∧ d.s = r.s ∧ Below w.heap.size w w' := by
  have hab := ha.byte
  obtain ⟨v, hv⟩ : ∃ v, v = c.pB := ⟨_, rfl⟩
  rw [← hv] at hab hq
  obtain ⟨d, hd⟩ : ∃ d, d = r.byte := ⟨_, rfl⟩
  have HB := Lib.hid (fun w => rby_l (Lib.hid hd) (Lib.hid hab.2.1) (Lib.hid ha.2.1) w)
  rw [← hd] at hab
  have HR := Lib.hid (show c.tru = c.byte by unfold CS.tru; rw [← hv, decide_eq_true hq]; rfl)
  have HQ := Lib.hid hab.1
  have HS := Lib.hid hab.2.2
  have p1 : decide ((2 : Int) < (v : Int)) = false := decide_eq_false (by omega)
  have p1' : decide (2 < v) = false := decide_eq_false (by omega)
  clear ha hab hv hd hq
  have T0 := Lib.hid (R2.start w r)
  go_enter Tryd.func29, Tryd.ntmps29
  have a0 := T0.out.a.c0; have a1 := T0.out.a.c1; have a2 := T0.out.a.c2; have a3 := T0.out.a.c3; have af := T0.out.a.fr
  have z0 := T0.out.b.c0; have z1 := T0.out.b.c1; have z2 := T0.out.b.c2; have z3 := T0.out.b.c3; have zf := T0.out.b.fr
  go_wp2_with fail
  with_reducible refine (HB.out _).mono ?_
  rintro e w1 ⟨rfl, b1⟩
  have T1 := Lib.hid (T0.out.call b1)
  clear b1
  clear a0 a1 a2 a3 af z0 z1 z2 z3 zf
  have a0 := T1.out.a.c0; have a1 := T1.out.a.c1; have a2 := T1.out.a.c2; have a3 := T1.out.a.c3; have af := T1.out.a.fr
  have z0 := T1.out.b.c0; have z1 := T1.out.b.c1; have z2 := T1.out.b.c2; have z3 := T1.out.b.c3; have zf := T1.out.b.fr
  have S1 := Lib.hid ((T1.out.setA d).setB d)
  try simp only []
  repeat (first | go_values | go_skip | go_guarded | go_step | go_upon)
  exact bodyPost_ret (cur_res1 Tryd.underlying56 rfl (by kernel_rfl) Tryd.results29 S1.out.b (by kernel_rfl)) rfl ⟨d, rfl, by rw [HR.out]; exact HQ.out, HS.out, S1.out.k⟩
set_option maxHeartbeats 1000000 in
theorem rinner_1bad {c r : CS} (ha : Alike c r) (w : World) (deep : Int) (hq : ¬ c.pB ≤ 2) :
    Calls Tryd.prog 29 #[.agg #[.string r.s, .int .i64 r.at_, .int .i64 r.en, .int .i64 r.er], .int .u8 1, .int .i64 deep] w fun e w' => ∃ d, e = .returned (.agg #[.string d.s, .int .i64 d.at_, .int .i64 d.en, .int .i64 d.er]) ∧ Alike c.tru d ∧ d.s = r.s ∧ Below w.heap.size w w' := by
  have hab := ha.byte
  obtain ⟨v, hv⟩ : ∃ v, v = c.pB := ⟨_, rfl⟩
  rw [← hv] at hab hq
  obtain ⟨d, hd⟩ : ∃ d, d = r.byte := ⟨_, rfl⟩
  have HB := Lib.hid (fun w => rby_l (Lib.hid hd) (Lib.hid hab.2.1) (Lib.hid ha.2.1) w)
  rw [← hd] at hab
  have HR := Lib.hid (show c.tru = c.byte.fail 3 by unfold CS.tru; rw [← hv, decide_eq_false hq]; rfl)
  have HQ := Lib.hid (hab.1.std (Std.fail 3))
  have HS := Lib.hid (show (d.fail 3).s = r.s from ((Std.fail 3 d hab.1.2.1).2.1).trans hab.2.2)
  have HK := Lib.hid (fun w => rfl_l (r := d) (k := 3) (Lib.hid rfl) w)
  obtain ⟨x, hx⟩ : ∃ x, x = d.fail 3 := ⟨_, rfl⟩
  rw [← hx] at HK HS HQ
  have p1 : decide ((2 : Int) < (v : Int)) = true := decide_eq_true (by omega)
  have p1' : decide (2 < v) = true := decide_eq_true (by omega)
  clear ha hab hv hd hq hx
  have T0 := Lib.hid (R2.start w r)
  go_enter Tryd.func29, Tryd.ntmps29
  have a0 := T0.out.a.c0; have a1 := T0.out.a.c1; have a2 := T0.out.a.c2; have a3 := T0.out.a.c3; have af := T0.out.a.fr
  have z0 := T0.out.b.c0; have z1 := T0.out.b.c1; have z2 := T0.out.b.c2; have z3 := T0.out.b.c3; have zf := T0.out.b.fr
  go_wp2_with fail
  with_reducible refine (HB.out _).mono ?_
  rintro e w1 ⟨rfl, b1⟩
  have T1 := Lib.hid (T0.out.call b1)
  clear b1
  clear a0 a1 a2 a3 af z0 z1 z2 z3 zf
  have a0 := T1.out.a.c0; have a1 := T1.out.a.c1; have a2 := T1.out.a.c2; have a3 := T1.out.a.c3; have af := T1.out.a.fr
  have z0 := T1.out.b.c0; have z1 := T1.out.b.c1; have z2 := T1.out.b.c2; have z3 := T1.out.b.c3; have zf := T1.out.b.fr
  go_wp2_with fail
  have T2 := Lib.hid (T1.out.setA d)
  obtain ⟨w2, hw⟩ : ∃ W, W = ((((w1.setCell ⟨w.heap.size, 0, none⟩ (.string d.s)).setCell ⟨w.heap.size, 1, none⟩ (.int .i64 d.at_)).setCell ⟨w.heap.size, 2, none⟩ (.int .i64 d.en)).setCell ⟨w.heap.size, 3, none⟩ (.int .i64 d.er)) := ⟨_, rfl⟩
  rw [← hw] at T2 ⊢
  clear hw
  clear a0 a1 a2 a3 af z0 z1 z2 z3 zf
  have a0 := T2.out.a.c0; have a1 := T2.out.a.c1; have a2 := T2.out.a.c2; have a3 := T2.out.a.c3; have af := T2.out.a.fr
  have z0 := T2.out.b.c0; have z1 := T2.out.b.c1; have z2 := T2.out.b.c2; have z3 := T2.out.b.c3; have zf := T2.out.b.fr
  with_reducible refine (HK.out _).mono ?_
  rintro e w3 ⟨rfl, b3⟩
  have T3 := Lib.hid (T2.out.call b3)
  clear b3
  clear a0 a1 a2 a3 af z0 z1 z2 z3 zf
  have a0 := T3.out.a.c0; have a1 := T3.out.a.c1; have a2 := T3.out.a.c2; have a3 := T3.out.a.c3; have af := T3.out.a.fr
  have z0 := T3.out.b.c0; have z1 := T3.out.b.c1; have z2 := T3.out.b.c2; have z3 := T3.out.b.c3; have zf := T3.out.b.fr
  have S3 := Lib.hid (T3.out.setB x)
  try simp only []
  repeat (first | go_values | go_skip | go_guarded | go_step | go_upon)
  exact bodyPost_ret (cur_res1 Tryd.underlying56 rfl (by kernel_rfl) Tryd.results29 S3.out.b (by kernel_rfl)) rfl ⟨x, rfl, by rw [HR.out]; exact HQ.out, HS.out, S3.out.k⟩
set_option maxHeartbeats 1000000 in
theorem rinner_2good {c r : CS} (ha : Alike c r) (w : World) (deep : Int) (hq : c.pB ≤ 2) :
    Calls Tryd.prog 29 #[.agg #[.string r.s, .int .i64 r.at_, .int .i64 r.en, .int .i64 r.er], .int .u8 2, .int .i64 deep] w fun e w' => ∃ d, e = .returned (.agg #[.string d.s, .int .i64 d.at_, .int .i64 d.en, .int .i64 d.er]) ∧ Alike c.tru d ∧ d.s = r.s ∧ Below w.heap.size w w' := by
  have hab := ha.byte
  obtain ⟨v, hv⟩ : ∃ v, v = c.pB := ⟨_, rfl⟩
  rw [← hv] at hab hq
  obtain ⟨d, hd⟩ : ∃ d, d = r.byte := ⟨_, rfl⟩
  have HB := Lib.hid (fun w => rby_l (Lib.hid hd) (Lib.hid hab.2.1) (Lib.hid ha.2.1) w)
  rw [← hd] at hab
  have HR := Lib.hid (show c.tru = c.byte by unfold CS.tru; rw [← hv, decide_eq_true hq]; rfl)
  have HQ := Lib.hid hab.1
  have HS := Lib.hid hab.2.2
  have p1 : decide ((2 : Int) < (v : Int)) = false := decide_eq_false (by omega)
  have p1' : decide (2 < v) = false := decide_eq_false (by omega)
  clear ha hab hv hd hq
  have T0 := Lib.hid (R2.start w r)
  go_enter Tryd.func29, Tryd.ntmps29
  have a0 := T0.out.a.c0; have a1 := T0.out.a.c1; have a2 := T0.out.a.c2; have a3 := T0.out.a.c3; have af := T0.out.a.fr
  have z0 := T0.out.b.c0; have z1 := T0.out.b.c1; have z2 := T0.out.b.c2; have z3 := T0.out.b.c3; have zf := T0.out.b.fr
  go_wp2_with fail
  with_reducible refine (HB.out _).mono ?_
  rintro e w1 ⟨rfl, b1⟩
  have T1 := Lib.hid (T0.out.call b1)
  clear b1
  clear a0 a1 a2 a3 af z0 z1 z2 z3 zf
  have a0 := T1.out.a.c0; have a1 := T1.out.a.c1; have a2 := T1.out.a.c2; have a3 := T1.out.a.c3; have af := T1.out.a.fr
  have z0 := T1.out.b.c0; have z1 := T1.out.b.c1; have z2 := T1.out.b.c2; have z3 := T1.out.b.c3; have zf := T1.out.b.fr
  have S1 := Lib.hid ((T1.out.setA d).setB d)
  try simp only []
  repeat (first | go_values | go_skip | go_guarded | go_step | go_upon)
  exact bodyPost_ret (cur_res1 Tryd.underlying56 rfl (by kernel_rfl) Tryd.results29 S1.out.b (by kernel_rfl)) rfl ⟨d, rfl, by rw [HR.out]; exact HQ.out, HS.out, S1.out.k⟩
set_option maxHeartbeats 1000000 in
theorem rinner_2bad {c r : CS} (ha : Alike c r) (w : World) (deep : Int) (hq : ¬ c.pB ≤ 2) :
    Calls Tryd.prog 29 #[.agg #[.string r.s, .int .i64 r.at_, .int .i64 r.en, .int .i64 r.er], .int .u8 2, .int .i64 deep] w fun e w' => ∃ d, e = .returned (.agg #[.string d.s, .int .i64 d.at_, .int .i64 d.en, .int .i64 d.er]) ∧ Alike c.tru d ∧ d.s = r.s ∧ Below w.heap.size w w' := by
  have hab := ha.byte
  obtain ⟨v, hv⟩ : ∃ v, v = c.pB := ⟨_, rfl⟩
  rw [← hv] at hab hq
  obtain ⟨d, hd⟩ : ∃ d, d = r.byte := ⟨_, rfl⟩
  have HB := Lib.hid (fun w => rby_l (Lib.hid hd) (Lib.hid hab.2.1) (Lib.hid ha.2.1) w)
  rw [← hd] at hab
  have HR := Lib.hid (show c.tru = c.byte.fail 3 by unfold CS.tru; rw [← hv, decide_eq_false hq]; rfl)
  have HQ := Lib.hid (hab.1.std (Std.fail 3))
  have HS := Lib.hid (show (d.fail 3).s = r.s from ((Std.fail 3 d hab.1.2.1).2.1).trans hab.2.2)
  have HK := Lib.hid (fun w => rfl_l (r := d) (k := 3) (Lib.hid rfl) w)
  obtain ⟨x, hx⟩ : ∃ x, x = d.fail 3 := ⟨_, rfl⟩
  rw [← hx] at HK HS HQ
  have p1 : decide ((2 : Int) < (v : Int)) = true := decide_eq_true (by omega)
  have p1' : decide (2 < v) = true := decide_eq_true (by omega)
  clear ha hab hv hd hq hx
  have T0 := Lib.hid (R2.start w r)
  go_enter Tryd.func29, Tryd.ntmps29
  have a0 := T0.out.a.c0; have a1 := T0.out.a.c1; have a2 := T0.out.a.c2; have a3 := T0.out.a.c3; have af := T0.out.a.fr
  have z0 := T0.out.b.c0; have z1 := T0.out.b.c1; have z2 := T0.out.b.c2; have z3 := T0.out.b.c3; have zf := T0.out.b.fr
  go_wp2_with fail
  with_reducible refine (HB.out _).mono ?_
  rintro e w1 ⟨rfl, b1⟩
  have T1 := Lib.hid (T0.out.call b1)
  clear b1
  clear a0 a1 a2 a3 af z0 z1 z2 z3 zf
  have a0 := T1.out.a.c0; have a1 := T1.out.a.c1; have a2 := T1.out.a.c2; have a3 := T1.out.a.c3; have af := T1.out.a.fr
  have z0 := T1.out.b.c0; have z1 := T1.out.b.c1; have z2 := T1.out.b.c2; have z3 := T1.out.b.c3; have zf := T1.out.b.fr
  go_wp2_with fail
  have T2 := Lib.hid (T1.out.setA d)
  obtain ⟨w2, hw⟩ : ∃ W, W = ((((w1.setCell ⟨w.heap.size, 0, none⟩ (.string d.s)).setCell ⟨w.heap.size, 1, none⟩ (.int .i64 d.at_)).setCell ⟨w.heap.size, 2, none⟩ (.int .i64 d.en)).setCell ⟨w.heap.size, 3, none⟩ (.int .i64 d.er)) := ⟨_, rfl⟩
  rw [← hw] at T2 ⊢
  clear hw
  clear a0 a1 a2 a3 af z0 z1 z2 z3 zf
  have a0 := T2.out.a.c0; have a1 := T2.out.a.c1; have a2 := T2.out.a.c2; have a3 := T2.out.a.c3; have af := T2.out.a.fr
  have z0 := T2.out.b.c0; have z1 := T2.out.b.c1; have z2 := T2.out.b.c2; have z3 := T2.out.b.c3; have zf := T2.out.b.fr
  with_reducible refine (HK.out _).mono ?_
  rintro e w3 ⟨rfl, b3⟩
  have T3 := Lib.hid (T2.out.call b3)
  clear b3
  clear a0 a1 a2 a3 af z0 z1 z2 z3 zf
  have a0 := T3.out.a.c0; have a1 := T3.out.a.c1; have a2 := T3.out.a.c2; have a3 := T3.out.a.c3; have af := T3.out.a.fr
  have z0 := T3.out.b.c0; have z1 := T3.out.b.c1; have z2 := T3.out.b.c2; have z3 := T3.out.b.c3; have zf := T3.out.b.fr
  have S3 := Lib.hid (T3.out.setB x)
  try simp only []
  repeat (first | go_values | go_skip | go_guarded | go_step | go_upon)
  exact bodyPost_ret (cur_res1 Tryd.underlying56 rfl (by kernel_rfl) Tryd.results29 S3.out.b (by kernel_rfl)) rfl ⟨x, rfl, by rw [HR.out]; exact HQ.out, HS.out, S3.out.k⟩
set_option maxHeartbeats 1000000 in
theorem rinner_no {c r : CS} (ha : Alike c r) (w : World) (deep : Int) (k : Nat) (hk : trB k = false) {D : CS}
    (HK : Hid (∀ w, Calls Tryd.prog 22 #[.agg #[.string r.s, .int .i64 r.at_, .int .i64 r.en, .int .i64 r.er], .int .u8 (k : Nat), .int .i64 deep] w fun e w' => ∃ d, e = .returned (.agg #[.string d.s, .int .i64 d.at_, .int .i64 d.en, .int .i64 d.er]) ∧ Alike D d ∧ d.s = r.s ∧ Below w.heap.size w w')) :
    Calls Tryd.prog 29 #[.agg #[.string r.s, .int .i64 r.at_, .int .i64 r.en, .int .i64 r.er], .int .u8 (k : Nat), .int .i64 deep] w fun e w' => ∃ d, e = .returned (.agg #[.string d.s, .int .i64 d.at_, .int .i64 d.en, .int .i64 d.er]) ∧ Alike D d ∧ d.s = r.s ∧ Below w.heap.size w w' := by
  have h12 : ¬ k = 1 ∧ ¬ k = 2 := by
    unfold trB at hk
    simp at hk
    exact hk
  have p1 : ((k : Int) != 1) = true := by simp; omega
  have p1' : (k != 1) = true := by simp [h12.1]
  have p2 : ((k : Int) != 2) = true := by simp; omega
  have p2' : (k != 2) = true := by simp [h12.2]
  clear ha hk h12
  have T0 := Lib.hid (R2.start w r)
  go_enter Tryd.func29, Tryd.ntmps29
  have a0 := T0.out.a.c0; have a1 := T0.out.a.c1; have a2 := T0.out.a.c2; have a3 := T0.out.a.c3; have af := T0.out.a.fr
  have z0 := T0.out.b.c0; have z1 := T0.out.b.c1; have z2 := T0.out.b.c2; have z3 := T0.out.b.c3; have zf := T0.out.b.fr
  go_wp2_with fail
  with_reducible refine (HK.out _).mono ?_
  rintro e w1 ⟨x, rfl, hal, hxs, b1⟩
  have T1 := Lib.hid (T0.out.call b1)
  have HQ := Lib.hid hal
  have HS := Lib.hid hxs
  clear b1 hal hxs
  clear a0 a1 a2 a3 af z0 z1 z2 z3 zf
  have a0 := T1.out.a.c0; have a1 := T1.out.a.c1; have a2 := T1.out.a.c2; have a3 := T1.out.a.c3; have af := T1.out.a.fr
  have z0 := T1.out.b.c0; have z1 := T1.out.b.c1; have z2 := T1.out.b.c2; have z3 := T1.out.b.c3; have zf := T1.out.b.fr
  have S1 := Lib.hid (T1.out.setB x)
  try simp only []
  repeat (first | go_values | go_skip | go_guarded | go_step | go_upon)
  exact bodyPost_ret (cur_res1 Tryd.underlying56 rfl (by kernel_rfl) Tryd.results29 S1.out.b (by kernel_rfl)) rfl ⟨x, rfl, HQ.out, HS.out, S1.out.k⟩
/-- Inner, where Value is known. -/
theorem rinner_of {deep : Int} {d : Nat} (hV : RvR deep (inTo d)) : RiR deep (inTo d) := by
  intro k c r w hk ha hs
  rcases Bool.eq_false_or_eq_true (trB k) with ht | ht
  · have e : inTo d k c = c.tru := by
      have h9 : hdK k = false := by
        unfold trB at ht; simp at ht
        rcases ht with rfl | rfl <;> rfl
      rw [inTo_flat h9]; unfold flatTo; rw [if_pos ht]
    rw [e]
    have h12 : k = 1 ∨ k = 2 := by unfold trB at ht; simp at ht; exact ht
    by_cases hq : c.pB ≤ 2
    · rcases h12 with rfl | rfl
      · exact rinner_1good ha w deep hq
      · exact rinner_2good ha w deep hq
    · rcases h12 with rfl | rfl
      · exact rinner_1bad ha w deep hq
      · exact rinner_2bad ha w deep hq
  · have e : inTo d k c = valTo (inTo d) k c := by unfold valTo; rw [if_neg (by rw [ht]; decide)]
    rw [e]
    exact rinner_no ha w deep k ht (Lib.hid fun w => hV k c r w hk ha hs)
theorem CS.want_er2 {c : CS} {x : Bool} (h : (c.want x 7).er = 0) : x = true := by
  cases x
  · rw [CS.want_no] at h
    by_cases h0 : c.er = 0
    · exact absurd h (CS.bad_er h0 (by decide))
    · rw [CS.fail_fail h0] at h; exact absurd h h0
  · rfl
theorem m_none (c : CS) : c.mCt = 0 ∨ ¬ c.mVl = 0 := by
  by_cases hz : c.vVal = 0
  · left; unfold CS.mCt; rw [if_pos hz]
  · by_cases h0 : c.mK.er = 0
    · right
      unfold CS.mVl
      rw [if_neg hz, if_pos h0]
      unfold CS.mK at h0
      have hx := CS.want_er2 h0
      rw [Bool.and_eq_true] at hx
      have := kB_yes hx.2
      omega
    · left; unfold CS.mCt; rw [if_neg hz, if_neg h0]
/-- Value, of what stands within so many others. -/
theorem rvalue_step {deep : Int} (h0 : 0 ≤ deep) {n : Nat} (hr : (32 - deep).toNat = n) (hV : ∀ m, n = m + 1 → RvR (deep + 1) (inTo m)) : RvR deep (inTo n) := by
  intro k c r w hk ha hs
  have hs' : ∀ m k, Std (inTo m k) := in_std
  by_cases hk12 : 1 ≤ k ∧ k ≤ 12
  · have hcase : k = 1 ∨ k = 2 ∨ k = 3 ∨ k = 4 ∨ k = 5 ∨ k = 6 ∨ k = 7 ∨ k = 8 ∨ (9 ≤ k ∧ k ≤ 12) := by omega
    rcases hcase with rfl | rfl | rfl | rfl | rfl | rfl | rfl | rfl | hh
    · exact rvalue_1 ha hs w deep
    · exact rvalue_2 ha hs w deep
    · rw [show valTo (inTo n) 3 c = c.take 1 from inTo_flat rfl n c]; exact rvalue_3 ha hs w deep
    · rw [show valTo (inTo n) 4 c = c.vTo from inTo_flat rfl n c]; exact rvalue_4 ha hs w deep
    · rw [show valTo (inTo n) 5 c = c.vTo from inTo_flat rfl n c]; exact rvalue_5 ha hs w deep
    · rw [show valTo (inTo n) 6 c = c.vTo from inTo_flat rfl n c]; exact rvalue_6 ha hs w deep
    · rw [show valTo (inTo n) 7 c = c.take 8 from inTo_flat rfl n c]; exact rvalue_7 ha hs w deep
    · rw [show valTo (inTo n) 8 c = c.txt from inTo_flat rfl n c]; exact rvalue_8 ha hs w deep
    · have hhd : hdK k = true := by unfold hdK; rw [decide_eq_true hh.1, decide_eq_true hh.2]; rfl
      have hkb : kB k = true := by unfold kB; rw [decide_eq_true (show 1 ≤ k by omega), decide_eq_true hh.2]; rfl
      have htr : trB k = false := by unfold trB; simp; omega
      have e : valTo (inTo n) k c = inTo n k c := by unfold valTo; rw [if_neg (by rw [htr]; decide)]
      rw [e]
      cases n with
      | zero =>
        rw [inTo_deep hhd]
        exact rvalue_deep ha hs w deep k hkb hhd (by omega)
      | succ m =>
        have hV' := hV m rfl
        have hI := rinner_of hV'
        have hd : 0 ≤ deep ∧ deep < 32 := ⟨h0, by omega⟩
        rw [inTo_hold hhd]
        have hcase : k = 9 ∨ k = 10 ∨ k = 11 ∨ k = 12 := by omega
        rcases hcase with rfl | rfl | rfl | rfl
        · rw [list_more (by decide) (by decide)]
          exact rvalue_9 ha hs w deep hd (Lib.hid fun x w hx hxs => rvals_one hI (hs' m) (CS.lCt_le c) (CS.lKd_le c) hx (by rw [hxs]; exact hs) w)
        · rw [list_more (by decide) (by decide)]
          exact rvalue_10 ha hs w deep hd (Lib.hid fun x w hx hxs => rvals_one hI (hs' m) (CS.lCt_le c) (CS.lKd_le c) hx (by rw [hxs]; exact hs) w)
        · rw [show holdTo (inTo m) 11 c = eachTo (inTo m) [c.mKy, c.mVl] c.mCt c.mTo from rfl]
          refine rvalue_11 ha hs w deep hd (Lib.hid fun x w hx hxs => ?_)
          by_cases hb : c.mVl = 0
          · have hn : c.mCt = 0 := by
              rcases m_none c with h | h
              · exact h
              · exact absurd hb h
            have := rvals_one hI (hs' m) (CS.mCt_le c) (CS.mKy_le c).1 hx (by rw [hxs]; exact hs) w
            rw [hb]
            rw [hn] at this ⊢
            exact this
          · exact rvals_two hI (hs' m) (CS.mCt_le c) (CS.mKy_le c).1 (CS.mKy_le c).2 hb hx (by rw [hxs]; exact hs) w
        · rw [show holdTo (inTo m) 12 c = fldTo (inTo m) fuelN 0 c from rfl]
          exact rvalue_12 ha hs w deep hd (Lib.hid fun w => rfields_any hV' (hs' m) ha hs w)
  · have hkb : kB k = false := by
      unfold kB
      rcases Nat.lt_or_ge k 1 with h | h
      · rw [decide_eq_false (by omega)]; rfl
      · rw [decide_eq_false (show ¬ k ≤ 12 by omega), Bool.and_false]
    have h9 : hdK k = false := by
      unfold hdK
      rcases Nat.lt_or_ge k 9 with h | h
      · rw [decide_eq_false (by omega)]; rfl
      · rw [decide_eq_false (show ¬ k ≤ 12 by omega), Bool.and_false]
    have htr : trB k = false := by unfold trB; simp; omega
    have e : valTo (inTo n) k c = c.fail 7 := by
      unfold valTo
      rw [if_neg (by rw [htr]; decide), inTo_flat h9]
      unfold flatTo
      rw [if_neg (by rw [htr]; decide), if_neg (by omega), if_neg (by omega), if_neg (by omega), if_neg (by omega)]
    rw [e]
    exact rvalue_no ha hs w deep k hkb
theorem rvalue_any : ∀ (n : Nat) (deep : Int), 0 ≤ deep → (32 - deep).toNat = n → RvR deep (inTo n)
  | 0, deep, h0, hr => rvalue_step h0 hr fun m h => absurd h (by omega)
  | n + 1, deep, h0, hr => rvalue_step h0 hr fun m h => by
    obtain rfl : m = n := by omega
    exact rvalue_any m (deep + 1) (by omega) (by omega)
end Go.Proofs.YtmiagebcobcaiaaDoor
