/- The document's own layer 21: fields, where going past a field's value is known. -/
import Derived.Test.YtmaojbhpnflbcaaSkS
import Derived.Test.YtmaojbhpnflbcaaSkC
namespace Go.Proofs.Ytmaojbhpnflbcaa
open Go Go.RowKit
set_option linter.unusedVariables false

def RfRel (f : Nat → CS → CS) (R : CS) (s : ByteArray) (w : World) (v i : Value) (wr : World) : Prop :=
  ∃ (m j : Nat) (last : Int) (c r : CS), v = .int .i64 last ∧ numB last = true ∧ i = .int .i64 j ∧ (r.er = 0 → j ≤ c.at_) ∧ c.lf < m ∧ fldTo f m last c = R ∧ Alike c r ∧ r.s = s ∧ R2 w wr r CS.zero
theorem fld_step (f : Nat → CS → CS) {m : Nat} (h : 0 < m) (last : Int) (c : CS) : fldTo f m last c = if c.hKd last = 0 then c.hTo last else fldTo f (m - 1) (c.hId last) (valTo f (c.hKd last) (c.hTo last)) := by
  cases m with
  | zero => omega
  | succ m => rfl
theorem fld_bad {f : Nat → CS → CS} {m : Nat} (h : 0 < m) (last : Int) {c : CS} (hc : c.ok) (he : ¬ c.er = 0) : fldTo f m last c = c := by
  have hk : c.hKd last = 0 := by
    by_cases hk : c.hKd last = 0
    · exact hk
    · exact absurd (head_more hc hk).2.2 he
  rw [fld_step f h, if_pos hk]
  exact (head_std last c hc).2.2.2.2 he
set_option maxHeartbeats 2000000 in
theorem rfields_any {deep : Int} {f : Nat → CS → CS} (hI : RvR deep f) (hf : ∀ k, Std (f k)) {c r : CS} (hal : Alike c r) (hs : r.s.size ≤ 140737488351232) (w : World) :
    Calls Try.prog 33 #[.agg #[.string r.s, .int .i64 r.at_, .int .i64 r.en, .int .i64 r.er], .int .i64 deep] w fun e w' => ∃ d, e = .returned (.agg #[.string d.s, .int .i64 d.at_, .int .i64 d.en, .int .i64 d.er]) ∧ Alike (fldTo f fuelN 0 c) d ∧ d.s = r.s ∧ Below w.heap.size w w' := by
  have hv : ∀ k, Std (valTo f k) := by
    intro k
    unfold valTo
    intro c hc
    split
    · exact Std.id c hc
    · exact hf k c hc
  obtain ⟨R, hR⟩ : ∃ R, R = fldTo f fuelN 0 c := ⟨_, rfl⟩
  rw [← hR]
  obtain ⟨s, hss⟩ : ∃ s, s = r.s := ⟨_, rfl⟩
  have HR0 := Lib.hid (show RfRel f R s w (.int .i64 0) (.int .i64 r.at_) _ from ⟨fuelN, r.at_, 0, c, r, rfl, rfl, rfl, fun h => by rw [hal.2.2.2.1 (hal.2.2.1.trans h)]; exact Nat.le_refl _, lf_fuel hal.1, hR.symm, hal, hss.symm, R2.start w r⟩)
  have T0 := Lib.hid (R2.start w r)
  have HI := Lib.hid hI
  have HV := Lib.hid hv
  have HZ := Lib.hid (show s.size ≤ 140737488351232 by rw [hss]; exact hs)
  have HS := Lib.hid hss
  clear hI hf hR hal hs hss hv
  go_enter Try.func33, Try.ntmps33
  have a0 := T0.out.a.c0; have a1 := T0.out.a.c1; have a2 := T0.out.a.c2; have a3 := T0.out.a.c3; have af := T0.out.a.fr
  have z0 := T0.out.b.c0; have z1 := T0.out.b.c1; have z2 := T0.out.b.c2; have z3 := T0.out.b.c3; have zf := T0.out.b.fr
  go_wp2_with fail
  clear T0
  clear a0 a1 a2 a3 af z0 z1 z2 z3 zf
  go_loopw [5, 6] (fun v i wr => RfRel f R s w v i wr) (fun _ i _ => s.size + 1 - (intOf i).toNat)
  case atStart => exact HR0.out
  case round =>
    obtain ⟨m, j, last, c1, r1, rfl, hnl, rfl, hj, hlf, hT, hal, hrs, T0⟩ := hrel
    have T0 := Lib.hid T0
    have hm0 : 0 < m := by omega
    by_cases he : r1.er = 0
    · have hcr : c1 = r1 := hal.2.2.2.1 (hal.2.2.1.trans he)
      have hok := hal.1
      have hj2 := hj he
      have hjs : j ≤ s.size ∧ c1.at_ ≤ s.size := by
        have h1 := hok.1
        have h2 := hok.2.1
        rw [hcr] at h1 h2
        rw [hrs] at h2
        rw [hcr] at hj2 ⊢
        omega
      have p1 : decide ((j : Int) ≤ (r1.en : Int)) = true := decide_eq_true (by have := hok.1; rw [hcr] at this hj2; omega)
      have p1' : decide (j ≤ r1.en) = true := decide_eq_true (by have := hok.1; rw [hcr] at this hj2; omega)
      have p2 : (r1.er == 0) = true := by rw [he]; rfl
      have HX := Lib.hid (fun w => rfield_any hal (by rw [hrs]; exact HZ.out) w last hnl)
      have hstd : (c1.hTo last).ok ∧ (c1.hTo last).s = c1.s ∧ (c1.hTo last).en = c1.en ∧ c1.at_ ≤ (c1.hTo last).at_ ∧ (¬ c1.er = 0 → c1.hTo last = c1) := head_std last c1 hok
      have hkl := CS.hKd_le c1 last
      have hnum := CS.hId_numb c1 last
      have hmore := head_more (c := c1) hok (last := last)
      rw [fld_step f hm0] at hT
      obtain ⟨d, hd⟩ : ∃ d, d = c1.hTo last := ⟨_, rfl⟩
      obtain ⟨k, hk⟩ : ∃ k, k = c1.hKd last := ⟨_, rfl⟩
      obtain ⟨i, hi⟩ : ∃ i, i = c1.hId last := ⟨_, rfl⟩
      rw [← hd, ← hk, ← hi] at hT HX
      rw [← hk] at hkl hmore
      rw [← hi] at hnum
      rw [← hd] at hstd hmore
      have HRS := Lib.hid hrs
      by_cases h0 : k = 0
      · subst h0
        rw [if_pos rfl] at hT
        have HT := Lib.hid hT
        clear hT hd hk hi hkl hmore hnum hstd hlf hok hnl hal hrs hm0 he hj hj2 hjs hcr
        have a0 := T0.out.a.c0; have a1 := T0.out.a.c1; have a2 := T0.out.a.c2; have a3 := T0.out.a.c3; have af := T0.out.a.fr
        have z0 := T0.out.b.c0; have z1 := T0.out.b.c1; have z2 := T0.out.b.c2; have z3 := T0.out.b.c3; have zf := T0.out.b.fr
        go_wp2_with fail
        with_reducible refine (HX.out _).mono ?_
        rintro e w1 ⟨x, rfl, hal1, hxs, b1⟩
        have T1 := Lib.hid (T0.out.call b1)
        have HA1 := Lib.hid hal1
        have HD1 := Lib.hid ((hxs.trans HRS.out).trans HS.out)
        have q := cur_alloc (w := w1) (c := x) 28
        have T2 := Lib.hid (T1.out.alloc (.cells #[.string x.s, .int .i64 x.at_, .int .i64 x.en, .int .i64 x.er] 28))
        clear b1 hal1 hxs
        clear a0 a1 a2 a3 af z0 z1 z2 z3 zf
        have a0 := T2.out.a.c0; have a1 := T2.out.a.c1; have a2 := T2.out.a.c2; have a3 := T2.out.a.c3; have af := T2.out.a.fr
        have z0 := T2.out.b.c0; have z1 := T2.out.b.c1; have z2 := T2.out.b.c2; have z3 := T2.out.b.c3; have zf := T2.out.b.fr
        have q0 := q.c0; have q1 := q.c1; have q2 := q.c2; have q3 := q.c3
        have S3 := Lib.hid ((T2.out.setA x).setB x)
        try simp only []
        repeat (first | go_values | go_skip | go_guarded | go_step | go_upon)
        exact bodyPost_ret (cur_res1 Try.underlying28 rfl (by kernel_rfl) Try.results33 S3.out.b (by kernel_rfl)) rfl ⟨x, rfl, by rw [← HT.out]; exact HA1.out, HD1.out, S3.out.k⟩
      · rw [if_neg h0] at hT
        have k1 : ((k : Int) == 0) = false := beq_eq_false_iff_ne.mpr (by omega)
        have k1' : (k == 0) = false := beq_eq_false_iff_ne.mpr h0
        obtain ⟨hm1, hm2, hm3⟩ := hmore h0
        obtain ⟨s1, s2, s3, s4, s5⟩ := hstd
        obtain ⟨z1, z2, z3, z4, z5⟩ := HV.out k d s1
        have hl2 : (valTo f k d).lf < m - 1 := by
          have := lf_less hok z1 (z3.trans s3) (by omega)
          omega
        have hj3 : j + 1 ≤ (valTo f k d).at_ := by omega
        have HC := Lib.hid (fun x w (h : Alike d x) (hx : x.s = s) => HI.out k d x w hkl h (by rw [hx]; exact HZ.out))
        have NX := Lib.hid (fun (y : CS) (wr : World) (hy : Alike (valTo f k d) y) (hys : y.s = s) (T : R2 w wr y CS.zero) => show RfRel f R s w (.int .i64 i) (.int .i64 ((j + 1 : Nat) : Int)) wr from ⟨m - 1, j + 1, i, _, y, rfl, hnum, rfl, fun _ => hj3, hl2, hT, hy, hys, T⟩)
        have HJ := Lib.hid hjs
        have hj64 : j ≤ 140737488351232 := by have := HZ.out; omega
        clear hT hd hk hi hkl hmore hnum hlf hok hnl hal hrs hm0 he hj hj2 hjs hcr hl2 hj3 hm1 hm2 hm3 s1 s2 s3 s4 s5 z1 z2 z3 z4 z5 h0
        have a0 := T0.out.a.c0; have a1 := T0.out.a.c1; have a2 := T0.out.a.c2; have a3 := T0.out.a.c3; have af := T0.out.a.fr
        have z0 := T0.out.b.c0; have z1 := T0.out.b.c1; have z2 := T0.out.b.c2; have z3 := T0.out.b.c3; have zf := T0.out.b.fr
        go_wp2_with fail
        with_reducible refine (HX.out _).mono ?_
        rintro e w1 ⟨x, rfl, hal1, hxs, b1⟩
        have T1 := Lib.hid (T0.out.call b1)
        have HA1 := Lib.hid hal1
        have HD1 := Lib.hid (hxs.trans HRS.out)
        have q := cur_alloc (w := w1) (c := x) 28
        have T2 := Lib.hid (T1.out.alloc (.cells #[.string x.s, .int .i64 x.at_, .int .i64 x.en, .int .i64 x.er] 28))
        clear b1 hal1 hxs
        clear a0 a1 a2 a3 af z0 z1 z2 z3 zf
        have a0 := T2.out.a.c0; have a1 := T2.out.a.c1; have a2 := T2.out.a.c2; have a3 := T2.out.a.c3; have af := T2.out.a.fr
        have z0 := T2.out.b.c0; have z1 := T2.out.b.c1; have z2 := T2.out.b.c2; have z3 := T2.out.b.c3; have zf := T2.out.b.fr
        have q0 := q.c0; have q1 := q.c1; have q2 := q.c2; have q3 := q.c3
        go_wp2_with fail
        clear q q0 q1 q2 q3
        generalize w1.alloc (.cells #[.string x.s, .int .i64 x.at_, .int .i64 x.en, .int .i64 x.er] 28) = w2 at T2 ⊢
        have T3 := Lib.hid (T2.out.setA x)
        obtain ⟨w3, hw⟩ : ∃ W, W = ((((w2.setCell ⟨w.heap.size, 0, none⟩ (.string x.s)).setCell ⟨w.heap.size, 1, none⟩ (.int .i64 x.at_)).setCell ⟨w.heap.size, 2, none⟩ (.int .i64 x.en)).setCell ⟨w.heap.size, 3, none⟩ (.int .i64 x.er)) := ⟨_, rfl⟩
        rw [← hw] at T3 ⊢
        clear hw
        clear a0 a1 a2 a3 af z0 z1 z2 z3 zf
        have a0 := T3.out.a.c0; have a1 := T3.out.a.c1; have a2 := T3.out.a.c2; have a3 := T3.out.a.c3; have af := T3.out.a.fr
        have z0 := T3.out.b.c0; have z1 := T3.out.b.c1; have z2 := T3.out.b.c2; have z3 := T3.out.b.c3; have zf := T3.out.b.fr
        with_reducible refine (HC.out x _ HA1.out HD1.out).mono ?_
        rintro e w4 ⟨y, rfl, hal4, hys, b4⟩
        have T4 := Lib.hid (T3.out.call b4)
        have T5 := Lib.hid (T4.out.setA y)
        have N5 := Lib.hid (NX.out y _ hal4 (hys.trans HD1.out) T5.out)
        clear b4 hal4 hys NX
        clear a0 a1 a2 a3 af z0 z1 z2 z3 zf
        have a0 := T4.out.a.c0; have a1 := T4.out.a.c1; have a2 := T4.out.a.c2; have a3 := T4.out.a.c3; have af := T4.out.a.fr
        have z0 := T4.out.b.c0; have z1 := T4.out.b.c1; have z2 := T4.out.b.c2; have z3 := T4.out.b.c3; have zf := T4.out.b.fr
        go_wp2
        go_roundw
        case rel => exact N5.out
        case measure => have := HJ.out; simp [intOf]; omega
    · have p2 : (r1.er == 0) = false := beq_eq_false_iff_ne.mpr he
      have HX := Lib.hid (show c1 = R by
        rw [← hT]; exact (fld_bad hm0 last hal.1 (by rw [hal.2.2.1]; exact he)).symm)
      have HA1 := Lib.hid hal
      have HD1 := Lib.hid (hrs.trans HS.out)
      have S1 := Lib.hid (T0.out.setB r1)
      by_cases hje : j ≤ r1.en
      · have p1 : decide ((j : Int) ≤ (r1.en : Int)) = true := decide_eq_true (by omega)
        have p1' : decide (j ≤ r1.en) = true := decide_eq_true hje
        clear hT he hal hrs hlf hm0 hj hnl hje
        have a0 := T0.out.a.c0; have a1 := T0.out.a.c1; have a2 := T0.out.a.c2; have a3 := T0.out.a.c3; have af := T0.out.a.fr
        have z0 := T0.out.b.c0; have z1 := T0.out.b.c1; have z2 := T0.out.b.c2; have z3 := T0.out.b.c3; have zf := T0.out.b.fr
        try simp only []
        repeat (first | go_values | go_skip | go_guarded | go_step | go_upon)
        exact bodyPost_ret (cur_res1 Try.underlying28 rfl (by kernel_rfl) Try.results33 S1.out.b (by kernel_rfl)) rfl ⟨r1, rfl, by rw [← HX.out]; exact HA1.out, HD1.out, S1.out.k⟩
      · have p1 : decide ((j : Int) ≤ (r1.en : Int)) = false := decide_eq_false (by omega)
        have p1' : decide (j ≤ r1.en) = false := decide_eq_false hje
        clear hT he hal hrs hlf hm0 hj hnl hje
        have a0 := T0.out.a.c0; have a1 := T0.out.a.c1; have a2 := T0.out.a.c2; have a3 := T0.out.a.c3; have af := T0.out.a.fr
        have z0 := T0.out.b.c0; have z1 := T0.out.b.c1; have z2 := T0.out.b.c2; have z3 := T0.out.b.c3; have zf := T0.out.b.fr
        try simp only []
        repeat (first | go_values | go_skip | go_guarded | go_step | go_upon)
        exact bodyPost_ret (cur_res1 Try.underlying28 rfl (by kernel_rfl) Try.results33 S1.out.b (by kernel_rfl)) rfl ⟨r1, rfl, by rw [← HX.out]; exact HA1.out, HD1.out, S1.out.k⟩
end Go.Proofs.Ytmaojbhpnflbcaa
