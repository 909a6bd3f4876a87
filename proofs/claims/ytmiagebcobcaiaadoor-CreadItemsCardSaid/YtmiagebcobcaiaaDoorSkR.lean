/- The document's own layer 21 (package truchmanref21): holds, bytes. -/
import Derived.Test.YtmiagebcobcaiaaDoorSkLoc
import Derived.Test.YtmiagebcobcaiaaDoorChT
namespace Go.Proofs.YtmiagebcobcaiaaDoor
open Go Go.RowKit
set_option linter.unusedVariables false

theorem Alike.std {f : CS → CS} (hf : Std f) {c r : CS} (h : Alike c r) : Alike (f c) (f r) := by
  obtain ⟨h1, h2, h3, h4, h5⟩ := h
  by_cases h0 : c.er = 0
  · obtain rfl := h4 h0
    exact Alike.refl (hf c h1).1
  · have g0 : ¬ r.er = 0 := by rw [← h3]; exact h0
    rw [(hf c h1).2.2.2.2 h0, (hf r h2).2.2.2.2 g0]
    exact ⟨h1, h2, h3, h4, h5⟩
theorem rtk_l {r d : CS} {n : Int} {T : ByteArray} (hd : Hid (d = r.take n)) (hT : Hid (T = r.takeS n)) (hr : Hid r.ok) (w : World) :
    Calls Tryd.prog 53 #[.agg #[.string r.s, .int .i64 r.at_, .int .i64 r.en, .int .i64 r.er], .int .i64 n] w fun e w' => e = .returned (.tuple #[.agg #[.string d.s, .int .i64 d.at_, .int .i64 d.en, .int .i64 d.er], .string T]) ∧ Below w.heap.size w w' := by
  rw [hd.out, hT.out]; exact ref_take r n w hr.out
theorem rfl_l {r d : CS} {k : Int} (hd : Hid (d = r.fail k)) (w : World) :
    Calls Tryd.prog 48 #[.agg #[.string r.s, .int .i64 r.at_, .int .i64 r.en, .int .i64 r.er], .int .i64 k] w fun e w' => e = .returned (.agg #[.string d.s, .int .i64 d.at_, .int .i64 d.en, .int .i64 d.er]) ∧ Below w.heap.size w w' := by
  rw [hd.out]; exact ref_fail r k w
theorem cur_res1 {P : Program} {T : TypeId} {d : TypeDesc} (hu : P.underlying T = some d) (hd : (match d with | .struct _ | .array _ _ => true | _ => false) = true) (hi : (P.info? T).map (·.size) = some 4)
    {fn : Func} {p : Tmp} (h : fn.results = #[.cell p T]) {tmps : Array Value} {w : World} {g : Nat} {t : TypeId} {c : CS} (hg : CurT t w g c) (hp : tmps.getD p undef = .pointer (some ⟨g, 0, none⟩)) :
    (results fn tmps).run P w = .ok (.agg #[.string c.s, .int .i64 c.at_, .int .i64 c.en, .int .i64 c.er]) w := by
  have hq := curn_result (P := P) hu hd hi hg
  have hp' : tmps[p]?.getD undef = .pointer (some ⟨g, 0, none⟩) := by simpa using hp
  simp [results, h, hp', asAddr, hq]
theorem rholds_any (k : Nat) (w : World) :
    Calls Tryd.prog 52 #[.int .u8 (k : Nat)] w fun e w' => e = .returned (.bool (hdK k)) ∧ w' = w := by
  unfold hdK
  rcases Bool.eq_false_or_eq_true (decide (9 ≤ k)) with h1 | h1 <;> rcases Bool.eq_false_or_eq_true (decide (k ≤ 12)) with h2 | h2 <;>
    (have p1 : decide ((9 : Int) ≤ (k : Int)) = decide (9 ≤ k) := by apply decide_eq_decide.mpr; omega
     have p1' : decide ((k : Int) ≥ 9) = decide (9 ≤ k) := by apply decide_eq_decide.mpr; omega
     have p2 : decide ((k : Int) ≤ 12) = decide (k ≤ 12) := by apply decide_eq_decide.mpr; omega
     rw [h1] at p1 p1'; rw [h2] at p2
     rw [h1, h2]
     have HK := Lib.hid (And.intro h1 h2)
     go_enter Tryd.func52, Tryd.ntmps52
     go_wp2
     go_ret
     exact ⟨rfl, rfl⟩)

set_option maxHeartbeats 1000000 in
theorem rtxt_bad {c r : CS} (ha : Alike c r) (hs : r.s.size ≤ 140737488351232) (w : World) (h : ¬ c.vTo.er = 0) :
    Calls Tryd.prog 54 #[.agg #[.string r.s, .int .i64 r.at_, .int .i64 r.en, .int .i64 r.er]] w fun e w' => ∃ d, e = .returned (.agg #[.string d.s, .int .i64 d.at_, .int .i64 d.en, .int .i64 d.er]) ∧ Alike c.txt d ∧ d.s = r.s ∧ Below w.heap.size w w' := by
  have hu := CS.vVal_zero h
  have HR := Lib.hid (show c.txt = c.vTo.take 0 by
    unfold CS.txt txTo; rw [hu, if_pos (Nat.zero_le _)]; rfl)
  have HV := Lib.hid (fun w => rr_l (V := 0) (Lib.hid (by rw [hu]; rfl)) (Lib.hid ha) hs w)
  have HC := Lib.hid h
  clear ha hs hu h
  have T0 := Lib.hid (R2.start w r)
  go_enter Tryd.func54, Tryd.ntmps54
  go_wp2_with fail
  with_reducible refine (HV.out _).mono ?_
  rintro e w1 ⟨d, rfl, hal, hds, b1⟩
  have T1 := Lib.hid (T0.out.call b1)
  have p1 : (d.er == 0) = false := by rw [← hal.2.2.1]; exact beq_eq_false_iff_ne.mpr HC.out
  have HQ := Lib.hid (hal.std (Std.take 0))
  have HS := Lib.hid (show (d.take 0).s = r.s from ((Std.take 0 d hal.2.1).2.1).trans hds)
  have HK := Lib.hid (fun w => rtk_l (r := d) (n := 0) (Lib.hid rfl) (Lib.hid rfl) (Lib.hid hal.2.1) w)
  obtain ⟨x, hx⟩ : ∃ x, x = d.take 0 := ⟨_, rfl⟩
  rw [← hx] at HK HS HQ
  clear b1 hal hds hx
  have a0 := T1.out.a.c0; have a1 := T1.out.a.c1; have a2 := T1.out.a.c2; have a3 := T1.out.a.c3; have af := T1.out.a.fr
  have z0 := T1.out.b.c0; have z1 := T1.out.b.c1; have z2 := T1.out.b.c2; have z3 := T1.out.b.c3; have zf := T1.out.b.fr
  go_wp2_with fail
  have T2 := Lib.hid (T1.out.setA d)
  obtain ⟨w2, hw⟩ : ∃ W, W = ((((w1.setCell ⟨w.heap.size, 0, none⟩ (.string d.s)).setCell ⟨w.heap.size, 1, none⟩ (.int .i64 d.at_)).setCell ⟨w.heap.size, 2, none⟩ (.int .i64 d.en)).setCell ⟨w.heap.size, 3, none⟩ (.int .i64 d.er)) := ⟨_, rfl⟩
  rw [← hw] at T2 ⊢
  clear hw
  clear a0 a1 a2 a3 af z0 z1 z2 z3 zf
  have a0 := T2.out.a.c0; have a1 := T2.out.a.c1; have a2 := T2.out.a.c2; have a3 := T2.out.a.c3; have af := T2.out.a.fr
  have z0 := T2.out.b.c0; have z1 := T2.out.b.c1; have z2 := T2.out.b.c2; have z3 := T2.out.b.c3; have zf := T2.out.b.fr
  with_reducible refine (HK.out _).mono ?_
  rintro e w3 ⟨rfl, b3⟩
  have T3 := Lib.hid (T2.out.call b3)
  clear b3
  clear a0 a1 a2 a3 af z0 z1 z2 z3 zf
  have a0 := T3.out.a.c0; have a1 := T3.out.a.c1; have a2 := T3.out.a.c2; have a3 := T3.out.a.c3; have af := T3.out.a.fr
  have z0 := T3.out.b.c0; have z1 := T3.out.b.c1; have z2 := T3.out.b.c2; have z3 := T3.out.b.c3; have zf := T3.out.b.fr
  have S3 := Lib.hid ((T3.out.setA x).setB x)
  simp only []
  repeat (first | go_values | go_skip | go_guarded | go_step | go_upon)
  exact bodyPost_ret (cur_res1 Tryd.underlying56 rfl (by kernel_rfl) Tryd.results54 S3.out.b (by kernel_rfl)) rfl ⟨x, rfl, by rw [HR.out]; exact HQ.out, HS.out, S3.out.k⟩
set_option maxHeartbeats 1000000 in
theorem rtxt_good {c r : CS} (ha : Alike c r) (hs : r.s.size ≤ 140737488351232) (w : World) (h : c.vTo.er = 0) (hq : c.vVal ≤ c.vTo.lf) :
    Calls Tryd.prog 54 #[.agg #[.string r.s, .int .i64 r.at_, .int .i64 r.en, .int .i64 r.er]] w fun e w' => ∃ d, e = .returned (.agg #[.string d.s, .int .i64 d.at_, .int .i64 d.en, .int .i64 d.er]) ∧ Alike c.txt d ∧ d.s = r.s ∧ Below w.heap.size w w' := by
  obtain ⟨u, hu⟩ : ∃ u, u = c.vVal := ⟨_, rfl⟩
  obtain ⟨c1, hc1⟩ : ∃ x, x = c.vTo := ⟨_, rfl⟩
  have hok1 : c1.ok := by rw [hc1]; exact CS.vTo_ok ha.1
  obtain ⟨z, hz⟩ : ∃ z, z = c1.lf := ⟨_, rfl⟩
  have hzi : (c1.en : Int) - c1.at_ = (z : Int) := by rw [hz]; unfold CS.lf; have := hok1.1; omega
  have hz64 : z ≤ 9223372036854775807 := by rw [hz]; unfold CS.lf; have := hok1.2; omega
  have m0 : IntKind.i64.wrap (z : Int) = (z : Int) := IntWalk.i64_in _ (by omega)
  have m1 : IntKind.u64.wrap (z : Int) = (z : Int) := IntWalk.u64_in _ (by omega)
  have HR := Lib.hid (show c.txt = c1.take (u : Nat) by
    unfold CS.txt txTo; rw [if_pos hq, hu, hc1])
  have HV := Lib.hid (fun w => rr_l (V := (u : Nat)) (Lib.hid (by rw [hu])) (Lib.hid ha) hs w)
  rw [← hc1] at HV h
  rw [← hc1, ← hu, ← hz] at hq
  have p2 : decide ((z : Int) < (u : Int)) = false := decide_eq_false (by omega)
  have p2' : decide (z < u) = false := decide_eq_false (by omega)
  have m2 : IntKind.i64.wrap (u : Int) = (u : Int) := IntWalk.i64_in _ (by omega)
  have m3 : wrap64 (u : Int) = (u : Int) := by unfold wrap64; omega
  have HC := Lib.hid h
  have HZ := Lib.hid hzi
  clear ha hs hu h hc1 hok1 hz hzi hz64 hq
  have T0 := Lib.hid (R2.start w r)
  go_enter Tryd.func54, Tryd.ntmps54
  go_wp2_with fail
  with_reducible refine (HV.out _).mono ?_
  rintro e w1 ⟨d, rfl, hal, hds, b1⟩
  have T1 := Lib.hid (T0.out.call b1)
  have hcd : c1 = d := hal.2.2.2.1 HC.out
  subst hcd
  have p1 : (c1.er == 0) = true := by rw [HC.out]; rfl
  have hzi := HZ.out
  have HQ := Lib.hid (hal.std (Std.take (u : Nat)))
  have HS := Lib.hid (show (c1.take (u : Nat)).s = r.s from ((Std.take (u : Nat) c1 hal.2.1).2.1).trans hds)
  have HK := Lib.hid (fun w => rtk_l (r := c1) (n := (u : Nat)) (Lib.hid rfl) (Lib.hid rfl) (Lib.hid hal.2.1) w)
  obtain ⟨x, hx⟩ : ∃ x, x = c1.take (u : Nat) := ⟨_, rfl⟩
  rw [← hx] at HK HS HQ HR
  clear b1 hal hds hx
  have a0 := T1.out.a.c0; have a1 := T1.out.a.c1; have a2 := T1.out.a.c2; have a3 := T1.out.a.c3; have af := T1.out.a.fr
  have z0 := T1.out.b.c0; have z1 := T1.out.b.c1; have z2 := T1.out.b.c2; have z3 := T1.out.b.c3; have zf := T1.out.b.fr
  go_wp2_with fail
  have T2 := Lib.hid (T1.out.setA c1)
  obtain ⟨w2, hw⟩ : ∃ W, W = ((((w1.setCell ⟨w.heap.size, 0, none⟩ (.string c1.s)).setCell ⟨w.heap.size, 1, none⟩ (.int .i64 c1.at_)).setCell ⟨w.heap.size, 2, none⟩ (.int .i64 c1.en)).setCell ⟨w.heap.size, 3, none⟩ (.int .i64 c1.er)) := ⟨_, rfl⟩
  rw [← hw] at T2 ⊢
  clear hw
  clear a0 a1 a2 a3 af z0 z1 z2 z3 zf
  have a0 := T2.out.a.c0; have a1 := T2.out.a.c1; have a2 := T2.out.a.c2; have a3 := T2.out.a.c3; have af := T2.out.a.fr
  have z0 := T2.out.b.c0; have z1 := T2.out.b.c1; have z2 := T2.out.b.c2; have z3 := T2.out.b.c3; have zf := T2.out.b.fr
  with_reducible refine (HK.out _).mono ?_
  rintro e w3 ⟨rfl, b3⟩
  have T3 := Lib.hid (T2.out.call b3)
  clear b3
  clear a0 a1 a2 a3 af z0 z1 z2 z3 zf
  have a0 := T3.out.a.c0; have a1 := T3.out.a.c1; have a2 := T3.out.a.c2; have a3 := T3.out.a.c3; have af := T3.out.a.fr
  have z0 := T3.out.b.c0; have z1 := T3.out.b.c1; have z2 := T3.out.b.c2; have z3 := T3.out.b.c3; have zf := T3.out.b.fr
  have S3 := Lib.hid ((T3.out.setA x).setB x)
  simp only []
  repeat (first | go_values | go_skip | go_guarded | go_step | go_upon)
  exact bodyPost_ret (cur_res1 Tryd.underlying56 rfl (by kernel_rfl) Tryd.results54 S3.out.b (by kernel_rfl)) rfl ⟨x, rfl, by rw [HR.out]; exact HQ.out, HS.out, S3.out.k⟩
set_option maxHeartbeats 1000000 in
theorem rtxt_cut {c r : CS} (ha : Alike c r) (hs : r.s.size ≤ 140737488351232) (w : World) (h : c.vTo.er = 0) (hq : ¬ c.vVal ≤ c.vTo.lf) :
    Calls Tryd.prog 54 #[.agg #[.string r.s, .int .i64 r.at_, .int .i64 r.en, .int .i64 r.er]] w fun e w' => ∃ d, e = .returned (.agg #[.string d.s, .int .i64 d.at_, .int .i64 d.en, .int .i64 d.er]) ∧ Alike c.txt d ∧ d.s = r.s ∧ Below w.heap.size w w' := by
  obtain ⟨u, hu⟩ : ∃ u, u = c.vVal := ⟨_, rfl⟩
  obtain ⟨c1, hc1⟩ : ∃ x, x = c.vTo := ⟨_, rfl⟩
  have hok1 : c1.ok := by rw [hc1]; exact CS.vTo_ok ha.1
  obtain ⟨z, hz⟩ : ∃ z, z = c1.lf := ⟨_, rfl⟩
  have hzi : (c1.en : Int) - c1.at_ = (z : Int) := by rw [hz]; unfold CS.lf; have := hok1.1; omega
  have hz64 : z ≤ 9223372036854775807 := by rw [hz]; unfold CS.lf; have := hok1.2; omega
  have m0 : IntKind.i64.wrap (z : Int) = (z : Int) := IntWalk.i64_in _ (by omega)
  have m1 : IntKind.u64.wrap (z : Int) = (z : Int) := IntWalk.u64_in _ (by omega)
  have HR := Lib.hid (show c.txt = c1.fail 1 by
    unfold CS.txt txTo; rw [if_neg hq, hc1])
  have HV := Lib.hid (fun w => rr_l (V := (u : Nat)) (Lib.hid (by rw [hu])) (Lib.hid ha) hs w)
  rw [← hc1] at HV h
  rw [← hc1, ← hu, ← hz] at hq
  have p2 : decide ((z : Int) < (u : Int)) = true := decide_eq_true (by omega)
  have p2' : decide (z < u) = true := decide_eq_true (by omega)
  have HC := Lib.hid h
  have HZ := Lib.hid hzi
  clear ha hs hu h hc1 hok1 hz hzi hz64 hq
  have T0 := Lib.hid (R2.start w r)
  go_enter Tryd.func54, Tryd.ntmps54
  go_wp2_with fail
  with_reducible refine (HV.out _).mono ?_
  rintro e w1 ⟨d, rfl, hal, hds, b1⟩
  have T1 := Lib.hid (T0.out.call b1)
  have hcd : c1 = d := hal.2.2.2.1 HC.out
  subst hcd
  have p1 : (c1.er == 0) = true := by rw [HC.out]; rfl
  have hzi := HZ.out
  have HQ := Lib.hid (hal.std (Std.fail 1))
  have HS := Lib.hid (show (c1.fail 1).s = r.s from ((Std.fail 1 c1 hal.2.1).2.1).trans hds)
  have HK := Lib.hid (fun w => rfl_l (r := c1) (k := 1) (Lib.hid rfl) w)
  obtain ⟨x, hx⟩ : ∃ x, x = c1.fail 1 := ⟨_, rfl⟩
  rw [← hx] at HK HS HQ HR
  clear b1 hal hds hx
  have a0 := T1.out.a.c0; have a1 := T1.out.a.c1; have a2 := T1.out.a.c2; have a3 := T1.out.a.c3; have af := T1.out.a.fr
  have z0 := T1.out.b.c0; have z1 := T1.out.b.c1; have z2 := T1.out.b.c2; have z3 := T1.out.b.c3; have zf := T1.out.b.fr
  go_wp2_with fail
  have T2 := Lib.hid (T1.out.setA c1)
  obtain ⟨w2, hw⟩ : ∃ W, W = ((((w1.setCell ⟨w.heap.size, 0, none⟩ (.string c1.s)).setCell ⟨w.heap.size, 1, none⟩ (.int .i64 c1.at_)).setCell ⟨w.heap.size, 2, none⟩ (.int .i64 c1.en)).setCell ⟨w.heap.size, 3, none⟩ (.int .i64 c1.er)) := ⟨_, rfl⟩
  rw [← hw] at T2 ⊢
  clear hw
  clear a0 a1 a2 a3 af z0 z1 z2 z3 zf
  have a0 := T2.out.a.c0; have a1 := T2.out.a.c1; have a2 := T2.out.a.c2; have a3 := T2.out.a.c3; have af := T2.out.a.fr
  have z0 := T2.out.b.c0; have z1 := T2.out.b.c1; have z2 := T2.out.b.c2; have z3 := T2.out.b.c3; have zf := T2.out.b.fr
  with_reducible refine (HK.out _).mono ?_
  rintro e w3 ⟨rfl, b3⟩
  have T3 := Lib.hid (T2.out.call b3)
  clear b3
  clear a0 a1 a2 a3 af z0 z1 z2 z3 zf
  have a0 := T3.out.a.c0; have a1 := T3.out.a.c1; have a2 := T3.out.a.c2; have a3 := T3.out.a.c3; have af := T3.out.a.fr
  have z0 := T3.out.b.c0; have z1 := T3.out.b.c1; have z2 := T3.out.b.c2; have z3 := T3.out.b.c3; have zf := T3.out.b.fr
  have S3 := Lib.hid (T3.out.setB x)
  simp only []
  repeat (first | go_values | go_skip | go_guarded | go_step | go_upon)
  exact bodyPost_ret (cur_res1 Tryd.underlying56 rfl (by kernel_rfl) Tryd.results54 S3.out.b (by kernel_rfl)) rfl ⟨x, rfl, by rw [HR.out]; exact HQ.out, HS.out, S3.out.k⟩
theorem rtxt_any {c r : CS} (ha : Alike c r) (hs : r.s.size ≤ 140737488351232) (w : World) :
    Calls Tryd.prog 54 #[.agg #[.string r.s, .int .i64 r.at_, .int .i64 r.en, .int .i64 r.er]] w fun e w' => ∃ d, e = .returned (.agg #[.string d.s, .int .i64 d.at_, .int .i64 d.en, .int .i64 d.er]) ∧ Alike c.txt d ∧ d.s = r.s ∧ Below w.heap.size w w' := by
  by_cases h : c.vTo.er = 0
  · by_cases hq : c.vVal ≤ c.vTo.lf
    · exact rtxt_good ha hs w h hq
    · exact rtxt_cut ha hs w h hq
  · exact rtxt_bad ha hs w h
end Go.Proofs.YtmiagebcobcaiaaDoor
