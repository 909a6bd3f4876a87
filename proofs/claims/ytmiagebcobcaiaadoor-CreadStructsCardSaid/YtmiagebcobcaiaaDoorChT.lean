/- The document's own heads (package truchmanref20): ListHead, MapHead. -/
import Derived.Test.YtmiagebcobcaiaaDoorChS
namespace Go.Proofs.YtmiagebcobcaiaaDoor
open Go Go.RowKit
set_option linter.unusedVariables false


set_option maxHeartbeats 1000000 in
theorem rlist_cut {c r : CS} (ha : Alike c r) (hs : r.s.size ≤ 140737488351232) (w : World) (h0 : ¬ c.byte.er = 0) :
    Calls Tryd.prog 28 #[.agg #[.string r.s, .int .i64 r.at_, .int .i64 r.en, .int .i64 r.er]] w fun e w' => ∃ d, e = .returned (.tuple #[.agg #[.string d.s, .int .i64 d.at_, .int .i64 d.en, .int .i64 d.er], .int .i64 (c.lCt : Nat), .int .u8 (c.lKd : Nat)]) ∧ Alike c.lTo d ∧ d.s = r.s ∧ Below w.heap.size w w' := by
  have hab := ha.byte
  have hcb := CS.peekB_nat c
  obtain ⟨x, hx⟩ : ∃ x, x = c.pB := ⟨_, rfl⟩
  rw [← hx] at hab hcb
  obtain ⟨d, hd⟩ : ∃ d, d = r.byte := ⟨_, rfl⟩
  have HB := Lib.hid (fun w => rby_l (Lib.hid hd) (Lib.hid hab.2.1) (Lib.hid ha.2.1) w)
  rw [← hd] at hab
  have her := hab.1.2.2.1
  have HA := Lib.hid hab.1
  have HD := Lib.hid hab.2.2
  have hds : d.s.size ≤ 140737488351232 := by rw [hab.2.2]; exact hs
  have HR := Lib.hid (CS.l_end h0)
  have p1 : (d.er != 0) = true := by rw [← her]; simp [h0]
  clear hab ha hx hd hcb her hs h0 hds
  have T0 := Lib.hid (R2.start w r)
  go_enter Tryd.func28, Tryd.ntmps28
  go_wp2_with fail
  with_reducible refine (HB.out _).mono ?_
  rintro e w1 ⟨rfl, b1⟩
  have T1 := Lib.hid (T0.out.call b1)
  clear b1
  have a0 := T1.out.a.c0; have a1 := T1.out.a.c1; have a2 := T1.out.a.c2; have a3 := T1.out.a.c3; have af := T1.out.a.fr
  have z0 := T1.out.b.c0; have z1 := T1.out.b.c1; have z2 := T1.out.b.c2; have z3 := T1.out.b.c3; have zf := T1.out.b.fr
  have S2 := Lib.hid ((T1.out.setA d).setB d)
  simp only []
  repeat (first | go_values | go_skip | go_guarded | go_step | go_upon)
  exact bodyPost_ret (cur_res3 (x := .int .i64 0) (y := .int .u8 0) Tryd.underlying56 rfl (by kernel_rfl) Tryd.results28 S2.out.b (by kernel_rfl) (by kernel_rfl) (by kernel_rfl)) rfl ⟨d, by rw [HR.out.2.1, HR.out.2.2]; rfl, by rw [HR.out.1]; exact HA.out, HD.out, S2.out.k⟩

set_option maxHeartbeats 1000000 in
theorem rlist_kind {c r : CS} (ha : Alike c r) (hs : r.s.size ≤ 140737488351232) (w : World) (h0 : c.byte.er = 0) (hk : kB (c.pB % 16) = false) :
    Calls Tryd.prog 28 #[.agg #[.string r.s, .int .i64 r.at_, .int .i64 r.en, .int .i64 r.er]] w fun e w' => ∃ d, e = .returned (.tuple #[.agg #[.string d.s, .int .i64 d.at_, .int .i64 d.en, .int .i64 d.er], .int .i64 (c.lCt : Nat), .int .u8 (c.lKd : Nat)]) ∧ Alike c.lTo d ∧ d.s = r.s ∧ Below w.heap.size w w' := by
  have hab := ha.byte
  have hcb := CS.peekB_nat c
  obtain ⟨x, hx⟩ : ∃ x, x = c.pB := ⟨_, rfl⟩
  rw [← hx] at hab hcb
  obtain ⟨d, hd⟩ : ∃ d, d = r.byte := ⟨_, rfl⟩
  have HB := Lib.hid (fun w => rby_l (Lib.hid hd) (Lib.hid hab.2.1) (Lib.hid ha.2.1) w)
  rw [← hd] at hab
  have her := hab.1.2.2.1
  have HA := Lib.hid hab.1
  have HD := Lib.hid hab.2.2
  have hds : d.s.size ≤ 140737488351232 := by rw [hab.2.2]; exact hs
  have HR := Lib.hid (CS.l_kind h0 hk)
  have p1 : (d.er != 0) = false := by rw [← her]; rw [h0]; rfl
  obtain ⟨q, hqe⟩ : ∃ q, q = x / 16 := ⟨_, rfl⟩
  obtain ⟨t, hte⟩ : ∃ t, t = x % 16 := ⟨_, rfl⟩
  have hx8 := hcb.2
  have m1 : (x : Int).tmod 16 = (t : Int) := by rw [Int.tmod_eq_emod_of_nonneg (by omega)]; omega
  have m1' : (x : Int) % 16 = (t : Int) := by omega
  have m2 : (x : Int) / 16 = (q : Int) := by omega
  have m2' : (x : Int).tdiv 16 = (q : Int) := by rw [Int.tdiv_eq_ediv_of_nonneg (by omega)]; omega
  have m3 : IntKind.i64.wrap (q : Int) = (q : Int) := IntWalk.i64_in _ (by omega)
  have m5 : IntKind.u8.wrap (q : Int) = (q : Int) := IntWalk.u8_in _ (by omega)
  have m6 : IntKind.u8.wrap (t : Int) = (t : Int) := IntWalk.u8_in _ (by omega)
  have hkt : kB t = false := by rw [hte, hx]; exact hk
  have HK := Lib.hid (fun w => ris_l (Lib.hid hkt.symm) w)
  have hd0 : d.er = 0 := by rw [← her]; exact h0
  have HF := Lib.hid (fun w => ref_fail0 d 7 w hd0)
  have HQ := Lib.hid (HA.out.fail hd0 7)
  clear hab ha hx hd hcb her hs h0 hd0 hds hk hte hqe hkt hx8
  have T0 := Lib.hid (R2.start w r)
  go_enter Tryd.func28, Tryd.ntmps28
  go_wp2_with fail
  with_reducible refine (HB.out _).mono ?_
  rintro e w1 ⟨rfl, b1⟩
  have T1 := Lib.hid (T0.out.call b1)
  clear b1
  have a0 := T1.out.a.c0; have a1 := T1.out.a.c1; have a2 := T1.out.a.c2; have a3 := T1.out.a.c3; have af := T1.out.a.fr
  have z0 := T1.out.b.c0; have z1 := T1.out.b.c1; have z2 := T1.out.b.c2; have z3 := T1.out.b.c3; have zf := T1.out.b.fr
  go_wp2_with fail
  have T2 := Lib.hid (T1.out.setA d)
  obtain ⟨w2, hw2⟩ : ∃ W, W = ((((w1.setCell ⟨w.heap.size, 0, none⟩ (.string d.s)).setCell ⟨w.heap.size, 1, none⟩ (.int .i64 d.at_)).setCell ⟨w.heap.size, 2, none⟩ (.int .i64 d.en)).setCell ⟨w.heap.size, 3, none⟩ (.int .i64 d.er)) := ⟨_, rfl⟩
  rw [← hw2] at T2 ⊢
  clear hw2
  clear a0 a1 a2 a3 af z0 z1 z2 z3 zf
  have a0 := T2.out.a.c0; have a1 := T2.out.a.c1; have a2 := T2.out.a.c2; have a3 := T2.out.a.c3; have af := T2.out.a.fr
  have z0 := T2.out.b.c0; have z1 := T2.out.b.c1; have z2 := T2.out.b.c2; have z3 := T2.out.b.c3; have zf := T2.out.b.fr
  with_reducible refine (HK.out _).mono ?_
  rintro e w2' ⟨rfl, hww⟩
  rw [hww]
  clear hww
  go_wp2_with fail
  with_reducible refine (HF.out _).mono ?_
  rintro e w3 ⟨rfl, b3⟩
  have T3 := Lib.hid (T2.out.call b3)
  clear b3
  clear a0 a1 a2 a3 af z0 z1 z2 z3 zf
  have a0 := T3.out.a.c0; have a1 := T3.out.a.c1; have a2 := T3.out.a.c2; have a3 := T3.out.a.c3; have af := T3.out.a.fr
  have z0 := T3.out.b.c0; have z1 := T3.out.b.c1; have z2 := T3.out.b.c2; have z3 := T3.out.b.c3; have zf := T3.out.b.fr
  have S3 := Lib.hid (T3.out.setB { d with er := 7 })
  simp only []
  repeat (first | go_values | go_skip | go_guarded | go_step | go_upon)
  exact bodyPost_ret (cur_res3 (x := .int .i64 0) (y := .int .u8 0) Tryd.underlying56 rfl (by kernel_rfl) Tryd.results28 S3.out.b (by kernel_rfl) (by kernel_rfl) (by kernel_rfl)) rfl ⟨{ d with er := 7 }, by rw [HR.out.2.1, HR.out.2.2]; rfl, by rw [HR.out.1]; exact HQ.out, HD.out, S3.out.k⟩

set_option maxHeartbeats 1000000 in
theorem rlist_short {c r : CS} (ha : Alike c r) (hs : r.s.size ≤ 140737488351232) (w : World) (h0 : c.byte.er = 0) (hk : kB (c.pB % 16) = true) (hq : c.pB < 240) :
    Calls Tryd.prog 28 #[.agg #[.string r.s, .int .i64 r.at_, .int .i64 r.en, .int .i64 r.er]] w fun e w' => ∃ d, e = .returned (.tuple #[.agg #[.string d.s, .int .i64 d.at_, .int .i64 d.en, .int .i64 d.er], .int .i64 (c.lCt : Nat), .int .u8 (c.lKd : Nat)]) ∧ Alike c.lTo d ∧ d.s = r.s ∧ Below w.heap.size w w' := by
  have hab := ha.byte
  have hcb := CS.peekB_nat c
  obtain ⟨x, hx⟩ : ∃ x, x = c.pB := ⟨_, rfl⟩
  rw [← hx] at hab hcb
  obtain ⟨d, hd⟩ : ∃ d, d = r.byte := ⟨_, rfl⟩
  have HB := Lib.hid (fun w => rby_l (Lib.hid hd) (Lib.hid hab.2.1) (Lib.hid ha.2.1) w)
  rw [← hd] at hab
  have her := hab.1.2.2.1
  have HA := Lib.hid hab.1
  have HD := Lib.hid hab.2.2
  have hds : d.s.size ≤ 140737488351232 := by rw [hab.2.2]; exact hs
  have HR := Lib.hid (CS.l_short h0 hk hq)
  have p1 : (d.er != 0) = false := by rw [← her]; rw [h0]; rfl
  obtain ⟨q, hqe⟩ : ∃ q, q = x / 16 := ⟨_, rfl⟩
  obtain ⟨t, hte⟩ : ∃ t, t = x % 16 := ⟨_, rfl⟩
  have hx8 := hcb.2
  have m1 : (x : Int).tmod 16 = (t : Int) := by rw [Int.tmod_eq_emod_of_nonneg (by omega)]; omega
  have m1' : (x : Int) % 16 = (t : Int) := by omega
  have m2 : (x : Int) / 16 = (q : Int) := by omega
  have m2' : (x : Int).tdiv 16 = (q : Int) := by rw [Int.tdiv_eq_ediv_of_nonneg (by omega)]; omega
  have m3 : IntKind.i64.wrap (q : Int) = (q : Int) := IntWalk.i64_in _ (by omega)
  have m5 : IntKind.u8.wrap (q : Int) = (q : Int) := IntWalk.u8_in _ (by omega)
  have m6 : IntKind.u8.wrap (t : Int) = (t : Int) := IntWalk.u8_in _ (by omega)
  have hkt : kB t = true := by rw [hte, hx]; exact hk
  have HK := Lib.hid (fun w => ris_l (Lib.hid hkt.symm) w)
  rw [← hx] at hq
  rw [← hx, ← hte, ← hqe] at HR
  have p3 : decide ((x : Int) < 240) = true := decide_eq_true (by omega)
  have p3' : decide (x < 240) = true := decide_eq_true hq
  clear hab ha hx hd hcb her hs h0 hds hk hte hqe hkt hx8 hq
  have T0 := Lib.hid (R2.start w r)
  go_enter Tryd.func28, Tryd.ntmps28
  go_wp2_with fail
  with_reducible refine (HB.out _).mono ?_
  rintro e w1 ⟨rfl, b1⟩
  have T1 := Lib.hid (T0.out.call b1)
  clear b1
  have a0 := T1.out.a.c0; have a1 := T1.out.a.c1; have a2 := T1.out.a.c2; have a3 := T1.out.a.c3; have af := T1.out.a.fr
  have z0 := T1.out.b.c0; have z1 := T1.out.b.c1; have z2 := T1.out.b.c2; have z3 := T1.out.b.c3; have zf := T1.out.b.fr
  go_wp2_with fail
  have T2 := Lib.hid (T1.out.setA d)
  obtain ⟨w2, hw2⟩ : ∃ W, W = ((((w1.setCell ⟨w.heap.size, 0, none⟩ (.string d.s)).setCell ⟨w.heap.size, 1, none⟩ (.int .i64 d.at_)).setCell ⟨w.heap.size, 2, none⟩ (.int .i64 d.en)).setCell ⟨w.heap.size, 3, none⟩ (.int .i64 d.er)) := ⟨_, rfl⟩
  rw [← hw2] at T2 ⊢
  clear hw2
  clear a0 a1 a2 a3 af z0 z1 z2 z3 zf
  have a0 := T2.out.a.c0; have a1 := T2.out.a.c1; have a2 := T2.out.a.c2; have a3 := T2.out.a.c3; have af := T2.out.a.fr
  have z0 := T2.out.b.c0; have z1 := T2.out.b.c1; have z2 := T2.out.b.c2; have z3 := T2.out.b.c3; have zf := T2.out.b.fr
  with_reducible refine (HK.out _).mono ?_
  rintro e w2' ⟨rfl, hww⟩
  rw [hww]
  clear hww
  have S3 := Lib.hid (T2.out.setB d)
  simp only []
  repeat (first | go_values | go_skip | go_guarded | go_step | go_upon)
  exact bodyPost_ret (cur_res3 (x := .int .i64 (q : Nat)) (y := .int .u8 (t : Nat)) Tryd.underlying56 rfl (by kernel_rfl) Tryd.results28 S3.out.b (by kernel_rfl) (by kernel_rfl) (by kernel_rfl)) rfl ⟨d, by rw [HR.out.2.1, HR.out.2.2]; rfl, by rw [HR.out.1]; exact HA.out, HD.out, S3.out.k⟩

set_option maxHeartbeats 1000000 in
theorem rlist_bad {c r : CS} (ha : Alike c r) (hs : r.s.size ≤ 140737488351232) (w : World) (h0 : c.byte.er = 0) (hk : kB (c.pB % 16) = true) (hq : ¬ c.pB < 240) (hv : ¬ c.byte.sTo.er = 0) :
    Calls Tryd.prog 28 #[.agg #[.string r.s, .int .i64 r.at_, .int .i64 r.en, .int .i64 r.er]] w fun e w' => ∃ d, e = .returned (.tuple #[.agg #[.string d.s, .int .i64 d.at_, .int .i64 d.en, .int .i64 d.er], .int .i64 (c.lCt : Nat), .int .u8 (c.lKd : Nat)]) ∧ Alike c.lTo d ∧ d.s = r.s ∧ Below w.heap.size w w' := by
  have hab := ha.byte
  have hcb := CS.peekB_nat c
  obtain ⟨x, hx⟩ : ∃ x, x = c.pB := ⟨_, rfl⟩
  rw [← hx] at hab hcb
  obtain ⟨d, hd⟩ : ∃ d, d = r.byte := ⟨_, rfl⟩
  have HB := Lib.hid (fun w => rby_l (Lib.hid hd) (Lib.hid hab.2.1) (Lib.hid ha.2.1) w)
  rw [← hd] at hab
  have her := hab.1.2.2.1
  have HA := Lib.hid hab.1
  have HD := Lib.hid hab.2.2
  have hds : d.s.size ≤ 140737488351232 := by rw [hab.2.2]; exact hs
  have p1 : (d.er != 0) = false := by rw [← her]; rw [h0]; rfl
  obtain ⟨q, hqe⟩ : ∃ q, q = x / 16 := ⟨_, rfl⟩
  obtain ⟨t, hte⟩ : ∃ t, t = x % 16 := ⟨_, rfl⟩
  have hx8 := hcb.2
  have m1 : (x : Int).tmod 16 = (t : Int) := by rw [Int.tmod_eq_emod_of_nonneg (by omega)]; omega
  have m1' : (x : Int) % 16 = (t : Int) := by omega
  have m2 : (x : Int) / 16 = (q : Int) := by omega
  have m2' : (x : Int).tdiv 16 = (q : Int) := by rw [Int.tdiv_eq_ediv_of_nonneg (by omega)]; omega
  have m3 : IntKind.i64.wrap (q : Int) = (q : Int) := IntWalk.i64_in _ (by omega)
  have m5 : IntKind.u8.wrap (q : Int) = (q : Int) := IntWalk.u8_in _ (by omega)
  have m6 : IntKind.u8.wrap (t : Int) = (t : Int) := IntWalk.u8_in _ (by omega)
  have hkt : kB t = true := by rw [hte, hx]; exact hk
  have HK := Lib.hid (fun w => ris_l (Lib.hid hkt.symm) w)
  have HL := CS.l_long hk hq
  rw [← hx] at hq
  have p3 : decide ((x : Int) < 240) = false := decide_eq_false (by omega)
  have p3' : decide (x < 240) = false := decide_eq_false hq
  obtain ⟨n, hn⟩ : ∃ n, n = c.byte.sN := ⟨_, rfl⟩
  have HV := Lib.hid (fun w => rsize_any hab.1 hds w)
  rw [← hn] at HV
  have HR := Lib.hid (show c.lTo = c.byte.sTo ∧ c.lCt = 0 ∧ c.lKd = 0 from ⟨HL.1, HL.2.2.2 hv⟩)
  clear hab ha hx hd hcb her hs h0 hds hk hte hqe hkt hx8 hq hn HL
  have T0 := Lib.hid (R2.start w r)
  go_enter Tryd.func28, Tryd.ntmps28
  go_wp2_with fail
  with_reducible refine (HB.out _).mono ?_
  rintro e w1 ⟨rfl, b1⟩
  have T1 := Lib.hid (T0.out.call b1)
  clear b1
  have a0 := T1.out.a.c0; have a1 := T1.out.a.c1; have a2 := T1.out.a.c2; have a3 := T1.out.a.c3; have af := T1.out.a.fr
  have z0 := T1.out.b.c0; have z1 := T1.out.b.c1; have z2 := T1.out.b.c2; have z3 := T1.out.b.c3; have zf := T1.out.b.fr
  go_wp2_with fail
  have T2 := Lib.hid (T1.out.setA d)
  obtain ⟨w2, hw2⟩ : ∃ W, W = ((((w1.setCell ⟨w.heap.size, 0, none⟩ (.string d.s)).setCell ⟨w.heap.size, 1, none⟩ (.int .i64 d.at_)).setCell ⟨w.heap.size, 2, none⟩ (.int .i64 d.en)).setCell ⟨w.heap.size, 3, none⟩ (.int .i64 d.er)) := ⟨_, rfl⟩
  rw [← hw2] at T2 ⊢
  clear hw2
  clear a0 a1 a2 a3 af z0 z1 z2 z3 zf
  have a0 := T2.out.a.c0; have a1 := T2.out.a.c1; have a2 := T2.out.a.c2; have a3 := T2.out.a.c3; have af := T2.out.a.fr
  have z0 := T2.out.b.c0; have z1 := T2.out.b.c1; have z2 := T2.out.b.c2; have z3 := T2.out.b.c3; have zf := T2.out.b.fr
  with_reducible refine (HK.out _).mono ?_
  rintro e w2' ⟨rfl, hww⟩
  rw [hww]
  clear hww
  go_wp2_with fail
  with_reducible refine (HV.out _).mono ?_
  rintro e w3 ⟨y, rfl, hal, hys, b3⟩
  have T3 := Lib.hid (T2.out.call b3)
  have hey := hal.2.2.1
  have HY := Lib.hid hal
  have HS := Lib.hid (hys.trans HD.out)
  clear b3 hal hys
  clear a0 a1 a2 a3 af z0 z1 z2 z3 zf
  have a0 := T3.out.a.c0; have a1 := T3.out.a.c1; have a2 := T3.out.a.c2; have a3 := T3.out.a.c3; have af := T3.out.a.fr
  have z0 := T3.out.b.c0; have z1 := T3.out.b.c1; have z2 := T3.out.b.c2; have z3 := T3.out.b.c3; have zf := T3.out.b.fr
  have p4 : (y.er != 0) = true := by rw [← hey]; simp [hv]
  clear hey hv
  have S4 := Lib.hid ((T3.out.setA y).setB y)
  simp only []
  repeat (first | go_values | go_skip | go_guarded | go_step | go_upon)
  exact bodyPost_ret (cur_res3 (x := .int .i64 0) (y := .int .u8 0) Tryd.underlying56 rfl (by kernel_rfl) Tryd.results28 S4.out.b (by kernel_rfl) (by kernel_rfl) (by kernel_rfl)) rfl ⟨y, by rw [HR.out.2.1, HR.out.2.2]; rfl, by rw [HR.out.1]; exact HY.out, HS.out, S4.out.k⟩

set_option maxHeartbeats 1000000 in
theorem rlist_long {c r : CS} (ha : Alike c r) (hs : r.s.size ≤ 140737488351232) (w : World) (h0 : c.byte.er = 0) (hk : kB (c.pB % 16) = true) (hq : ¬ c.pB < 240) (hv : c.byte.sTo.er = 0) :
    Calls Tryd.prog 28 #[.agg #[.string r.s, .int .i64 r.at_, .int .i64 r.en, .int .i64 r.er]] w fun e w' => ∃ d, e = .returned (.tuple #[.agg #[.string d.s, .int .i64 d.at_, .int .i64 d.en, .int .i64 d.er], .int .i64 (c.lCt : Nat), .int .u8 (c.lKd : Nat)]) ∧ Alike c.lTo d ∧ d.s = r.s ∧ Below w.heap.size w w' := by
  have hab := ha.byte
  have hcb := CS.peekB_nat c
  obtain ⟨x, hx⟩ : ∃ x, x = c.pB := ⟨_, rfl⟩
  rw [← hx] at hab hcb
  obtain ⟨d, hd⟩ : ∃ d, d = r.byte := ⟨_, rfl⟩
  have HB := Lib.hid (fun w => rby_l (Lib.hid hd) (Lib.hid hab.2.1) (Lib.hid ha.2.1) w)
  rw [← hd] at hab
  have her := hab.1.2.2.1
  have HA := Lib.hid hab.1
  have HD := Lib.hid hab.2.2
  have hds : d.s.size ≤ 140737488351232 := by rw [hab.2.2]; exact hs
  have p1 : (d.er != 0) = false := by rw [← her]; rw [h0]; rfl
  obtain ⟨q, hqe⟩ : ∃ q, q = x / 16 := ⟨_, rfl⟩
  obtain ⟨t, hte⟩ : ∃ t, t = x % 16 := ⟨_, rfl⟩
  have hx8 := hcb.2
  have m1 : (x : Int).tmod 16 = (t : Int) := by rw [Int.tmod_eq_emod_of_nonneg (by omega)]; omega
  have m1' : (x : Int) % 16 = (t : Int) := by omega
  have m2 : (x : Int) / 16 = (q : Int) := by omega
  have m2' : (x : Int).tdiv 16 = (q : Int) := by rw [Int.tdiv_eq_ediv_of_nonneg (by omega)]; omega
  have m3 : IntKind.i64.wrap (q : Int) = (q : Int) := IntWalk.i64_in _ (by omega)
  have m5 : IntKind.u8.wrap (q : Int) = (q : Int) := IntWalk.u8_in _ (by omega)
  have m6 : IntKind.u8.wrap (t : Int) = (t : Int) := IntWalk.u8_in _ (by omega)
  have hkt : kB t = true := by rw [hte, hx]; exact hk
  have HK := Lib.hid (fun w => ris_l (Lib.hid hkt.symm) w)
  have HL := CS.l_long hk hq
  rw [← hx] at hq
  have p3 : decide ((x : Int) < 240) = false := decide_eq_false (by omega)
  have p3' : decide (x < 240) = false := decide_eq_false hq
  obtain ⟨n, hn⟩ : ∃ n, n = c.byte.sN := ⟨_, rfl⟩
  have HV := Lib.hid (fun w => rsize_any hab.1 hds w)
  rw [← hn] at HV
  have HR := Lib.hid (show c.lTo = c.byte.sTo ∧ c.lCt = n ∧ c.lKd = t from ⟨HL.1, HL.2.1.trans hn.symm, by rw [HL.2.2.1 hv, hte, hx]⟩)
  clear hab ha hx hd hcb her hs h0 hds hk hte hqe hkt hx8 hq hn HL
  have T0 := Lib.hid (R2.start w r)
  go_enter Tryd.func28, Tryd.ntmps28
  go_wp2_with fail
  with_reducible refine (HB.out _).mono ?_
  rintro e w1 ⟨rfl, b1⟩
  have T1 := Lib.hid (T0.out.call b1)
  clear b1
  have a0 := T1.out.a.c0; have a1 := T1.out.a.c1; have a2 := T1.out.a.c2; have a3 := T1.out.a.c3; have af := T1.out.a.fr
  have z0 := T1.out.b.c0; have z1 := T1.out.b.c1; have z2 := T1.out.b.c2; have z3 := T1.out.b.c3; have zf := T1.out.b.fr
  go_wp2_with fail
  have T2 := Lib.hid (T1.out.setA d)
  obtain ⟨w2, hw2⟩ : ∃ W, W = ((((w1.setCell ⟨w.heap.size, 0, none⟩ (.string d.s)).setCell ⟨w.heap.size, 1, none⟩ (.int .i64 d.at_)).setCell ⟨w.heap.size, 2, none⟩ (.int .i64 d.en)).setCell ⟨w.heap.size, 3, none⟩ (.int .i64 d.er)) := ⟨_, rfl⟩
  rw [← hw2] at T2 ⊢
  clear hw2
  clear a0 a1 a2 a3 af z0 z1 z2 z3 zf
  have a0 := T2.out.a.c0; have a1 := T2.out.a.c1; have a2 := T2.out.a.c2; have a3 := T2.out.a.c3; have af := T2.out.a.fr
  have z0 := T2.out.b.c0; have z1 := T2.out.b.c1; have z2 := T2.out.b.c2; have z3 := T2.out.b.c3; have zf := T2.out.b.fr
  with_reducible refine (HK.out _).mono ?_
  rintro e w2' ⟨rfl, hww⟩
  rw [hww]
  clear hww
  go_wp2_with fail
  with_reducible refine (HV.out _).mono ?_
  rintro e w3 ⟨y, rfl, hal, hys, b3⟩
  have T3 := Lib.hid (T2.out.call b3)
  have hey := hal.2.2.1
  have HY := Lib.hid hal
  have HS := Lib.hid (hys.trans HD.out)
  clear b3 hal hys
  clear a0 a1 a2 a3 af z0 z1 z2 z3 zf
  have a0 := T3.out.a.c0; have a1 := T3.out.a.c1; have a2 := T3.out.a.c2; have a3 := T3.out.a.c3; have af := T3.out.a.fr
  have z0 := T3.out.b.c0; have z1 := T3.out.b.c1; have z2 := T3.out.b.c2; have z3 := T3.out.b.c3; have zf := T3.out.b.fr
  have p4 : (y.er != 0) = false := by rw [← hey, hv]; rfl
  clear hey hv
  have S4 := Lib.hid ((T3.out.setA y).setB y)
  simp only []
  repeat (first | go_values | go_skip | go_guarded | go_step | go_upon)
  exact bodyPost_ret (cur_res3 (x := .int .i64 (n : Nat)) (y := .int .u8 (t : Nat)) Tryd.underlying56 rfl (by kernel_rfl) Tryd.results28 S4.out.b (by kernel_rfl) (by kernel_rfl) (by kernel_rfl)) rfl ⟨y, by rw [HR.out.2.1, HR.out.2.2]; rfl, by rw [HR.out.1]; exact HY.out, HS.out, S4.out.k⟩

theorem rlist_any {c r : CS} (ha : Alike c r) (hs : r.s.size ≤ 140737488351232) (w : World) :
    Calls Tryd.prog 28 #[.agg #[.string r.s, .int .i64 r.at_, .int .i64 r.en, .int .i64 r.er]] w fun e w' => ∃ d, e = .returned (.tuple #[.agg #[.string d.s, .int .i64 d.at_, .int .i64 d.en, .int .i64 d.er], .int .i64 (c.lCt : Nat), .int .u8 (c.lKd : Nat)]) ∧ Alike c.lTo d ∧ d.s = r.s ∧ Below w.heap.size w w' := by
  by_cases h0 : c.byte.er = 0
  · rcases Bool.eq_false_or_eq_true (kB (c.pB % 16)) with hk | hk
    · by_cases hq : c.pB < 240
      · exact rlist_short ha hs w h0 hk hq
      · by_cases hv : c.byte.sTo.er = 0
        · exact rlist_long ha hs w h0 hk hq hv
        · exact rlist_bad ha hs w h0 hk hq hv
    · exact rlist_kind ha hs w h0 hk
  · exact rlist_cut ha hs w h0

set_option maxHeartbeats 1000000 in
theorem rmap_bad {c r : CS} (ha : Alike c r) (hs : r.s.size ≤ 140737488351232) (w : World) (h : ¬ c.sTo.er = 0) :
    Calls Tryd.prog 56 #[.agg #[.string r.s, .int .i64 r.at_, .int .i64 r.en, .int .i64 r.er]] w fun e w' => ∃ d, e = .returned (.tuple #[.agg #[.string d.s, .int .i64 d.at_, .int .i64 d.en, .int .i64 d.er], .int .i64 (c.mCt : Nat), .int .u8 (c.mKy : Nat), .int .u8 (c.mVl : Nat)]) ∧ Alike c.mTo d ∧ d.s = r.s ∧ Below w.heap.size w w' := by
  obtain ⟨n, hn⟩ : ∃ n, n = c.sN := ⟨_, rfl⟩
  have HV := Lib.hid (fun w => rsize_any ha hs w)
  rw [← hn] at HV
  have HR := Lib.hid (CS.m_bad ha.1 h)
  have HN := Lib.hid (hn.trans (CS.sN_bad h))
  clear ha hs hn
  have T0 := Lib.hid (R2.start w r)
  go_enter Tryd.func56, Tryd.ntmps56
  go_wp2_with fail
  with_reducible refine (HV.out _).mono ?_
  rintro e w1 ⟨y, rfl, hal, hys, b1⟩
  have T1 := Lib.hid (T0.out.call b1)
  clear b1
  have a0 := T1.out.a.c0; have a1 := T1.out.a.c1; have a2 := T1.out.a.c2; have a3 := T1.out.a.c3; have af := T1.out.a.fr
  have z0 := T1.out.b.c0; have z1 := T1.out.b.c1; have z2 := T1.out.b.c2; have z3 := T1.out.b.c3; have zf := T1.out.b.fr
  have hey := hal.2.2.1
  have HY := Lib.hid hal
  have HD := Lib.hid hys
  have p1 : (y.er != 0) = true := by rw [← hey]; simp [h]
  clear hey h hal hys
  have S2 := Lib.hid ((T1.out.setA y).setB y)
  simp only []
  repeat (first | go_values | go_skip | go_guarded | go_step | go_upon)
  exact bodyPost_ret (cur_res4 (x := .int .i64 0) (y := .int .u8 0) (q := .int .u8 0) Tryd.underlying56 rfl (by kernel_rfl) Tryd.results56 S2.out.b (by kernel_rfl) (by kernel_rfl) (by kernel_rfl) (by kernel_rfl)) rfl ⟨y, by rw [HR.out.2.1, HR.out.2.2.1, HR.out.2.2.2]; rfl, by rw [HR.out.1]; exact HY.out, HD.out, S2.out.k⟩

set_option maxHeartbeats 1000000 in
theorem rmap_zero {c r : CS} (ha : Alike c r) (hs : r.s.size ≤ 140737488351232) (w : World) (h : c.sTo.er = 0) (hz : c.vVal = 0) :
    Calls Tryd.prog 56 #[.agg #[.string r.s, .int .i64 r.at_, .int .i64 r.en, .int .i64 r.er]] w fun e w' => ∃ d, e = .returned (.tuple #[.agg #[.string d.s, .int .i64 d.at_, .int .i64 d.en, .int .i64 d.er], .int .i64 (c.mCt : Nat), .int .u8 (c.mKy : Nat), .int .u8 (c.mVl : Nat)]) ∧ Alike c.mTo d ∧ d.s = r.s ∧ Below w.heap.size w w' := by
  obtain ⟨n, hn⟩ : ∃ n, n = c.sN := ⟨_, rfl⟩
  have HV := Lib.hid (fun w => rsize_any ha hs w)
  rw [← hn] at HV
  have HR := Lib.hid (CS.m_zero hz)
  have hn0 : n = 0 := by rw [hn, CS.sN_good h, hz]
  clear ha hs hn hz
  subst hn0
  have T0 := Lib.hid (R2.start w r)
  go_enter Tryd.func56, Tryd.ntmps56
  go_wp2_with fail
  with_reducible refine (HV.out _).mono ?_
  rintro e w1 ⟨y, rfl, hal, hys, b1⟩
  have T1 := Lib.hid (T0.out.call b1)
  clear b1
  have a0 := T1.out.a.c0; have a1 := T1.out.a.c1; have a2 := T1.out.a.c2; have a3 := T1.out.a.c3; have af := T1.out.a.fr
  have z0 := T1.out.b.c0; have z1 := T1.out.b.c1; have z2 := T1.out.b.c2; have z3 := T1.out.b.c3; have zf := T1.out.b.fr
  have hey := hal.2.2.1
  have HY := Lib.hid hal
  have HD := Lib.hid hys
  have p1 : (y.er != 0) = false := by rw [← hey, h]; rfl
  clear hey h hal hys
  have S2 := Lib.hid ((T1.out.setA y).setB y)
  simp only []
  repeat (first | go_values | go_skip | go_guarded | go_step | go_upon)
  exact bodyPost_ret (cur_res4 (x := .int .i64 0) (y := .int .u8 0) (q := .int .u8 0) Tryd.underlying56 rfl (by kernel_rfl) Tryd.results56 S2.out.b (by kernel_rfl) (by kernel_rfl) (by kernel_rfl) (by kernel_rfl)) rfl ⟨y, by rw [HR.out.2.1, HR.out.2.2.1, HR.out.2.2.2]; rfl, by rw [HR.out.1]; exact HY.out, HD.out, S2.out.k⟩

set_option maxHeartbeats 1000000 in
theorem rmap_cut {c r : CS} (ha : Alike c r) (hs : r.s.size ≤ 140737488351232) (w : World) (h : c.sTo.er = 0) (hz : ¬ c.vVal = 0) (h0 : ¬ c.sTo.byte.er = 0) :
    Calls Tryd.prog 56 #[.agg #[.string r.s, .int .i64 r.at_, .int .i64 r.en, .int .i64 r.er]] w fun e w' => ∃ d, e = .returned (.tuple #[.agg #[.string d.s, .int .i64 d.at_, .int .i64 d.en, .int .i64 d.er], .int .i64 (c.mCt : Nat), .int .u8 (c.mKy : Nat), .int .u8 (c.mVl : Nat)]) ∧ Alike c.mTo d ∧ d.s = r.s ∧ Below w.heap.size w w' := by
  obtain ⟨n, hn⟩ : ∃ n, n = c.sN := ⟨_, rfl⟩
  have HV := Lib.hid (fun w => rsize_any ha hs w)
  rw [← hn] at HV
  have hnv : n = c.vVal := hn.trans (CS.sN_good h)
  have p2 : ((n : Int) == 0) = false := beq_eq_false_iff_ne.mpr (by omega)
  have p2' : (n == 0) = false := beq_eq_false_iff_ne.mpr (by omega)
  have hcb := CS.peekB_nat c.sTo
  obtain ⟨x, hx⟩ : ∃ x, x = c.sTo.pB := ⟨_, rfl⟩
  rw [← hx] at hcb
  have HR := Lib.hid (CS.m_cut hz h0)
  clear ha hs hn hnv hz hcb
  have T0 := Lib.hid (R2.start w r)
  go_enter Tryd.func56, Tryd.ntmps56
  go_wp2_with fail
  with_reducible refine (HV.out _).mono ?_
  rintro e w1 ⟨y, rfl, hal, hys, b1⟩
  have T1 := Lib.hid (T0.out.call b1)
  clear b1
  have a0 := T1.out.a.c0; have a1 := T1.out.a.c1; have a2 := T1.out.a.c2; have a3 := T1.out.a.c3; have af := T1.out.a.fr
  have z0 := T1.out.b.c0; have z1 := T1.out.b.c1; have z2 := T1.out.b.c2; have z3 := T1.out.b.c3; have zf := T1.out.b.fr
  have hey := hal.2.2.1
  have HY := Lib.hid hal
  have HD := Lib.hid hys
  have p1 : (y.er != 0) = false := by rw [← hey, h]; rfl
  have hab := hal.byte
  rw [← hx] at hab
  obtain ⟨d, hd⟩ : ∃ d, d = y.byte := ⟨_, rfl⟩
  have HB := Lib.hid (fun w => rby_l (Lib.hid hd) (Lib.hid hab.2.1) (Lib.hid hal.2.1) w)
  rw [← hd] at hab
  have her := hab.1.2.2.1
  have HA := Lib.hid hab.1
  have HS := Lib.hid (hab.2.2.trans HD.out)
  have p5 : (d.er != 0) = true := by rw [← her]; simp [h0]
  clear hey h hal hys hab hd her hx h0
  go_wp2_with fail
  have T2 := Lib.hid (T1.out.setA y)
  obtain ⟨w2, hw2⟩ : ∃ W, W = ((((w1.setCell ⟨w.heap.size, 0, none⟩ (.string y.s)).setCell ⟨w.heap.size, 1, none⟩ (.int .i64 y.at_)).setCell ⟨w.heap.size, 2, none⟩ (.int .i64 y.en)).setCell ⟨w.heap.size, 3, none⟩ (.int .i64 y.er)) := ⟨_, rfl⟩
  rw [← hw2] at T2 ⊢
  clear hw2
  clear a0 a1 a2 a3 af z0 z1 z2 z3 zf
  have a0 := T2.out.a.c0; have a1 := T2.out.a.c1; have a2 := T2.out.a.c2; have a3 := T2.out.a.c3; have af := T2.out.a.fr
  have z0 := T2.out.b.c0; have z1 := T2.out.b.c1; have z2 := T2.out.b.c2; have z3 := T2.out.b.c3; have zf := T2.out.b.fr
  with_reducible refine (HB.out _).mono ?_
  rintro e w3 ⟨rfl, b3⟩
  have T3 := Lib.hid (T2.out.call b3)
  clear b3
  clear a0 a1 a2 a3 af z0 z1 z2 z3 zf
  have a0 := T3.out.a.c0; have a1 := T3.out.a.c1; have a2 := T3.out.a.c2; have a3 := T3.out.a.c3; have af := T3.out.a.fr
  have z0 := T3.out.b.c0; have z1 := T3.out.b.c1; have z2 := T3.out.b.c2; have z3 := T3.out.b.c3; have zf := T3.out.b.fr
  have S4 := Lib.hid ((T3.out.setA d).setB d)
  simp only []
  repeat (first | go_values | go_skip | go_guarded | go_step | go_upon)
  exact bodyPost_ret (cur_res4 (x := .int .i64 0) (y := .int .u8 0) (q := .int .u8 0) Tryd.underlying56 rfl (by kernel_rfl) Tryd.results56 S4.out.b (by kernel_rfl) (by kernel_rfl) (by kernel_rfl) (by kernel_rfl)) rfl ⟨d, by rw [HR.out.2.1, HR.out.2.2.1, HR.out.2.2.2]; rfl, by rw [HR.out.1]; exact HA.out, HS.out, S4.out.k⟩

set_option maxHeartbeats 1000000 in
theorem rmap_key {c r : CS} (ha : Alike c r) (hs : r.s.size ≤ 140737488351232) (w : World) (h : c.sTo.er = 0) (hz : ¬ c.vVal = 0) (h0 : c.sTo.byte.er = 0) (hk1 : kB (c.sTo.pB / 16) = false) :
    Calls Tryd.prog 56 #[.agg #[.string r.s, .int .i64 r.at_, .int .i64 r.en, .int .i64 r.er]] w fun e w' => ∃ d, e = .returned (.tuple #[.agg #[.string d.s, .int .i64 d.at_, .int .i64 d.en, .int .i64 d.er], .int .i64 (c.mCt : Nat), .int .u8 (c.mKy : Nat), .int .u8 (c.mVl : Nat)]) ∧ Alike c.mTo d ∧ d.s = r.s ∧ Below w.heap.size w w' := by
  obtain ⟨n, hn⟩ : ∃ n, n = c.sN := ⟨_, rfl⟩
  have HV := Lib.hid (fun w => rsize_any ha hs w)
  rw [← hn] at HV
  have hnv : n = c.vVal := hn.trans (CS.sN_good h)
  have p2 : ((n : Int) == 0) = false := beq_eq_false_iff_ne.mpr (by omega)
  have p2' : (n == 0) = false := beq_eq_false_iff_ne.mpr (by omega)
  have hcb := CS.peekB_nat c.sTo
  obtain ⟨x, hx⟩ : ∃ x, x = c.sTo.pB := ⟨_, rfl⟩
  rw [← hx] at hcb
  obtain ⟨q, hqe⟩ : ∃ q, q = x / 16 := ⟨_, rfl⟩
  obtain ⟨t, hte⟩ : ∃ t, t = x % 16 := ⟨_, rfl⟩
  have hx8 := hcb.2
  have m1 : (x : Int).tmod 16 = (t : Int) := by rw [Int.tmod_eq_emod_of_nonneg (by omega)]; omega
  have m1' : (x : Int) % 16 = (t : Int) := by omega
  have m2 : (x : Int) / 16 = (q : Int) := by omega
  have m2' : (x : Int).tdiv 16 = (q : Int) := by rw [Int.tdiv_eq_ediv_of_nonneg (by omega)]; omega
  have m3 : IntKind.i64.wrap (q : Int) = (q : Int) := IntWalk.i64_in _ (by omega)
  have m5 : IntKind.u8.wrap (q : Int) = (q : Int) := IntWalk.u8_in _ (by omega)
  have m6 : IntKind.u8.wrap (t : Int) = (t : Int) := IntWalk.u8_in _ (by omega)
  have hkq : kB q = false := by rw [hqe, hx]; exact hk1
  have HK := Lib.hid (fun w => ris_l (Lib.hid hkq.symm) w)
  have HR := Lib.hid (CS.m_kind hz h0 (by rw [hk1]; rfl))
  clear ha hs hn hnv hz hcb hk1 hkq hqe hte hx8
  have T0 := Lib.hid (R2.start w r)
  go_enter Tryd.func56, Tryd.ntmps56
  go_wp2_with fail
  with_reducible refine (HV.out _).mono ?_
  rintro e w1 ⟨y, rfl, hal, hys, b1⟩
  have T1 := Lib.hid (T0.out.call b1)
  clear b1
  have a0 := T1.out.a.c0; have a1 := T1.out.a.c1; have a2 := T1.out.a.c2; have a3 := T1.out.a.c3; have af := T1.out.a.fr
  have z0 := T1.out.b.c0; have z1 := T1.out.b.c1; have z2 := T1.out.b.c2; have z3 := T1.out.b.c3; have zf := T1.out.b.fr
  have hey := hal.2.2.1
  have HY := Lib.hid hal
  have HD := Lib.hid hys
  have p1 : (y.er != 0) = false := by rw [← hey, h]; rfl
  have hab := hal.byte
  rw [← hx] at hab
  obtain ⟨d, hd⟩ : ∃ d, d = y.byte := ⟨_, rfl⟩
  have HB := Lib.hid (fun w => rby_l (Lib.hid hd) (Lib.hid hab.2.1) (Lib.hid hal.2.1) w)
  rw [← hd] at hab
  have her := hab.1.2.2.1
  have HA := Lib.hid hab.1
  have HS := Lib.hid (hab.2.2.trans HD.out)
  have p5 : (d.er != 0) = false := by rw [← her, h0]; rfl
  have hd0 : d.er = 0 := by rw [← her]; exact h0
  have HF := Lib.hid (fun w => ref_fail0 d 7 w hd0)
  have HQ := Lib.hid (HA.out.fail hd0 7)
  clear hd0
  clear hey h hal hys hab hd her hx h0
  go_wp2_with fail
  have T2 := Lib.hid (T1.out.setA y)
  obtain ⟨w2, hw2⟩ : ∃ W, W = ((((w1.setCell ⟨w.heap.size, 0, none⟩ (.string y.s)).setCell ⟨w.heap.size, 1, none⟩ (.int .i64 y.at_)).setCell ⟨w.heap.size, 2, none⟩ (.int .i64 y.en)).setCell ⟨w.heap.size, 3, none⟩ (.int .i64 y.er)) := ⟨_, rfl⟩
  rw [← hw2] at T2 ⊢
  clear hw2
  clear a0 a1 a2 a3 af z0 z1 z2 z3 zf
  have a0 := T2.out.a.c0; have a1 := T2.out.a.c1; have a2 := T2.out.a.c2; have a3 := T2.out.a.c3; have af := T2.out.a.fr
  have z0 := T2.out.b.c0; have z1 := T2.out.b.c1; have z2 := T2.out.b.c2; have z3 := T2.out.b.c3; have zf := T2.out.b.fr
  with_reducible refine (HB.out _).mono ?_
  rintro e w3 ⟨rfl, b3⟩
  have T3 := Lib.hid (T2.out.call b3)
  clear b3
  clear a0 a1 a2 a3 af z0 z1 z2 z3 zf
  have a0 := T3.out.a.c0; have a1 := T3.out.a.c1; have a2 := T3.out.a.c2; have a3 := T3.out.a.c3; have af := T3.out.a.fr
  have z0 := T3.out.b.c0; have z1 := T3.out.b.c1; have z2 := T3.out.b.c2; have z3 := T3.out.b.c3; have zf := T3.out.b.fr
  go_wp2_with fail
  have T4 := Lib.hid (T3.out.setA d)
  obtain ⟨w4, hw4⟩ : ∃ W, W = ((((w3.setCell ⟨w.heap.size, 0, none⟩ (.string d.s)).setCell ⟨w.heap.size, 1, none⟩ (.int .i64 d.at_)).setCell ⟨w.heap.size, 2, none⟩ (.int .i64 d.en)).setCell ⟨w.heap.size, 3, none⟩ (.int .i64 d.er)) := ⟨_, rfl⟩
  rw [← hw4] at T4 ⊢
  clear hw4
  clear a0 a1 a2 a3 af z0 z1 z2 z3 zf
  have a0 := T4.out.a.c0; have a1 := T4.out.a.c1; have a2 := T4.out.a.c2; have a3 := T4.out.a.c3; have af := T4.out.a.fr
  have z0 := T4.out.b.c0; have z1 := T4.out.b.c1; have z2 := T4.out.b.c2; have z3 := T4.out.b.c3; have zf := T4.out.b.fr
  with_reducible refine (HK.out _).mono ?_
  rintro e w5 ⟨rfl, hww⟩
  rw [hww]
  clear hww
  go_wp2_with fail
  with_reducible refine (HF.out _).mono ?_
  rintro e w6 ⟨rfl, b3⟩
  have T6 := Lib.hid (T4.out.call b3)
  clear b3
  clear a0 a1 a2 a3 af z0 z1 z2 z3 zf
  have a0 := T6.out.a.c0; have a1 := T6.out.a.c1; have a2 := T6.out.a.c2; have a3 := T6.out.a.c3; have af := T6.out.a.fr
  have z0 := T6.out.b.c0; have z1 := T6.out.b.c1; have z2 := T6.out.b.c2; have z3 := T6.out.b.c3; have zf := T6.out.b.fr
  have S3 := Lib.hid (T6.out.setB { d with er := 7 })
  simp only []
  repeat (first | go_values | go_skip | go_guarded | go_step | go_upon)
  exact bodyPost_ret (cur_res4 (x := .int .i64 0) (y := .int .u8 0) (q := .int .u8 0) Tryd.underlying56 rfl (by kernel_rfl) Tryd.results56 S3.out.b (by kernel_rfl) (by kernel_rfl) (by kernel_rfl) (by kernel_rfl)) rfl ⟨{ d with er := 7 }, by rw [HR.out.2.1, HR.out.2.2.1, HR.out.2.2.2]; rfl, by rw [HR.out.1]; exact HQ.out, HS.out, S3.out.k⟩

set_option maxHeartbeats 1000000 in
theorem rmap_val {c r : CS} (ha : Alike c r) (hs : r.s.size ≤ 140737488351232) (w : World) (h : c.sTo.er = 0) (hz : ¬ c.vVal = 0) (h0 : c.sTo.byte.er = 0) (hk1 : kB (c.sTo.pB / 16) = true) (hk2 : kB (c.sTo.pB % 16) = false) :
    Calls Tryd.prog 56 #[.agg #[.string r.s, .int .i64 r.at_, .int .i64 r.en, .int .i64 r.er]] w fun e w' => ∃ d, e = .returned (.tuple #[.agg #[.string d.s, .int .i64 d.at_, .int .i64 d.en, .int .i64 d.er], .int .i64 (c.mCt : Nat), .int .u8 (c.mKy : Nat), .int .u8 (c.mVl : Nat)]) ∧ Alike c.mTo d ∧ d.s = r.s ∧ Below w.heap.size w w' := by
  obtain ⟨n, hn⟩ : ∃ n, n = c.sN := ⟨_, rfl⟩
  have HV := Lib.hid (fun w => rsize_any ha hs w)
  rw [← hn] at HV
  have hnv : n = c.vVal := hn.trans (CS.sN_good h)
  have p2 : ((n : Int) == 0) = false := beq_eq_false_iff_ne.mpr (by omega)
  have p2' : (n == 0) = false := beq_eq_false_iff_ne.mpr (by omega)
  have hcb := CS.peekB_nat c.sTo
  obtain ⟨x, hx⟩ : ∃ x, x = c.sTo.pB := ⟨_, rfl⟩
  rw [← hx] at hcb
  obtain ⟨q, hqe⟩ : ∃ q, q = x / 16 := ⟨_, rfl⟩
  obtain ⟨t, hte⟩ : ∃ t, t = x % 16 := ⟨_, rfl⟩
  have hx8 := hcb.2
  have m1 : (x : Int).tmod 16 = (t : Int) := by rw [Int.tmod_eq_emod_of_nonneg (by omega)]; omega
  have m1' : (x : Int) % 16 = (t : Int) := by omega
  have m2 : (x : Int) / 16 = (q : Int) := by omega
  have m2' : (x : Int).tdiv 16 = (q : Int) := by rw [Int.tdiv_eq_ediv_of_nonneg (by omega)]; omega
  have m3 : IntKind.i64.wrap (q : Int) = (q : Int) := IntWalk.i64_in _ (by omega)
  have m5 : IntKind.u8.wrap (q : Int) = (q : Int) := IntWalk.u8_in _ (by omega)
  have m6 : IntKind.u8.wrap (t : Int) = (t : Int) := IntWalk.u8_in _ (by omega)
  have hkq : kB q = true := by rw [hqe, hx]; exact hk1
  have HK := Lib.hid (fun w => ris_l (Lib.hid hkq.symm) w)
  have hkt : kB t = false := by rw [hte, hx]; exact hk2
  have HK2 := Lib.hid (fun w => ris_l (Lib.hid hkt.symm) w)
  have HR := Lib.hid (CS.m_kind hz h0 (by rw [hk1, hk2]; rfl))
  clear ha hs hn hnv hz hcb hk1 hkq hk2 hkt hqe hte hx8
  have T0 := Lib.hid (R2.start w r)
  go_enter Tryd.func56, Tryd.ntmps56
  go_wp2_with fail
  with_reducible refine (HV.out _).mono ?_
  rintro e w1 ⟨y, rfl, hal, hys, b1⟩
  have T1 := Lib.hid (T0.out.call b1)
  clear b1
  have a0 := T1.out.a.c0; have a1 := T1.out.a.c1; have a2 := T1.out.a.c2; have a3 := T1.out.a.c3; have af := T1.out.a.fr
  have z0 := T1.out.b.c0; have z1 := T1.out.b.c1; have z2 := T1.out.b.c2; have z3 := T1.out.b.c3; have zf := T1.out.b.fr
  have hey := hal.2.2.1
  have HY := Lib.hid hal
  have HD := Lib.hid hys
  have p1 : (y.er != 0) = false := by rw [← hey, h]; rfl
  have hab := hal.byte
  rw [← hx] at hab
  obtain ⟨d, hd⟩ : ∃ d, d = y.byte := ⟨_, rfl⟩
  have HB := Lib.hid (fun w => rby_l (Lib.hid hd) (Lib.hid hab.2.1) (Lib.hid hal.2.1) w)
  rw [← hd] at hab
  have her := hab.1.2.2.1
  have HA := Lib.hid hab.1
  have HS := Lib.hid (hab.2.2.trans HD.out)
  have p5 : (d.er != 0) = false := by rw [← her, h0]; rfl
  have hd0 : d.er = 0 := by rw [← her]; exact h0
  have HF := Lib.hid (fun w => ref_fail0 d 7 w hd0)
  have HQ := Lib.hid (HA.out.fail hd0 7)
  clear hd0
  clear hey h hal hys hab hd her hx h0
  go_wp2_with fail
  have T2 := Lib.hid (T1.out.setA y)
  obtain ⟨w2, hw2⟩ : ∃ W, W = ((((w1.setCell ⟨w.heap.size, 0, none⟩ (.string y.s)).setCell ⟨w.heap.size, 1, none⟩ (.int .i64 y.at_)).setCell ⟨w.heap.size, 2, none⟩ (.int .i64 y.en)).setCell ⟨w.heap.size, 3, none⟩ (.int .i64 y.er)) := ⟨_, rfl⟩
  rw [← hw2] at T2 ⊢
  clear hw2
  clear a0 a1 a2 a3 af z0 z1 z2 z3 zf
  have a0 := T2.out.a.c0; have a1 := T2.out.a.c1; have a2 := T2.out.a.c2; have a3 := T2.out.a.c3; have af := T2.out.a.fr
  have z0 := T2.out.b.c0; have z1 := T2.out.b.c1; have z2 := T2.out.b.c2; have z3 := T2.out.b.c3; have zf := T2.out.b.fr
  with_reducible refine (HB.out _).mono ?_
  rintro e w3 ⟨rfl, b3⟩
  have T3 := Lib.hid (T2.out.call b3)
  clear b3
  clear a0 a1 a2 a3 af z0 z1 z2 z3 zf
  have a0 := T3.out.a.c0; have a1 := T3.out.a.c1; have a2 := T3.out.a.c2; have a3 := T3.out.a.c3; have af := T3.out.a.fr
  have z0 := T3.out.b.c0; have z1 := T3.out.b.c1; have z2 := T3.out.b.c2; have z3 := T3.out.b.c3; have zf := T3.out.b.fr
  go_wp2_with fail
  have T4 := Lib.hid (T3.out.setA d)
  obtain ⟨w4, hw4⟩ : ∃ W, W = ((((w3.setCell ⟨w.heap.size, 0, none⟩ (.string d.s)).setCell ⟨w.heap.size, 1, none⟩ (.int .i64 d.at_)).setCell ⟨w.heap.size, 2, none⟩ (.int .i64 d.en)).setCell ⟨w.heap.size, 3, none⟩ (.int .i64 d.er)) := ⟨_, rfl⟩
  rw [← hw4] at T4 ⊢
  clear hw4
  clear a0 a1 a2 a3 af z0 z1 z2 z3 zf
  have a0 := T4.out.a.c0; have a1 := T4.out.a.c1; have a2 := T4.out.a.c2; have a3 := T4.out.a.c3; have af := T4.out.a.fr
  have z0 := T4.out.b.c0; have z1 := T4.out.b.c1; have z2 := T4.out.b.c2; have z3 := T4.out.b.c3; have zf := T4.out.b.fr
  with_reducible refine (HK.out _).mono ?_
  rintro e w5 ⟨rfl, hww⟩
  rw [hww]
  clear hww
  go_wp2_with fail
  with_reducible refine (HK2.out _).mono ?_
  rintro e w5 ⟨rfl, hww⟩
  rw [hww]
  clear hww
  go_wp2_with fail
  with_reducible refine (HF.out _).mono ?_
  rintro e w6 ⟨rfl, b3⟩
  have T6 := Lib.hid (T4.out.call b3)
  clear b3
  clear a0 a1 a2 a3 af z0 z1 z2 z3 zf
  have a0 := T6.out.a.c0; have a1 := T6.out.a.c1; have a2 := T6.out.a.c2; have a3 := T6.out.a.c3; have af := T6.out.a.fr
  have z0 := T6.out.b.c0; have z1 := T6.out.b.c1; have z2 := T6.out.b.c2; have z3 := T6.out.b.c3; have zf := T6.out.b.fr
  have S3 := Lib.hid (T6.out.setB { d with er := 7 })
  simp only []
  repeat (first | go_values | go_skip | go_guarded | go_step | go_upon)
  exact bodyPost_ret (cur_res4 (x := .int .i64 0) (y := .int .u8 0) (q := .int .u8 0) Tryd.underlying56 rfl (by kernel_rfl) Tryd.results56 S3.out.b (by kernel_rfl) (by kernel_rfl) (by kernel_rfl) (by kernel_rfl)) rfl ⟨{ d with er := 7 }, by rw [HR.out.2.1, HR.out.2.2.1, HR.out.2.2.2]; rfl, by rw [HR.out.1]; exact HQ.out, HS.out, S3.out.k⟩

set_option maxHeartbeats 1000000 in
theorem rmap_good {c r : CS} (ha : Alike c r) (hs : r.s.size ≤ 140737488351232) (w : World) (h : c.sTo.er = 0) (hz : ¬ c.vVal = 0) (h0 : c.sTo.byte.er = 0) (hk1 : kB (c.sTo.pB / 16) = true) (hk2 : kB (c.sTo.pB % 16) = true) :
    Calls Tryd.prog 56 #[.agg #[.string r.s, .int .i64 r.at_, .int .i64 r.en, .int .i64 r.er]] w fun e w' => ∃ d, e = .returned (.tuple #[.agg #[.string d.s, .int .i64 d.at_, .int .i64 d.en, .int .i64 d.er], .int .i64 (c.mCt : Nat), .int .u8 (c.mKy : Nat), .int .u8 (c.mVl : Nat)]) ∧ Alike c.mTo d ∧ d.s = r.s ∧ Below w.heap.size w w' := by
  obtain ⟨n, hn⟩ : ∃ n, n = c.sN := ⟨_, rfl⟩
  have HV := Lib.hid (fun w => rsize_any ha hs w)
  rw [← hn] at HV
  have hnv : n = c.vVal := hn.trans (CS.sN_good h)
  have p2 : ((n : Int) == 0) = false := beq_eq_false_iff_ne.mpr (by omega)
  have p2' : (n == 0) = false := beq_eq_false_iff_ne.mpr (by omega)
  have hcb := CS.peekB_nat c.sTo
  obtain ⟨x, hx⟩ : ∃ x, x = c.sTo.pB := ⟨_, rfl⟩
  rw [← hx] at hcb
  obtain ⟨q, hqe⟩ : ∃ q, q = x / 16 := ⟨_, rfl⟩
  obtain ⟨t, hte⟩ : ∃ t, t = x % 16 := ⟨_, rfl⟩
  have hx8 := hcb.2
  have m1 : (x : Int).tmod 16 = (t : Int) := by rw [Int.tmod_eq_emod_of_nonneg (by omega)]; omega
  have m1' : (x : Int) % 16 = (t : Int) := by omega
  have m2 : (x : Int) / 16 = (q : Int) := by omega
  have m2' : (x : Int).tdiv 16 = (q : Int) := by rw [Int.tdiv_eq_ediv_of_nonneg (by omega)]; omega
  have m3 : IntKind.i64.wrap (q : Int) = (q : Int) := IntWalk.i64_in _ (by omega)
  have m5 : IntKind.u8.wrap (q : Int) = (q : Int) := IntWalk.u8_in _ (by omega)
  have m6 : IntKind.u8.wrap (t : Int) = (t : Int) := IntWalk.u8_in _ (by omega)
  have hkq : kB q = true := by rw [hqe, hx]; exact hk1
  have HK := Lib.hid (fun w => ris_l (Lib.hid hkq.symm) w)
  have hkt : kB t = true := by rw [hte, hx]; exact hk2
  have HK2 := Lib.hid (fun w => ris_l (Lib.hid hkt.symm) w)
  have HR := Lib.hid (CS.m_good hz h0 (by rw [hk1, hk2]; rfl))
  rw [← hx, ← hqe, ← hte, ← hnv] at HR
  clear ha hs hn hnv hz hcb hk1 hkq hk2 hkt hqe hte hx8
  have T0 := Lib.hid (R2.start w r)
  go_enter Tryd.func56, Tryd.ntmps56
  go_wp2_with fail
  with_reducible refine (HV.out _).mono ?_
  rintro e w1 ⟨y, rfl, hal, hys, b1⟩
  have T1 := Lib.hid (T0.out.call b1)
  clear b1
  have a0 := T1.out.a.c0; have a1 := T1.out.a.c1; have a2 := T1.out.a.c2; have a3 := T1.out.a.c3; have af := T1.out.a.fr
  have z0 := T1.out.b.c0; have z1 := T1.out.b.c1; have z2 := T1.out.b.c2; have z3 := T1.out.b.c3; have zf := T1.out.b.fr
  have hey := hal.2.2.1
  have HY := Lib.hid hal
  have HD := Lib.hid hys
  have p1 : (y.er != 0) = false := by rw [← hey, h]; rfl
  have hab := hal.byte
  rw [← hx] at hab
  obtain ⟨d, hd⟩ : ∃ d, d = y.byte := ⟨_, rfl⟩
  have HB := Lib.hid (fun w => rby_l (Lib.hid hd) (Lib.hid hab.2.1) (Lib.hid hal.2.1) w)
  rw [← hd] at hab
  have her := hab.1.2.2.1
  have HA := Lib.hid hab.1
  have HS := Lib.hid (hab.2.2.trans HD.out)
  have p5 : (d.er != 0) = false := by rw [← her, h0]; rfl
  clear hey h hal hys hab hd her hx h0
  go_wp2_with fail
  have T2 := Lib.hid (T1.out.setA y)
  obtain ⟨w2, hw2⟩ : ∃ W, W = ((((w1.setCell ⟨w.heap.size, 0, none⟩ (.string y.s)).setCell ⟨w.heap.size, 1, none⟩ (.int .i64 y.at_)).setCell ⟨w.heap.size, 2, none⟩ (.int .i64 y.en)).setCell ⟨w.heap.size, 3, none⟩ (.int .i64 y.er)) := ⟨_, rfl⟩
  rw [← hw2] at T2 ⊢
  clear hw2
  clear a0 a1 a2 a3 af z0 z1 z2 z3 zf
  have a0 := T2.out.a.c0; have a1 := T2.out.a.c1; have a2 := T2.out.a.c2; have a3 := T2.out.a.c3; have af := T2.out.a.fr
  have z0 := T2.out.b.c0; have z1 := T2.out.b.c1; have z2 := T2.out.b.c2; have z3 := T2.out.b.c3; have zf := T2.out.b.fr
  with_reducible refine (HB.out _).mono ?_
  rintro e w3 ⟨rfl, b3⟩
  have T3 := Lib.hid (T2.out.call b3)
  clear b3
  clear a0 a1 a2 a3 af z0 z1 z2 z3 zf
  have a0 := T3.out.a.c0; have a1 := T3.out.a.c1; have a2 := T3.out.a.c2; have a3 := T3.out.a.c3; have af := T3.out.a.fr
  have z0 := T3.out.b.c0; have z1 := T3.out.b.c1; have z2 := T3.out.b.c2; have z3 := T3.out.b.c3; have zf := T3.out.b.fr
  go_wp2_with fail
  have T4 := Lib.hid (T3.out.setA d)
  obtain ⟨w4, hw4⟩ : ∃ W, W = ((((w3.setCell ⟨w.heap.size, 0, none⟩ (.string d.s)).setCell ⟨w.heap.size, 1, none⟩ (.int .i64 d.at_)).setCell ⟨w.heap.size, 2, none⟩ (.int .i64 d.en)).setCell ⟨w.heap.size, 3, none⟩ (.int .i64 d.er)) := ⟨_, rfl⟩
  rw [← hw4] at T4 ⊢
  clear hw4
  clear a0 a1 a2 a3 af z0 z1 z2 z3 zf
  have a0 := T4.out.a.c0; have a1 := T4.out.a.c1; have a2 := T4.out.a.c2; have a3 := T4.out.a.c3; have af := T4.out.a.fr
  have z0 := T4.out.b.c0; have z1 := T4.out.b.c1; have z2 := T4.out.b.c2; have z3 := T4.out.b.c3; have zf := T4.out.b.fr
  with_reducible refine (HK.out _).mono ?_
  rintro e w5 ⟨rfl, hww⟩
  rw [hww]
  clear hww
  go_wp2_with fail
  with_reducible refine (HK2.out _).mono ?_
  rintro e w5 ⟨rfl, hww⟩
  rw [hww]
  clear hww
  have S5 := Lib.hid (T4.out.setB d)
  simp only []
  repeat (first | go_values | go_skip | go_guarded | go_step | go_upon)
  exact bodyPost_ret (cur_res4 (x := .int .i64 (n : Nat)) (y := .int .u8 (q : Nat)) (q := .int .u8 (t : Nat)) Tryd.underlying56 rfl (by kernel_rfl) Tryd.results56 S5.out.b (by kernel_rfl) (by kernel_rfl) (by kernel_rfl) (by kernel_rfl)) rfl ⟨d, by rw [HR.out.2.1, HR.out.2.2.1, HR.out.2.2.2]; rfl, by rw [HR.out.1]; exact HA.out, HS.out, S5.out.k⟩

theorem rmap_any {c r : CS} (ha : Alike c r) (hs : r.s.size ≤ 140737488351232) (w : World) :
    Calls Tryd.prog 56 #[.agg #[.string r.s, .int .i64 r.at_, .int .i64 r.en, .int .i64 r.er]] w fun e w' => ∃ d, e = .returned (.tuple #[.agg #[.string d.s, .int .i64 d.at_, .int .i64 d.en, .int .i64 d.er], .int .i64 (c.mCt : Nat), .int .u8 (c.mKy : Nat), .int .u8 (c.mVl : Nat)]) ∧ Alike c.mTo d ∧ d.s = r.s ∧ Below w.heap.size w w' := by
  by_cases h : c.sTo.er = 0
  · by_cases hz : c.vVal = 0
    · exact rmap_zero ha hs w h hz
    · by_cases h0 : c.sTo.byte.er = 0
      · rcases Bool.eq_false_or_eq_true (kB (c.sTo.pB / 16)) with hk | hk
        · rcases Bool.eq_false_or_eq_true (kB (c.sTo.pB % 16)) with hk2 | hk2
          · exact rmap_good ha hs w h hz h0 hk hk2
          · exact rmap_val ha hs w h hz h0 hk hk2
        · exact rmap_key ha hs w h hz h0 hk
      · exact rmap_cut ha hs w h hz h0
  · exact rmap_bad ha hs w h
end Go.Proofs.YtmiagebcobcaiaaDoor
