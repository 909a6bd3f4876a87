/- The document's own heads (package truchmanref20): Field, ListHead, MapHead. -/
import Derived.Test.YtmiagebcobcaiaaDoorChR
import Derived.Test.YtmiagebcobcaiaaDoorChWay
namespace Go.Proofs.YtmiagebcobcaiaaDoor
open Go Go.RowKit
set_option linter.unusedVariables false


set_option maxHeartbeats 1000000 in
theorem rfield_cut {c r : CS} (ha : Alike c r) (hs : r.s.size ≤ 140737488351232) (w : World) (last : Int) (hl : numB last = true) (h0 : ¬ c.byte.er = 0) :
    Calls Tryd.prog 21 #[.agg #[.string r.s, .int .i64 r.at_, .int .i64 r.en, .int .i64 r.er], .int .i64 last] w fun e w' => ∃ d, e = .returned (.tuple #[.agg #[.string d.s, .int .i64 d.at_, .int .i64 d.en, .int .i64 d.er], .int .i64 (c.hId last), .int .u8 (c.hKd last : Nat)]) ∧ Alike (c.hTo last) d ∧ d.s = r.s ∧ Below w.heap.size w w' := by
  have hab := ha.byte
  have hcb := CS.peekB_nat c
  obtain ⟨x, hx⟩ : ∃ x, x = c.pB := ⟨_, rfl⟩
  rw [← hx] at hab hcb
  obtain ⟨d, hd⟩ : ∃ d, d = r.byte := ⟨_, rfl⟩
  have HB := Lib.hid (fun w => rby_l (Lib.hid hd) (Lib.hid hab.2.1) (Lib.hid ha.2.1) w)
  rw [← hd] at hab
  have her := hab.1.2.2.1
  have HA := Lib.hid hab.1
  have HD := Lib.hid hab.2.2
  have hds : d.s.size ≤ 140737488351232 := by rw [hab.2.2]; exact hs
  have HR := Lib.hid (CS.h_end (CS.byte_end h0) last)
  have p1 : (d.er != 0) = true := by rw [← her]; simp [h0]
  clear hab ha hx hd hcb her hs hds hl h0
  have T0 := Lib.hid (R2.start w r)
  go_enter Tryd.func21, Tryd.ntmps21
  go_wp2_with fail
  with_reducible refine (HB.out _).mono ?_
  rintro e w1 ⟨rfl, b1⟩
  have T1 := Lib.hid (T0.out.call b1)
  clear b1
  have a0 := T1.out.a.c0; have a1 := T1.out.a.c1; have a2 := T1.out.a.c2; have a3 := T1.out.a.c3; have af := T1.out.a.fr
  have z0 := T1.out.b.c0; have z1 := T1.out.b.c1; have z2 := T1.out.b.c2; have z3 := T1.out.b.c3; have zf := T1.out.b.fr
  have S2 := Lib.hid ((T1.out.setA d).setB d)
  simp only []
  repeat (first | go_values | go_skip | go_guarded | go_step | go_upon)
  exact bodyPost_ret (cur_res3 (x := .int .i64 0) (y := .int .u8 0) Tryd.underlying56 rfl (by kernel_rfl) Tryd.results21 S2.out.b (by kernel_rfl) (by kernel_rfl) (by kernel_rfl)) rfl ⟨d, by rw [HR.out.2.1, HR.out.2.2]; rfl, by rw [HR.out.1]; exact HA.out, HD.out, S2.out.k⟩

set_option maxHeartbeats 1000000 in
theorem rfield_stop {c r : CS} (ha : Alike c r) (hs : r.s.size ≤ 140737488351232) (w : World) (last : Int) (hl : numB last = true) (h0 : c.byte.er = 0) (hp : c.pB = 0) :
    Calls Tryd.prog 21 #[.agg #[.string r.s, .int .i64 r.at_, .int .i64 r.en, .int .i64 r.er], .int .i64 last] w fun e w' => ∃ d, e = .returned (.tuple #[.agg #[.string d.s, .int .i64 d.at_, .int .i64 d.en, .int .i64 d.er], .int .i64 (c.hId last), .int .u8 (c.hKd last : Nat)]) ∧ Alike (c.hTo last) d ∧ d.s = r.s ∧ Below w.heap.size w w' := by
  have hab := ha.byte
  have hcb := CS.peekB_nat c
  obtain ⟨x, hx⟩ : ∃ x, x = c.pB := ⟨_, rfl⟩
  rw [← hx] at hab hcb
  obtain ⟨d, hd⟩ : ∃ d, d = r.byte := ⟨_, rfl⟩
  have HB := Lib.hid (fun w => rby_l (Lib.hid hd) (Lib.hid hab.2.1) (Lib.hid ha.2.1) w)
  rw [← hd] at hab
  have her := hab.1.2.2.1
  have HA := Lib.hid hab.1
  have HD := Lib.hid hab.2.2
  have hds : d.s.size ≤ 140737488351232 := by rw [hab.2.2]; exact hs
  have HR := Lib.hid (CS.h_end hp last)
  have p1 : (d.er != 0) = false := by rw [← her]; rw [h0]; rfl
  have hx0 : x = 0 := by rw [hx]; exact hp
  clear hab ha hx hd hcb her hs hds hl h0 hp
  subst hx0
  have T0 := Lib.hid (R2.start w r)
  go_enter Tryd.func21, Tryd.ntmps21
  go_wp2_with fail
  with_reducible refine (HB.out _).mono ?_
  rintro e w1 ⟨rfl, b1⟩
  have T1 := Lib.hid (T0.out.call b1)
  clear b1
  have a0 := T1.out.a.c0; have a1 := T1.out.a.c1; have a2 := T1.out.a.c2; have a3 := T1.out.a.c3; have af := T1.out.a.fr
  have z0 := T1.out.b.c0; have z1 := T1.out.b.c1; have z2 := T1.out.b.c2; have z3 := T1.out.b.c3; have zf := T1.out.b.fr
  have S2 := Lib.hid ((T1.out.setA d).setB d)
  simp only []
  repeat (first | go_values | go_skip | go_guarded | go_step | go_upon)
  exact bodyPost_ret (cur_res3 (x := .int .i64 0) (y := .int .u8 0) Tryd.underlying56 rfl (by kernel_rfl) Tryd.results21 S2.out.b (by kernel_rfl) (by kernel_rfl) (by kernel_rfl)) rfl ⟨d, by rw [HR.out.2.1, HR.out.2.2]; rfl, by rw [HR.out.1]; exact HA.out, HD.out, S2.out.k⟩

set_option maxHeartbeats 1000000 in
theorem rfield_kind {c r : CS} (ha : Alike c r) (hs : r.s.size ≤ 140737488351232) (w : World) (last : Int) (hl : numB last = true) (h0 : c.byte.er = 0) (hp : ¬ c.pB = 0) (hk : kB (c.pB % 16) = false) :
    Calls Tryd.prog 21 #[.agg #[.string r.s, .int .i64 r.at_, .int .i64 r.en, .int .i64 r.er], .int .i64 last] w fun e w' => ∃ d, e = .returned (.tuple #[.agg #[.string d.s, .int .i64 d.at_, .int .i64 d.en, .int .i64 d.er], .int .i64 (c.hId last), .int .u8 (c.hKd last : Nat)]) ∧ Alike (c.hTo last) d ∧ d.s = r.s ∧ Below w.heap.size w w' := by
  have hab := ha.byte
  have hcb := CS.peekB_nat c
  obtain ⟨x, hx⟩ : ∃ x, x = c.pB := ⟨_, rfl⟩
  rw [← hx] at hab hcb
  obtain ⟨d, hd⟩ : ∃ d, d = r.byte := ⟨_, rfl⟩
  have HB := Lib.hid (fun w => rby_l (Lib.hid hd) (Lib.hid hab.2.1) (Lib.hid ha.2.1) w)
  rw [← hd] at hab
  have her := hab.1.2.2.1
  have HA := Lib.hid hab.1
  have HD := Lib.hid hab.2.2
  have hds : d.s.size ≤ 140737488351232 := by rw [hab.2.2]; exact hs
  have HR := Lib.hid (CS.h_kind hp hk last)
  have p1 : (d.er != 0) = false := by rw [← her]; rw [h0]; rfl
  have hx0 : ¬ x = 0 := by rw [hx]; exact hp
  have p2 : ((x : Int) == 0) = false := beq_eq_false_iff_ne.mpr (by omega)
  have p2' : (x == 0) = false := beq_eq_false_iff_ne.mpr hx0
  obtain ⟨q, hqe⟩ : ∃ q, q = x / 16 := ⟨_, rfl⟩
  obtain ⟨t, hte⟩ : ∃ t, t = x % 16 := ⟨_, rfl⟩
  have hx8 := hcb.2
  have m1 : (x : Int).tmod 16 = (t : Int) := by rw [Int.tmod_eq_emod_of_nonneg (by omega)]; omega
  have m1' : (x : Int) % 16 = (t : Int) := by omega
  have m2 : (x : Int) / 16 = (q : Int) := by omega
  have m2' : (x : Int).tdiv 16 = (q : Int) := by rw [Int.tdiv_eq_ediv_of_nonneg (by omega)]; omega
  have m3 : IntKind.i64.wrap (q : Int) = (q : Int) := IntWalk.i64_in _ (by omega)
  have m5 : IntKind.u8.wrap (q : Int) = (q : Int) := IntWalk.u8_in _ (by omega)
  have m6 : IntKind.u8.wrap (t : Int) = (t : Int) := IntWalk.u8_in _ (by omega)
  have hkt : kB t = false := by rw [hte, hx]; exact hk
  have HK := Lib.hid (fun w => ris_l (Lib.hid hkt.symm) w)
  have hd0 : d.er = 0 := by rw [← her]; exact h0
  have HF := Lib.hid (fun w => ref_fail0 d 7 w hd0)
  have HQ := Lib.hid (HA.out.fail hd0 7)
  clear hab ha hx hd hcb her hs hl h0 hp hk hte hqe hx0 hkt hx8 hd0 hds
  have T0 := Lib.hid (R2.start w r)
  go_enter Tryd.func21, Tryd.ntmps21
  go_wp2_with fail
  with_reducible refine (HB.out _).mono ?_
  rintro e w1 ⟨rfl, b1⟩
  have T1 := Lib.hid (T0.out.call b1)
  clear b1
  have a0 := T1.out.a.c0; have a1 := T1.out.a.c1; have a2 := T1.out.a.c2; have a3 := T1.out.a.c3; have af := T1.out.a.fr
  have z0 := T1.out.b.c0; have z1 := T1.out.b.c1; have z2 := T1.out.b.c2; have z3 := T1.out.b.c3; have zf := T1.out.b.fr
  go_wp2_with fail
  have T2 := Lib.hid (T1.out.setA d)
  obtain ⟨w2, hw2⟩ : ∃ W, W = ((((w1.setCell ⟨w.heap.size, 0, none⟩ (.string d.s)).setCell ⟨w.heap.size, 1, none⟩ (.int .i64 d.at_)).setCell ⟨w.heap.size, 2, none⟩ (.int .i64 d.en)).setCell ⟨w.heap.size, 3, none⟩ (.int .i64 d.er)) := ⟨_, rfl⟩
  rw [← hw2] at T2 ⊢
  clear hw2
  clear a0 a1 a2 a3 af z0 z1 z2 z3 zf
  have a0 := T2.out.a.c0; have a1 := T2.out.a.c1; have a2 := T2.out.a.c2; have a3 := T2.out.a.c3; have af := T2.out.a.fr
  have z0 := T2.out.b.c0; have z1 := T2.out.b.c1; have z2 := T2.out.b.c2; have z3 := T2.out.b.c3; have zf := T2.out.b.fr
  with_reducible refine (HK.out _).mono ?_
  rintro e w2' ⟨rfl, hww⟩
  rw [hww]
  clear hww
  go_wp2_with fail
  with_reducible refine (HF.out _).mono ?_
  rintro e w3 ⟨rfl, b3⟩
  have T3 := Lib.hid (T2.out.call b3)
  clear b3
  clear a0 a1 a2 a3 af z0 z1 z2 z3 zf
  have a0 := T3.out.a.c0; have a1 := T3.out.a.c1; have a2 := T3.out.a.c2; have a3 := T3.out.a.c3; have af := T3.out.a.fr
  have z0 := T3.out.b.c0; have z1 := T3.out.b.c1; have z2 := T3.out.b.c2; have z3 := T3.out.b.c3; have zf := T3.out.b.fr
  have S3 := Lib.hid (T3.out.setB { d with er := 7 })
  simp only []
  repeat (first | go_values | go_skip | go_guarded | go_step | go_upon)
  exact bodyPost_ret (cur_res3 (x := .int .i64 0) (y := .int .u8 0) Tryd.underlying56 rfl (by kernel_rfl) Tryd.results21 S3.out.b (by kernel_rfl) (by kernel_rfl) (by kernel_rfl)) rfl ⟨{ d with er := 7 }, by rw [HR.out.2.1, HR.out.2.2]; rfl, by rw [HR.out.1]; exact HQ.out, HD.out, S3.out.k⟩

set_option maxHeartbeats 1000000 in
theorem rfield_near {c r : CS} (ha : Alike c r) (hs : r.s.size ≤ 140737488351232) (w : World) (last : Int) (hl : numB last = true) (h0 : c.byte.er = 0) (hp : ¬ c.pB = 0) (hk : kB (c.pB % 16) = true) (hq : 0 < c.pB / 16) (hn : numB (c.hN last) = true) :
    Calls Tryd.prog 21 #[.agg #[.string r.s, .int .i64 r.at_, .int .i64 r.en, .int .i64 r.er], .int .i64 last] w fun e w' => ∃ d, e = .returned (.tuple #[.agg #[.string d.s, .int .i64 d.at_, .int .i64 d.en, .int .i64 d.er], .int .i64 (c.hId last), .int .u8 (c.hKd last : Nat)]) ∧ Alike (c.hTo last) d ∧ d.s = r.s ∧ Below w.heap.size w w' := by
  have hab := ha.byte
  have hcb := CS.peekB_nat c
  obtain ⟨x, hx⟩ : ∃ x, x = c.pB := ⟨_, rfl⟩
  rw [← hx] at hab hcb
  obtain ⟨d, hd⟩ : ∃ d, d = r.byte := ⟨_, rfl⟩
  have HB := Lib.hid (fun w => rby_l (Lib.hid hd) (Lib.hid hab.2.1) (Lib.hid ha.2.1) w)
  rw [← hd] at hab
  have her := hab.1.2.2.1
  have HA := Lib.hid hab.1
  have HD := Lib.hid hab.2.2
  have hds : d.s.size ≤ 140737488351232 := by rw [hab.2.2]; exact hs
  have p1 : (d.er != 0) = false := by rw [← her]; rw [h0]; rfl
  have hx0 : ¬ x = 0 := by rw [hx]; exact hp
  have p2 : ((x : Int) == 0) = false := beq_eq_false_iff_ne.mpr (by omega)
  have p2' : (x == 0) = false := beq_eq_false_iff_ne.mpr hx0
  obtain ⟨q, hqe⟩ : ∃ q, q = x / 16 := ⟨_, rfl⟩
  obtain ⟨t, hte⟩ : ∃ t, t = x % 16 := ⟨_, rfl⟩
  have hx8 := hcb.2
  have m1 : (x : Int).tmod 16 = (t : Int) := by rw [Int.tmod_eq_emod_of_nonneg (by omega)]; omega
  have m1' : (x : Int) % 16 = (t : Int) := by omega
  have m2 : (x : Int) / 16 = (q : Int) := by omega
  have m2' : (x : Int).tdiv 16 = (q : Int) := by rw [Int.tdiv_eq_ediv_of_nonneg (by omega)]; omega
  have m3 : IntKind.i64.wrap (q : Int) = (q : Int) := IntWalk.i64_in _ (by omega)
  have m5 : IntKind.u8.wrap (q : Int) = (q : Int) := IntWalk.u8_in _ (by omega)
  have m6 : IntKind.u8.wrap (t : Int) = (t : Int) := IntWalk.u8_in _ (by omega)
  have hkt : kB t = true := by rw [hte, hx]; exact hk
  have HK := Lib.hid (fun w => ris_l (Lib.hid hkt.symm) w)
  obtain ⟨i, hi⟩ : ∃ i, i = last + (q : Int) := ⟨_, rfl⟩
  have hln := numB_yes hl
  have m7 : IntKind.i64.wrap (last + (q : Int)) = i := by rw [hi]; exact IntWalk.i64_in _ (by omega)
  have p3 : decide ((x : Int) < 16) = false := decide_eq_false (by omega)
  have p3' : decide (x < 16) = false := decide_eq_false (by omega)
  have hC : c.hC = c.byte := by unfold CS.hC; rw [if_pos (by omega), CS.hK_yes hk]
  have hN : c.hN last = i := by unfold CS.hN; rw [if_pos (by omega), hi, hqe, hx]
  have hni : numB i = true := by rw [← hN]; exact hn
  have HN := Lib.hid (fun w => rnum_l (Lib.hid hni.symm) w)
  have HR := Lib.hid (CS.h_good hp hC hN h0 hni)
  rw [← hx, ← hte] at HR
  clear hab ha hx hd hcb her hs hl h0 hp hk hte hqe hx0 hkt hx8 hds hln hq hi hC hN hn hni
  have T0 := Lib.hid (R2.start w r)
  go_enter Tryd.func21, Tryd.ntmps21
  go_wp2_with fail
  with_reducible refine (HB.out _).mono ?_
  rintro e w1 ⟨rfl, b1⟩
  have T1 := Lib.hid (T0.out.call b1)
  clear b1
  have a0 := T1.out.a.c0; have a1 := T1.out.a.c1; have a2 := T1.out.a.c2; have a3 := T1.out.a.c3; have af := T1.out.a.fr
  have z0 := T1.out.b.c0; have z1 := T1.out.b.c1; have z2 := T1.out.b.c2; have z3 := T1.out.b.c3; have zf := T1.out.b.fr
  go_wp2_with fail
  have T2 := Lib.hid (T1.out.setA d)
  obtain ⟨w2, hw2⟩ : ∃ W, W = ((((w1.setCell ⟨w.heap.size, 0, none⟩ (.string d.s)).setCell ⟨w.heap.size, 1, none⟩ (.int .i64 d.at_)).setCell ⟨w.heap.size, 2, none⟩ (.int .i64 d.en)).setCell ⟨w.heap.size, 3, none⟩ (.int .i64 d.er)) := ⟨_, rfl⟩
  rw [← hw2] at T2 ⊢
  clear hw2
  clear a0 a1 a2 a3 af z0 z1 z2 z3 zf
  have a0 := T2.out.a.c0; have a1 := T2.out.a.c1; have a2 := T2.out.a.c2; have a3 := T2.out.a.c3; have af := T2.out.a.fr
  have z0 := T2.out.b.c0; have z1 := T2.out.b.c1; have z2 := T2.out.b.c2; have z3 := T2.out.b.c3; have zf := T2.out.b.fr
  with_reducible refine (HK.out _).mono ?_
  rintro e w2' ⟨rfl, hww⟩
  rw [hww]
  clear hww
  go_wp2_with fail
  with_reducible refine (HN.out _).mono ?_
  rintro e w3 ⟨rfl, hww⟩
  rw [hww]
  clear hww
  have S3 := Lib.hid (T2.out.setB d)
  simp only []
  repeat (first | go_values | go_skip | go_guarded | go_step | go_upon)
  exact bodyPost_ret (cur_res3 (x := .int .i64 i) (y := .int .u8 (t : Nat)) Tryd.underlying56 rfl (by kernel_rfl) Tryd.results21 S3.out.b (by kernel_rfl) (by kernel_rfl) (by kernel_rfl)) rfl ⟨d, by rw [HR.out.2.1, HR.out.2.2]; rfl, by rw [HR.out.1]; exact HA.out, HD.out, S3.out.k⟩

set_option maxHeartbeats 1000000 in
theorem rfield_wide {c r : CS} (ha : Alike c r) (hs : r.s.size ≤ 140737488351232) (w : World) (last : Int) (hl : numB last = true) (h0 : c.byte.er = 0) (hp : ¬ c.pB = 0) (hk : kB (c.pB % 16) = true) (hq : 0 < c.pB / 16) (hn : numB (c.hN last) = false) :
    Calls Tryd.prog 21 #[.agg #[.string r.s, .int .i64 r.at_, .int .i64 r.en, .int .i64 r.er], .int .i64 last] w fun e w' => ∃ d, e = .returned (.tuple #[.agg #[.string d.s, .int .i64 d.at_, .int .i64 d.en, .int .i64 d.er], .int .i64 (c.hId last), .int .u8 (c.hKd last : Nat)]) ∧ Alike (c.hTo last) d ∧ d.s = r.s ∧ Below w.heap.size w w' := by
  have hab := ha.byte
  have hcb := CS.peekB_nat c
  obtain ⟨x, hx⟩ : ∃ x, x = c.pB := ⟨_, rfl⟩
  rw [← hx] at hab hcb
  obtain ⟨d, hd⟩ : ∃ d, d = r.byte := ⟨_, rfl⟩
  have HB := Lib.hid (fun w => rby_l (Lib.hid hd) (Lib.hid hab.2.1) (Lib.hid ha.2.1) w)
  rw [← hd] at hab
  have her := hab.1.2.2.1
  have HA := Lib.hid hab.1
  have HD := Lib.hid hab.2.2
  have hds : d.s.size ≤ 140737488351232 := by rw [hab.2.2]; exact hs
  have p1 : (d.er != 0) = false := by rw [← her]; rw [h0]; rfl
  have hx0 : ¬ x = 0 := by rw [hx]; exact hp
  have p2 : ((x : Int) == 0) = false := beq_eq_false_iff_ne.mpr (by omega)
  have p2' : (x == 0) = false := beq_eq_false_iff_ne.mpr hx0
  obtain ⟨q, hqe⟩ : ∃ q, q = x / 16 := ⟨_, rfl⟩
  obtain ⟨t, hte⟩ : ∃ t, t = x % 16 := ⟨_, rfl⟩
  have hx8 := hcb.2
  have m1 : (x : Int).tmod 16 = (t : Int) := by rw [Int.tmod_eq_emod_of_nonneg (by omega)]; omega
  have m1' : (x : Int) % 16 = (t : Int) := by omega
  have m2 : (x : Int) / 16 = (q : Int) := by omega
  have m2' : (x : Int).tdiv 16 = (q : Int) := by rw [Int.tdiv_eq_ediv_of_nonneg (by omega)]; omega
  have m3 : IntKind.i64.wrap (q : Int) = (q : Int) := IntWalk.i64_in _ (by omega)
  have m5 : IntKind.u8.wrap (q : Int) = (q : Int) := IntWalk.u8_in _ (by omega)
  have m6 : IntKind.u8.wrap (t : Int) = (t : Int) := IntWalk.u8_in _ (by omega)
  have hkt : kB t = true := by rw [hte, hx]; exact hk
  have HK := Lib.hid (fun w => ris_l (Lib.hid hkt.symm) w)
  obtain ⟨i, hi⟩ : ∃ i, i = last + (q : Int) := ⟨_, rfl⟩
  have hln := numB_yes hl
  have m7 : IntKind.i64.wrap (last + (q : Int)) = i := by rw [hi]; exact IntWalk.i64_in _ (by omega)
  have p3 : decide ((x : Int) < 16) = false := decide_eq_false (by omega)
  have p3' : decide (x < 16) = false := decide_eq_false (by omega)
  have hC : c.hC = c.byte := by unfold CS.hC; rw [if_pos (by omega), CS.hK_yes hk]
  have hN : c.hN last = i := by unfold CS.hN; rw [if_pos (by omega), hi, hqe, hx]
  have hni : numB i = false := by rw [← hN]; exact hn
  have HN := Lib.hid (fun w => rnum_l (Lib.hid hni.symm) w)
  have HR := Lib.hid (CS.h_range hp hC hN h0 hni)
  have hd0 : d.er = 0 := by rw [← her]; exact h0
  have HF := Lib.hid (fun w => ref_fail0 d 4 w hd0)
  have HQ := Lib.hid (HA.out.fail hd0 4)
  clear hab ha hx hd hcb her hs hl h0 hp hk hte hqe hx0 hkt hx8 hds hd0 hln hq hi hC hN hn hni
  have T0 := Lib.hid (R2.start w r)
  go_enter Tryd.func21, Tryd.ntmps21
  go_wp2_with fail
  with_reducible refine (HB.out _).mono ?_
  rintro e w1 ⟨rfl, b1⟩
  have T1 := Lib.hid (T0.out.call b1)
  clear b1
  have a0 := T1.out.a.c0; have a1 := T1.out.a.c1; have a2 := T1.out.a.c2; have a3 := T1.out.a.c3; have af := T1.out.a.fr
  have z0 := T1.out.b.c0; have z1 := T1.out.b.c1; have z2 := T1.out.b.c2; have z3 := T1.out.b.c3; have zf := T1.out.b.fr
  go_wp2_with fail
  have T2 := Lib.hid (T1.out.setA d)
  obtain ⟨w2, hw2⟩ : ∃ W, W = ((((w1.setCell ⟨w.heap.size, 0, none⟩ (.string d.s)).setCell ⟨w.heap.size, 1, none⟩ (.int .i64 d.at_)).setCell ⟨w.heap.size, 2, none⟩ (.int .i64 d.en)).setCell ⟨w.heap.size, 3, none⟩ (.int .i64 d.er)) := ⟨_, rfl⟩
  rw [← hw2] at T2 ⊢
  clear hw2
  clear a0 a1 a2 a3 af z0 z1 z2 z3 zf
  have a0 := T2.out.a.c0; have a1 := T2.out.a.c1; have a2 := T2.out.a.c2; have a3 := T2.out.a.c3; have af := T2.out.a.fr
  have z0 := T2.out.b.c0; have z1 := T2.out.b.c1; have z2 := T2.out.b.c2; have z3 := T2.out.b.c3; have zf := T2.out.b.fr
  with_reducible refine (HK.out _).mono ?_
  rintro e w2' ⟨rfl, hww⟩
  rw [hww]
  clear hww
  go_wp2_with fail
  with_reducible refine (HN.out _).mono ?_
  rintro e w3 ⟨rfl, hww⟩
  rw [hww]
  clear hww
  go_wp2_with fail
  with_reducible refine (HF.out _).mono ?_
  rintro e w3 ⟨rfl, b3⟩
  have T3 := Lib.hid (T2.out.call b3)
  clear b3
  clear a0 a1 a2 a3 af z0 z1 z2 z3 zf
  have a0 := T3.out.a.c0; have a1 := T3.out.a.c1; have a2 := T3.out.a.c2; have a3 := T3.out.a.c3; have af := T3.out.a.fr
  have z0 := T3.out.b.c0; have z1 := T3.out.b.c1; have z2 := T3.out.b.c2; have z3 := T3.out.b.c3; have zf := T3.out.b.fr
  have S3 := Lib.hid (T3.out.setB { d with er := 4 })
  simp only []
  repeat (first | go_values | go_skip | go_guarded | go_step | go_upon)
  exact bodyPost_ret (cur_res3 (x := .int .i64 0) (y := .int .u8 0) Tryd.underlying56 rfl (by kernel_rfl) Tryd.results21 S3.out.b (by kernel_rfl) (by kernel_rfl) (by kernel_rfl)) rfl ⟨{ d with er := 4 }, by rw [HR.out.2.1, HR.out.2.2]; rfl, by rw [HR.out.1]; exact HQ.out, HD.out, S3.out.k⟩

set_option maxHeartbeats 1000000 in
theorem rfield_bad {c r : CS} (ha : Alike c r) (hs : r.s.size ≤ 140737488351232) (w : World) (last : Int) (hl : numB last = true) (h0 : c.byte.er = 0) (hp : ¬ c.pB = 0) (hk : kB (c.pB % 16) = true) (hq : ¬ 0 < c.pB / 16) (hv : ¬ c.byte.vTo.er = 0) :
    Calls Tryd.prog 21 #[.agg #[.string r.s, .int .i64 r.at_, .int .i64 r.en, .int .i64 r.er], .int .i64 last] w fun e w' => ∃ d, e = .returned (.tuple #[.agg #[.string d.s, .int .i64 d.at_, .int .i64 d.en, .int .i64 d.er], .int .i64 (c.hId last), .int .u8 (c.hKd last : Nat)]) ∧ Alike (c.hTo last) d ∧ d.s = r.s ∧ Below w.heap.size w w' := by
  have hab := ha.byte
  have hcb := CS.peekB_nat c
  obtain ⟨x, hx⟩ : ∃ x, x = c.pB := ⟨_, rfl⟩
  rw [← hx] at hab hcb
  obtain ⟨d, hd⟩ : ∃ d, d = r.byte := ⟨_, rfl⟩
  have HB := Lib.hid (fun w => rby_l (Lib.hid hd) (Lib.hid hab.2.1) (Lib.hid ha.2.1) w)
  rw [← hd] at hab
  have her := hab.1.2.2.1
  have HA := Lib.hid hab.1
  have HD := Lib.hid hab.2.2
  have hds : d.s.size ≤ 140737488351232 := by rw [hab.2.2]; exact hs
  have p1 : (d.er != 0) = false := by rw [← her]; rw [h0]; rfl
  have hx0 : ¬ x = 0 := by rw [hx]; exact hp
  have p2 : ((x : Int) == 0) = false := beq_eq_false_iff_ne.mpr (by omega)
  have p2' : (x == 0) = false := beq_eq_false_iff_ne.mpr hx0
  obtain ⟨q, hqe⟩ : ∃ q, q = x / 16 := ⟨_, rfl⟩
  obtain ⟨t, hte⟩ : ∃ t, t = x % 16 := ⟨_, rfl⟩
  have hx8 := hcb.2
  have m1 : (x : Int).tmod 16 = (t : Int) := by rw [Int.tmod_eq_emod_of_nonneg (by omega)]; omega
  have m1' : (x : Int) % 16 = (t : Int) := by omega
  have m2 : (x : Int) / 16 = (q : Int) := by omega
  have m2' : (x : Int).tdiv 16 = (q : Int) := by rw [Int.tdiv_eq_ediv_of_nonneg (by omega)]; omega
  have m3 : IntKind.i64.wrap (q : Int) = (q : Int) := IntWalk.i64_in _ (by omega)
  have m5 : IntKind.u8.wrap (q : Int) = (q : Int) := IntWalk.u8_in _ (by omega)
  have m6 : IntKind.u8.wrap (t : Int) = (t : Int) := IntWalk.u8_in _ (by omega)
  have hkt : kB t = true := by rw [hte, hx]; exact hk
  have HK := Lib.hid (fun w => ris_l (Lib.hid hkt.symm) w)
  have p3 : decide ((x : Int) < 16) = true := decide_eq_true (by omega)
  have p3' : decide (x < 16) = true := decide_eq_true (by omega)
  have hC : c.hC = c.byte.vTo := by unfold CS.hC; rw [if_neg hq, CS.hK_yes hk]
  obtain ⟨u, hu⟩ : ∃ u, u = c.byte.vVal := ⟨_, rfl⟩
  have hu64 : u < 18446744073709551616 := by rw [hu]; exact CS.vVal_lt _
  have HV := Lib.hid (fun w => rr_l (V := ((c.byte.vVal : Nat) : Int)) (Lib.hid rfl) HA hds w)
  rw [← hu] at HV
  have m7 : IntKind.i64.wrap (last + (q : Int)) = last + (q : Int) := by have := numB_yes hl; exact IntWalk.i64_in _ (by omega)
  have HR := Lib.hid (CS.h_bad (last := last) hp hC hv)
  clear hab ha hx hd hcb her hs hl h0 hp hk hte hqe hx0 hkt hx8 hds hq hC hu hu64
  have T0 := Lib.hid (R2.start w r)
  go_enter Tryd.func21, Tryd.ntmps21
  go_wp2_with fail
  with_reducible refine (HB.out _).mono ?_
  rintro e w1 ⟨rfl, b1⟩
  have T1 := Lib.hid (T0.out.call b1)
  clear b1
  have a0 := T1.out.a.c0; have a1 := T1.out.a.c1; have a2 := T1.out.a.c2; have a3 := T1.out.a.c3; have af := T1.out.a.fr
  have z0 := T1.out.b.c0; have z1 := T1.out.b.c1; have z2 := T1.out.b.c2; have z3 := T1.out.b.c3; have zf := T1.out.b.fr
  go_wp2_with fail
  have T2 := Lib.hid (T1.out.setA d)
  obtain ⟨w2, hw2⟩ : ∃ W, W = ((((w1.setCell ⟨w.heap.size, 0, none⟩ (.string d.s)).setCell ⟨w.heap.size, 1, none⟩ (.int .i64 d.at_)).setCell ⟨w.heap.size, 2, none⟩ (.int .i64 d.en)).setCell ⟨w.heap.size, 3, none⟩ (.int .i64 d.er)) := ⟨_, rfl⟩
  rw [← hw2] at T2 ⊢
  clear hw2
  clear a0 a1 a2 a3 af z0 z1 z2 z3 zf
  have a0 := T2.out.a.c0; have a1 := T2.out.a.c1; have a2 := T2.out.a.c2; have a3 := T2.out.a.c3; have af := T2.out.a.fr
  have z0 := T2.out.b.c0; have z1 := T2.out.b.c1; have z2 := T2.out.b.c2; have z3 := T2.out.b.c3; have zf := T2.out.b.fr
  with_reducible refine (HK.out _).mono ?_
  rintro e w2' ⟨rfl, hww⟩
  rw [hww]
  clear hww
  go_wp2_with fail
  with_reducible refine (HV.out _).mono ?_
  rintro e w3 ⟨y, rfl, hal, hys, b3⟩
  have T3 := Lib.hid (T2.out.call b3)
  have hey := hal.2.2.1
  have HY := Lib.hid hal
  have HS := Lib.hid (hys.trans HD.out)
  clear b3 hal hys
  clear a0 a1 a2 a3 af z0 z1 z2 z3 zf
  have T5 := Lib.hid (T3.out.alloc (.cells #[.string y.s, .int .i64 y.at_, .int .i64 y.en, .int .i64 y.er] 56))
  have a0 := T5.out.a.c0; have a1 := T5.out.a.c1; have a2 := T5.out.a.c2; have a3 := T5.out.a.c3; have af := T5.out.a.fr
  have z0 := T5.out.b.c0; have z1 := T5.out.b.c1; have z2 := T5.out.b.c2; have z3 := T5.out.b.c3; have zf := T5.out.b.fr
  have p4 : (y.er != 0) = true := by rw [← hey]; simp [hv]
  clear hey hv
  have S4 := Lib.hid (T5.out.setB y)
  simp only []
  repeat (first | go_values | go_skip | go_guarded | go_step | go_upon)
  exact bodyPost_ret (cur_res3 (x := .int .i64 0) (y := .int .u8 0) Tryd.underlying56 rfl (by kernel_rfl) Tryd.results21 S4.out.b (by kernel_rfl) (by kernel_rfl) (by kernel_rfl)) rfl ⟨y, by rw [HR.out.2.1, HR.out.2.2]; rfl, by rw [HR.out.1]; exact HY.out, HS.out, S4.out.k⟩

set_option maxHeartbeats 1000000 in
theorem rfield_far {c r : CS} (ha : Alike c r) (hs : r.s.size ≤ 140737488351232) (w : World) (last : Int) (hl : numB last = true) (h0 : c.byte.er = 0) (hp : ¬ c.pB = 0) (hk : kB (c.pB % 16) = true) (hq : ¬ 0 < c.pB / 16) (hv : c.byte.vTo.er = 0) (hn : numB (c.hN last) = true) :
    Calls Tryd.prog 21 #[.agg #[.string r.s, .int .i64 r.at_, .int .i64 r.en, .int .i64 r.er], .int .i64 last] w fun e w' => ∃ d, e = .returned (.tuple #[.agg #[.string d.s, .int .i64 d.at_, .int .i64 d.en, .int .i64 d.er], .int .i64 (c.hId last), .int .u8 (c.hKd last : Nat)]) ∧ Alike (c.hTo last) d ∧ d.s = r.s ∧ Below w.heap.size w w' := by
  have hab := ha.byte
  have hcb := CS.peekB_nat c
  obtain ⟨x, hx⟩ : ∃ x, x = c.pB := ⟨_, rfl⟩
  rw [← hx] at hab hcb
  obtain ⟨d, hd⟩ : ∃ d, d = r.byte := ⟨_, rfl⟩
  have HB := Lib.hid (fun w => rby_l (Lib.hid hd) (Lib.hid hab.2.1) (Lib.hid ha.2.1) w)
  rw [← hd] at hab
  have her := hab.1.2.2.1
  have HA := Lib.hid hab.1
  have HD := Lib.hid hab.2.2
  have hds : d.s.size ≤ 140737488351232 := by rw [hab.2.2]; exact hs
  have p1 : (d.er != 0) = false := by rw [← her]; rw [h0]; rfl
  have hx0 : ¬ x = 0 := by rw [hx]; exact hp
  have p2 : ((x : Int) == 0) = false := beq_eq_false_iff_ne.mpr (by omega)
  have p2' : (x == 0) = false := beq_eq_false_iff_ne.mpr hx0
  obtain ⟨q, hqe⟩ : ∃ q, q = x / 16 := ⟨_, rfl⟩
  obtain ⟨t, hte⟩ : ∃ t, t = x % 16 := ⟨_, rfl⟩
  have hx8 := hcb.2
  have m1 : (x : Int).tmod 16 = (t : Int) := by rw [Int.tmod_eq_emod_of_nonneg (by omega)]; omega
  have m1' : (x : Int) % 16 = (t : Int) := by omega
  have m2 : (x : Int) / 16 = (q : Int) := by omega
  have m2' : (x : Int).tdiv 16 = (q : Int) := by rw [Int.tdiv_eq_ediv_of_nonneg (by omega)]; omega
  have m3 : IntKind.i64.wrap (q : Int) = (q : Int) := IntWalk.i64_in _ (by omega)
  have m5 : IntKind.u8.wrap (q : Int) = (q : Int) := IntWalk.u8_in _ (by omega)
  have m6 : IntKind.u8.wrap (t : Int) = (t : Int) := IntWalk.u8_in _ (by omega)
  have hkt : kB t = true := by rw [hte, hx]; exact hk
  have HK := Lib.hid (fun w => ris_l (Lib.hid hkt.symm) w)
  have p3 : decide ((x : Int) < 16) = true := decide_eq_true (by omega)
  have p3' : decide (x < 16) = true := decide_eq_true (by omega)
  have hC : c.hC = c.byte.vTo := by unfold CS.hC; rw [if_neg hq, CS.hK_yes hk]
  obtain ⟨u, hu⟩ : ∃ u, u = c.byte.vVal := ⟨_, rfl⟩
  have hu64 : u < 18446744073709551616 := by rw [hu]; exact CS.vVal_lt _
  have HV := Lib.hid (fun w => rr_l (V := ((c.byte.vVal : Nat) : Int)) (Lib.hid rfl) HA hds w)
  rw [← hu] at HV
  have m7 : IntKind.i64.wrap (last + (q : Int)) = last + (q : Int) := by have := numB_yes hl; exact IntWalk.i64_in _ (by omega)
  obtain ⟨i, hi⟩ : ∃ i, i = zagI (u : Int) := ⟨_, rfl⟩
  have HZ := Lib.hid (fun w => rzag_any (u : Int) w (by omega) (by omega))
  rw [← hi] at HZ
  have hN : c.hN last = i := by unfold CS.hN; rw [if_neg hq, CS.hK_yes hk, hi, hu]
  have hni : numB i = true := by rw [← hN]; exact hn
  have HN := Lib.hid (fun w => rnum_l (Lib.hid hni.symm) w)
  have HR := Lib.hid (CS.h_good hp hC hN hv hni)
  rw [← hx, ← hte] at HR
  clear hab ha hx hd hcb her hs hl h0 hp hk hte hqe hx0 hkt hx8 hds hq hC hu hu64 hi hN hn hni
  have T0 := Lib.hid (R2.start w r)
  go_enter Tryd.func21, Tryd.ntmps21
  go_wp2_with fail
  with_reducible refine (HB.out _).mono ?_
  rintro e w1 ⟨rfl, b1⟩
  have T1 := Lib.hid (T0.out.call b1)
  clear b1
  have a0 := T1.out.a.c0; have a1 := T1.out.a.c1; have a2 := T1.out.a.c2; have a3 := T1.out.a.c3; have af := T1.out.a.fr
  have z0 := T1.out.b.c0; have z1 := T1.out.b.c1; have z2 := T1.out.b.c2; have z3 := T1.out.b.c3; have zf := T1.out.b.fr
  go_wp2_with fail
  have T2 := Lib.hid (T1.out.setA d)
  obtain ⟨w2, hw2⟩ : ∃ W, W = ((((w1.setCell ⟨w.heap.size, 0, none⟩ (.string d.s)).setCell ⟨w.heap.size, 1, none⟩ (.int .i64 d.at_)).setCell ⟨w.heap.size, 2, none⟩ (.int .i64 d.en)).setCell ⟨w.heap.size, 3, none⟩ (.int .i64 d.er)) := ⟨_, rfl⟩
  rw [← hw2] at T2 ⊢
  clear hw2
  clear a0 a1 a2 a3 af z0 z1 z2 z3 zf
  have a0 := T2.out.a.c0; have a1 := T2.out.a.c1; have a2 := T2.out.a.c2; have a3 := T2.out.a.c3; have af := T2.out.a.fr
  have z0 := T2.out.b.c0; have z1 := T2.out.b.c1; have z2 := T2.out.b.c2; have z3 := T2.out.b.c3; have zf := T2.out.b.fr
  with_reducible refine (HK.out _).mono ?_
  rintro e w2' ⟨rfl, hww⟩
  rw [hww]
  clear hww
  go_wp2_with fail
  with_reducible refine (HV.out _).mono ?_
  rintro e w3 ⟨y, rfl, hal, hys, b3⟩
  have T3 := Lib.hid (T2.out.call b3)
  have hey := hal.2.2.1
  have HY := Lib.hid hal
  have HS := Lib.hid (hys.trans HD.out)
  clear b3 hal hys
  clear a0 a1 a2 a3 af z0 z1 z2 z3 zf
  have T5 := Lib.hid (T3.out.alloc (.cells #[.string y.s, .int .i64 y.at_, .int .i64 y.en, .int .i64 y.er] 56))
  have a0 := T5.out.a.c0; have a1 := T5.out.a.c1; have a2 := T5.out.a.c2; have a3 := T5.out.a.c3; have af := T5.out.a.fr
  have z0 := T5.out.b.c0; have z1 := T5.out.b.c1; have z2 := T5.out.b.c2; have z3 := T5.out.b.c3; have zf := T5.out.b.fr
  have hy0 : y.er = 0 := by rw [← hey]; exact hv
  have p4 : (y.er != 0) = false := by rw [hy0]; rfl
  clear hey hv hy0
  have T4 := Lib.hid (T5.out.setA y)
  go_wp2_with fail
  obtain ⟨w4, hw4⟩ : ∃ W, W = (((((w3.alloc (.cells #[.string y.s, .int .i64 y.at_, .int .i64 y.en, .int .i64 y.er] 56)).setCell ⟨w.heap.size, 0, none⟩ (.string y.s)).setCell ⟨w.heap.size, 1, none⟩ (.int .i64 y.at_)).setCell ⟨w.heap.size, 2, none⟩ (.int .i64 y.en)).setCell ⟨w.heap.size, 3, none⟩ (.int .i64 y.er)) := ⟨_, rfl⟩
  rw [← hw4] at T4 ⊢
  clear hw4
  clear a0 a1 a2 a3 af z0 z1 z2 z3 zf
  have a0 := T4.out.a.c0; have a1 := T4.out.a.c1; have a2 := T4.out.a.c2; have a3 := T4.out.a.c3; have af := T4.out.a.fr
  have z0 := T4.out.b.c0; have z1 := T4.out.b.c1; have z2 := T4.out.b.c2; have z3 := T4.out.b.c3; have zf := T4.out.b.fr
  with_reducible refine (HZ.out _).mono ?_
  rintro e w5 ⟨rfl, hww⟩
  rw [hww]
  clear hww
  go_wp2_with fail
  with_reducible refine (HN.out _).mono ?_
  rintro e w5 ⟨rfl, hww⟩
  rw [hww]
  clear hww
  have S4 := Lib.hid (T4.out.setB y)
  simp only []
  repeat (first | go_values | go_skip | go_guarded | go_step | go_upon)
  exact bodyPost_ret (cur_res3 (x := .int .i64 i) (y := .int .u8 (t : Nat)) Tryd.underlying56 rfl (by kernel_rfl) Tryd.results21 S4.out.b (by kernel_rfl) (by kernel_rfl) (by kernel_rfl)) rfl ⟨y, by rw [HR.out.2.1, HR.out.2.2]; rfl, by rw [HR.out.1]; exact HY.out, HS.out, S4.out.k⟩

set_option maxHeartbeats 1000000 in
theorem rfield_range {c r : CS} (ha : Alike c r) (hs : r.s.size ≤ 140737488351232) (w : World) (last : Int) (hl : numB last = true) (h0 : c.byte.er = 0) (hp : ¬ c.pB = 0) (hk : kB (c.pB % 16) = true) (hq : ¬ 0 < c.pB / 16) (hv : c.byte.vTo.er = 0) (hn : numB (c.hN last) = false) :
    Calls Tryd.prog 21 #[.agg #[.string r.s, .int .i64 r.at_, .int .i64 r.en, .int .i64 r.er], .int .i64 last] w fun e w' => ∃ d, e = .returned (.tuple #[.agg #[.string d.s, .int .i64 d.at_, .int .i64 d.en, .int .i64 d.er], .int .i64 (c.hId last), .int .u8 (c.hKd last : Nat)]) ∧ Alike (c.hTo last) d ∧ d.s = r.s ∧ Below w.heap.size w w' := by
  have hab := ha.byte
  have hcb := CS.peekB_nat c
  obtain ⟨x, hx⟩ : ∃ x, x = c.pB := ⟨_, rfl⟩
  rw [← hx] at hab hcb
  obtain ⟨d, hd⟩ : ∃ d, d = r.byte := ⟨_, rfl⟩
  have HB := Lib.hid (fun w => rby_l (Lib.hid hd) (Lib.hid hab.2.1) (Lib.hid ha.2.1) w)
  rw [← hd] at hab
  have her := hab.1.2.2.1
  have HA := Lib.hid hab.1
  have HD := Lib.hid hab.2.2
  have hds : d.s.size ≤ 140737488351232 := by rw [hab.2.2]; exact hs
  have p1 : (d.er != 0) = false := by rw [← her]; rw [h0]; rfl
  have hx0 : ¬ x = 0 := by rw [hx]; exact hp
  have p2 : ((x : Int) == 0) = false := beq_eq_false_iff_ne.mpr (by omega)
  have p2' : (x == 0) = false := beq_eq_false_iff_ne.mpr hx0
  obtain ⟨q, hqe⟩ : ∃ q, q = x / 16 := ⟨_, rfl⟩
  obtain ⟨t, hte⟩ : ∃ t, t = x % 16 := ⟨_, rfl⟩
  have hx8 := hcb.2
  have m1 : (x : Int).tmod 16 = (t : Int) := by rw [Int.tmod_eq_emod_of_nonneg (by omega)]; omega
  have m1' : (x : Int) % 16 = (t : Int) := by omega
  have m2 : (x : Int) / 16 = (q : Int) := by omega
  have m2' : (x : Int).tdiv 16 = (q : Int) := by rw [Int.tdiv_eq_ediv_of_nonneg (by omega)]; omega
  have m3 : IntKind.i64.wrap (q : Int) = (q : Int) := IntWalk.i64_in _ (by omega)
  have m5 : IntKind.u8.wrap (q : Int) = (q : Int) := IntWalk.u8_in _ (by omega)
  have m6 : IntKind.u8.wrap (t : Int) = (t : Int) := IntWalk.u8_in _ (by omega)
  have hkt : kB t = true := by rw [hte, hx]; exact hk
  have HK := Lib.hid (fun w => ris_l (Lib.hid hkt.symm) w)
  have p3 : decide ((x : Int) < 16) = true := decide_eq_true (by omega)
  have p3' : decide (x < 16) = true := decide_eq_true (by omega)
  have hC : c.hC = c.byte.vTo := by unfold CS.hC; rw [if_neg hq, CS.hK_yes hk]
  obtain ⟨u, hu⟩ : ∃ u, u = c.byte.vVal := ⟨_, rfl⟩
  have hu64 : u < 18446744073709551616 := by rw [hu]; exact CS.vVal_lt _
  have HV := Lib.hid (fun w => rr_l (V := ((c.byte.vVal : Nat) : Int)) (Lib.hid rfl) HA hds w)
  rw [← hu] at HV
  have m7 : IntKind.i64.wrap (last + (q : Int)) = last + (q : Int) := by have := numB_yes hl; exact IntWalk.i64_in _ (by omega)
  obtain ⟨i, hi⟩ : ∃ i, i = zagI (u : Int) := ⟨_, rfl⟩
  have HZ := Lib.hid (fun w => rzag_any (u : Int) w (by omega) (by omega))
  rw [← hi] at HZ
  have hN : c.hN last = i := by unfold CS.hN; rw [if_neg hq, CS.hK_yes hk, hi, hu]
  have hni : numB i = false := by rw [← hN]; exact hn
  have HN := Lib.hid (fun w => rnum_l (Lib.hid hni.symm) w)
  have HR := Lib.hid (CS.h_range hp hC hN hv hni)
  clear hab ha hx hd hcb her hs hl h0 hp hk hte hqe hx0 hkt hx8 hds hq hC hu hu64 hi hN hn hni
  have T0 := Lib.hid (R2.start w r)
  go_enter Tryd.func21, Tryd.ntmps21
  go_wp2_with fail
  with_reducible refine (HB.out _).mono ?_
  rintro e w1 ⟨rfl, b1⟩
  have T1 := Lib.hid (T0.out.call b1)
  clear b1
  have a0 := T1.out.a.c0; have a1 := T1.out.a.c1; have a2 := T1.out.a.c2; have a3 := T1.out.a.c3; have af := T1.out.a.fr
  have z0 := T1.out.b.c0; have z1 := T1.out.b.c1; have z2 := T1.out.b.c2; have z3 := T1.out.b.c3; have zf := T1.out.b.fr
  go_wp2_with fail
  have T2 := Lib.hid (T1.out.setA d)
  obtain ⟨w2, hw2⟩ : ∃ W, W = ((((w1.setCell ⟨w.heap.size, 0, none⟩ (.string d.s)).setCell ⟨w.heap.size, 1, none⟩ (.int .i64 d.at_)).setCell ⟨w.heap.size, 2, none⟩ (.int .i64 d.en)).setCell ⟨w.heap.size, 3, none⟩ (.int .i64 d.er)) := ⟨_, rfl⟩
  rw [← hw2] at T2 ⊢
  clear hw2
  clear a0 a1 a2 a3 af z0 z1 z2 z3 zf
  have a0 := T2.out.a.c0; have a1 := T2.out.a.c1; have a2 := T2.out.a.c2; have a3 := T2.out.a.c3; have af := T2.out.a.fr
  have z0 := T2.out.b.c0; have z1 := T2.out.b.c1; have z2 := T2.out.b.c2; have z3 := T2.out.b.c3; have zf := T2.out.b.fr
  with_reducible refine (HK.out _).mono ?_
  rintro e w2' ⟨rfl, hww⟩
  rw [hww]
  clear hww
  go_wp2_with fail
  with_reducible refine (HV.out _).mono ?_
  rintro e w3 ⟨y, rfl, hal, hys, b3⟩
  have T3 := Lib.hid (T2.out.call b3)
  have hey := hal.2.2.1
  have HY := Lib.hid hal
  have HS := Lib.hid (hys.trans HD.out)
  clear b3 hal hys
  clear a0 a1 a2 a3 af z0 z1 z2 z3 zf
  have T5 := Lib.hid (T3.out.alloc (.cells #[.string y.s, .int .i64 y.at_, .int .i64 y.en, .int .i64 y.er] 56))
  have a0 := T5.out.a.c0; have a1 := T5.out.a.c1; have a2 := T5.out.a.c2; have a3 := T5.out.a.c3; have af := T5.out.a.fr
  have z0 := T5.out.b.c0; have z1 := T5.out.b.c1; have z2 := T5.out.b.c2; have z3 := T5.out.b.c3; have zf := T5.out.b.fr
  have hy0 : y.er = 0 := by rw [← hey]; exact hv
  have p4 : (y.er != 0) = false := by rw [hy0]; rfl
  have HF := Lib.hid (fun w => ref_fail0 y 4 w hy0)
  have HQ := Lib.hid (HY.out.fail hy0 4)
  clear hey hv hy0
  have T4 := Lib.hid (T5.out.setA y)
  go_wp2_with fail
  obtain ⟨w4, hw4⟩ : ∃ W, W = (((((w3.alloc (.cells #[.string y.s, .int .i64 y.at_, .int .i64 y.en, .int .i64 y.er] 56)).setCell ⟨w.heap.size, 0, none⟩ (.string y.s)).setCell ⟨w.heap.size, 1, none⟩ (.int .i64 y.at_)).setCell ⟨w.heap.size, 2, none⟩ (.int .i64 y.en)).setCell ⟨w.heap.size, 3, none⟩ (.int .i64 y.er)) := ⟨_, rfl⟩
  rw [← hw4] at T4 ⊢
  clear hw4
  clear a0 a1 a2 a3 af z0 z1 z2 z3 zf
  have a0 := T4.out.a.c0; have a1 := T4.out.a.c1; have a2 := T4.out.a.c2; have a3 := T4.out.a.c3; have af := T4.out.a.fr
  have z0 := T4.out.b.c0; have z1 := T4.out.b.c1; have z2 := T4.out.b.c2; have z3 := T4.out.b.c3; have zf := T4.out.b.fr
  with_reducible refine (HZ.out _).mono ?_
  rintro e w5 ⟨rfl, hww⟩
  rw [hww]
  clear hww
  go_wp2_with fail
  with_reducible refine (HN.out _).mono ?_
  rintro e w5 ⟨rfl, hww⟩
  rw [hww]
  clear hww
  go_wp2_with fail
  with_reducible refine (HF.out _).mono ?_
  rintro e w6 ⟨rfl, b3⟩
  have T3 := Lib.hid (T4.out.call b3)
  clear b3
  clear a0 a1 a2 a3 af z0 z1 z2 z3 zf
  have a0 := T3.out.a.c0; have a1 := T3.out.a.c1; have a2 := T3.out.a.c2; have a3 := T3.out.a.c3; have af := T3.out.a.fr
  have z0 := T3.out.b.c0; have z1 := T3.out.b.c1; have z2 := T3.out.b.c2; have z3 := T3.out.b.c3; have zf := T3.out.b.fr
  have S3 := Lib.hid (T3.out.setB { y with er := 4 })
  simp only []
  repeat (first | go_values | go_skip | go_guarded | go_step | go_upon)
  exact bodyPost_ret (cur_res3 (x := .int .i64 0) (y := .int .u8 0) Tryd.underlying56 rfl (by kernel_rfl) Tryd.results21 S3.out.b (by kernel_rfl) (by kernel_rfl) (by kernel_rfl)) rfl ⟨{ y with er := 4 }, by rw [HR.out.2.1, HR.out.2.2]; rfl, by rw [HR.out.1]; exact HQ.out, HS.out, S3.out.k⟩

theorem rfield_any {c r : CS} (ha : Alike c r) (hs : r.s.size ≤ 140737488351232) (w : World) (last : Int) (hl : numB last = true) :
    Calls Tryd.prog 21 #[.agg #[.string r.s, .int .i64 r.at_, .int .i64 r.en, .int .i64 r.er], .int .i64 last] w fun e w' => ∃ d, e = .returned (.tuple #[.agg #[.string d.s, .int .i64 d.at_, .int .i64 d.en, .int .i64 d.er], .int .i64 (c.hId last), .int .u8 (c.hKd last : Nat)]) ∧ Alike (c.hTo last) d ∧ d.s = r.s ∧ Below w.heap.size w w' := by
  by_cases h0 : c.byte.er = 0
  · by_cases hp : c.pB = 0
    · exact rfield_stop ha hs w last hl h0 hp
    · rcases Bool.eq_false_or_eq_true (kB (c.pB % 16)) with hk | hk
      · rcases Bool.eq_false_or_eq_true (numB (c.hN last)) with hn | hn
        · by_cases hq : 0 < c.pB / 16
          · exact rfield_near ha hs w last hl h0 hp hk hq hn
          · by_cases hv : c.byte.vTo.er = 0
            · exact rfield_far ha hs w last hl h0 hp hk hq hv hn
            · exact rfield_bad ha hs w last hl h0 hp hk hq hv
        · by_cases hq : 0 < c.pB / 16
          · exact rfield_wide ha hs w last hl h0 hp hk hq hn
          · by_cases hv : c.byte.vTo.er = 0
            · exact rfield_range ha hs w last hl h0 hp hk hq hv hn
            · exact rfield_bad ha hs w last hl h0 hp hk hq hv
      · exact rfield_kind ha hs w last hl h0 hp hk
  · exact rfield_cut ha hs w last hl h0
end Go.Proofs.YtmiagebcobcaiaaDoor
