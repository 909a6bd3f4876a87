/- The document's own layer 21: Value, kind by kind. -/
import Derived.Test.YtmaojbhpnflbcaaSkT
namespace Go.Proofs.Ytmaojbhpnflbcaa
open Go Go.RowKit
set_option linter.unusedVariables false
set_option maxHeartbeats 1000000 in
theorem rvalue_no {c r : CS} (ha : Alike c r) (hs : r.s.size ≤ 140737488351232) (w : World) (deep : Int) (k : Nat) (hk : kB k = false) :
    Calls Try.prog 10 #[.agg #[.string r.s, .int .i64 r.at_, .int .i64 r.en, .int .i64 r.er], .int .u8 (k : Nat), .int .i64 deep] w fun e w' => ∃ d, e = .returned (.agg #[.string d.s, .int .i64 d.at_, .int .i64 d.en, .int .i64 d.er]) ∧ Alike (c.fail 7) d ∧ d.s = r.s ∧ Below w.heap.size w w' := by
  have HI := Lib.hid (fun w => ris_l (k := k) (x := false) (Lib.hid hk.symm) w)
  have HQ := Lib.hid (ha.std (Std.fail 7))
  have HS := Lib.hid (show (r.fail 7).s = r.s from (Std.fail 7 r ha.2.1).2.1)
  have HK := Lib.hid (fun w => rfl_l (r := r) (k := 7) (Lib.hid rfl) w)
  obtain ⟨x, hx⟩ : ∃ x, x = r.fail 7 := ⟨_, rfl⟩
  rw [← hx] at HK HS HQ
  clear ha hs hx hk
  have T0 := Lib.hid (R2.start w r)
  go_enter Try.func10, Try.ntmps10
  have a0 := T0.out.a.c0; have a1 := T0.out.a.c1; have a2 := T0.out.a.c2; have a3 := T0.out.a.c3; have af := T0.out.a.fr
  have z0 := T0.out.b.c0; have z1 := T0.out.b.c1; have z2 := T0.out.b.c2; have z3 := T0.out.b.c3; have zf := T0.out.b.fr
  go_wp2_with fail
  with_reducible refine (HI.out _).mono ?_
  rintro e w' ⟨rfl, hww⟩
  rw [hww]
  clear hww
  go_wp2_with fail
  with_reducible refine (HK.out _).mono ?_
  rintro e w1 ⟨rfl, b1⟩
  have T1 := Lib.hid (T0.out.call b1)
  clear b1
  clear a0 a1 a2 a3 af z0 z1 z2 z3 zf
  have a0 := T1.out.a.c0; have a1 := T1.out.a.c1; have a2 := T1.out.a.c2; have a3 := T1.out.a.c3; have af := T1.out.a.fr
  have z0 := T1.out.b.c0; have z1 := T1.out.b.c1; have z2 := T1.out.b.c2; have z3 := T1.out.b.c3; have zf := T1.out.b.fr
  have S1 := Lib.hid (T1.out.setB x)
  try simp only []
  repeat (first | go_values | go_skip | go_guarded | go_step | go_upon)
  exact bodyPost_ret (cur_res1 Try.underlying28 rfl (by kernel_rfl) Try.results10 S1.out.b (by kernel_rfl)) rfl ⟨x, rfl, HQ.out, HS.out, S1.out.k⟩
set_option maxHeartbeats 1000000 in
theorem rvalue_deep {c r : CS} (ha : Alike c r) (hs : r.s.size ≤ 140737488351232) (w : World) (deep : Int) (k : Nat) (hk : kB k = true) (hh : hdK k = true) (hd : 32 ≤ deep) :
    Calls Try.prog 10 #[.agg #[.string r.s, .int .i64 r.at_, .int .i64 r.en, .int .i64 r.er], .int .u8 (k : Nat), .int .i64 deep] w fun e w' => ∃ d, e = .returned (.agg #[.string d.s, .int .i64 d.at_, .int .i64 d.en, .int .i64 d.er]) ∧ Alike (c.fail 33) d ∧ d.s = r.s ∧ Below w.heap.size w w' := by
  have HI := Lib.hid (fun w => ris_l (k := k) (x := true) (Lib.hid hk.symm) w)
  have HH0 := (fun w => rholds_any k w)
  rw [hh] at HH0
  have HH := Lib.hid HH0
  have p1 : decide ((32 : Int) ≤ deep) = true := decide_eq_true hd
  have HQ := Lib.hid (ha.std (Std.fail 33))
  have HS := Lib.hid (show (r.fail 33).s = r.s from (Std.fail 33 r ha.2.1).2.1)
  have HK := Lib.hid (fun w => rfl_l (r := r) (k := 33) (Lib.hid rfl) w)
  obtain ⟨x, hx⟩ : ∃ x, x = r.fail 33 := ⟨_, rfl⟩
  rw [← hx] at HK HS HQ
  clear ha hs hx hk HH0 hh hd
  have T0 := Lib.hid (R2.start w r)
  go_enter Try.func10, Try.ntmps10
  have a0 := T0.out.a.c0; have a1 := T0.out.a.c1; have a2 := T0.out.a.c2; have a3 := T0.out.a.c3; have af := T0.out.a.fr
  have z0 := T0.out.b.c0; have z1 := T0.out.b.c1; have z2 := T0.out.b.c2; have z3 := T0.out.b.c3; have zf := T0.out.b.fr
  go_wp2_with fail
  with_reducible refine (HI.out _).mono ?_
  rintro e w' ⟨rfl, hww⟩
  rw [hww]
  clear hww
  go_wp2_with fail
  with_reducible refine (HH.out _).mono ?_
  rintro e w' ⟨rfl, hww⟩
  rw [hww]
  clear hww
  go_wp2_with fail
  with_reducible refine (HK.out _).mono ?_
  rintro e w1 ⟨rfl, b1⟩
  have T1 := Lib.hid (T0.out.call b1)
  clear b1
  clear a0 a1 a2 a3 af z0 z1 z2 z3 zf
  have a0 := T1.out.a.c0; have a1 := T1.out.a.c1; have a2 := T1.out.a.c2; have a3 := T1.out.a.c3; have af := T1.out.a.fr
  have z0 := T1.out.b.c0; have z1 := T1.out.b.c1; have z2 := T1.out.b.c2; have z3 := T1.out.b.c3; have zf := T1.out.b.fr
  have S1 := Lib.hid (T1.out.setB x)
  try simp only []
  repeat (first | go_values | go_skip | go_guarded | go_step | go_upon)
  exact bodyPost_ret (cur_res1 Try.underlying28 rfl (by kernel_rfl) Try.results10 S1.out.b (by kernel_rfl)) rfl ⟨x, rfl, HQ.out, HS.out, S1.out.k⟩
set_option maxHeartbeats 1000000 in
theorem rvalue_1 {c r : CS} (ha : Alike c r) (hs : r.s.size ≤ 140737488351232) (w : World) (deep : Int) :
    Calls Try.prog 10 #[.agg #[.string r.s, .int .i64 r.at_, .int .i64 r.en, .int .i64 r.er], .int .u8 1, .int .i64 deep] w fun e w' => ∃ d, e = .returned (.agg #[.string d.s, .int .i64 d.at_, .int .i64 d.en, .int .i64 d.er]) ∧ Alike c d ∧ d.s = r.s ∧ Below w.heap.size w w' := by
  have HI : Hid (∀ w, Calls Try.prog 27 #[.int .u8 1] w fun e w' => e = .returned (.bool true) ∧ w' = w) := Lib.hid fun w => ris_any 1 w
  have HH : Hid (∀ w, Calls Try.prog 29 #[.int .u8 1] w fun e w' => e = .returned (.bool false) ∧ w' = w) := Lib.hid fun w => rholds_any 1 w
  have HA := Lib.hid ha
  clear ha hs
  have T0 := Lib.hid (R2.start w r)
  go_enter Try.func10, Try.ntmps10
  have a0 := T0.out.a.c0; have a1 := T0.out.a.c1; have a2 := T0.out.a.c2; have a3 := T0.out.a.c3; have af := T0.out.a.fr
  have z0 := T0.out.b.c0; have z1 := T0.out.b.c1; have z2 := T0.out.b.c2; have z3 := T0.out.b.c3; have zf := T0.out.b.fr
  go_wp2_with fail
  with_reducible refine (HI.out _).mono ?_
  rintro e w' ⟨rfl, hww⟩
  rw [hww]
  clear hww
  go_wp2_with fail
  with_reducible refine (HH.out _).mono ?_
  rintro e w' ⟨rfl, hww⟩
  rw [hww]
  clear hww
  obtain ⟨w0, hw0⟩ : ∃ W, W = ((w.alloc (.cells #[.string r.s, .int .i64 r.at_, .int .i64 r.en, .int .i64 r.er] 28)).alloc (.cells #[.string ⟨#[]⟩, .int .i64 0, .int .i64 0, .int .i64 0] 28)) := ⟨_, rfl⟩
  rw [← hw0] at T0 ⊢
  clear hw0
  clear a0 a1 a2 a3 af z0 z1 z2 z3 zf
  have a0 := T0.out.a.c0; have a1 := T0.out.a.c1; have a2 := T0.out.a.c2; have a3 := T0.out.a.c3; have af := T0.out.a.fr
  have z0 := T0.out.b.c0; have z1 := T0.out.b.c1; have z2 := T0.out.b.c2; have z3 := T0.out.b.c3; have zf := T0.out.b.fr
  have S1 := Lib.hid (T0.out.setB r)
  try simp only []
  repeat (first | go_values | go_skip | go_guarded | go_step | go_upon)
  exact bodyPost_ret (cur_res1 Try.underlying28 rfl (by kernel_rfl) Try.results10 S1.out.b (by kernel_rfl)) rfl ⟨r, rfl, HA.out, rfl, S1.out.k⟩
set_option maxHeartbeats 1000000 in
theorem rvalue_2 {c r : CS} (ha : Alike c r) (hs : r.s.size ≤ 140737488351232) (w : World) (deep : Int) :
    Calls Try.prog 10 #[.agg #[.string r.s, .int .i64 r.at_, .int .i64 r.en, .int .i64 r.er], .int .u8 2, .int .i64 deep] w fun e w' => ∃ d, e = .returned (.agg #[.string d.s, .int .i64 d.at_, .int .i64 d.en, .int .i64 d.er]) ∧ Alike c d ∧ d.s = r.s ∧ Below w.heap.size w w' := by
  have HI : Hid (∀ w, Calls Try.prog 27 #[.int .u8 2] w fun e w' => e = .returned (.bool true) ∧ w' = w) := Lib.hid fun w => ris_any 2 w
  have HH : Hid (∀ w, Calls Try.prog 29 #[.int .u8 2] w fun e w' => e = .returned (.bool false) ∧ w' = w) := Lib.hid fun w => rholds_any 2 w
  have HA := Lib.hid ha
  clear ha hs
  have T0 := Lib.hid (R2.start w r)
  go_enter Try.func10, Try.ntmps10
  have a0 := T0.out.a.c0; have a1 := T0.out.a.c1; have a2 := T0.out.a.c2; have a3 := T0.out.a.c3; have af := T0.out.a.fr
  have z0 := T0.out.b.c0; have z1 := T0.out.b.c1; have z2 := T0.out.b.c2; have z3 := T0.out.b.c3; have zf := T0.out.b.fr
  go_wp2_with fail
  with_reducible refine (HI.out _).mono ?_
  rintro e w' ⟨rfl, hww⟩
  rw [hww]
  clear hww
  go_wp2_with fail
  with_reducible refine (HH.out _).mono ?_
  rintro e w' ⟨rfl, hww⟩
  rw [hww]
  clear hww
  obtain ⟨w0, hw0⟩ : ∃ W, W = ((w.alloc (.cells #[.string r.s, .int .i64 r.at_, .int .i64 r.en, .int .i64 r.er] 28)).alloc (.cells #[.string ⟨#[]⟩, .int .i64 0, .int .i64 0, .int .i64 0] 28)) := ⟨_, rfl⟩
  rw [← hw0] at T0 ⊢
  clear hw0
  clear a0 a1 a2 a3 af z0 z1 z2 z3 zf
  have a0 := T0.out.a.c0; have a1 := T0.out.a.c1; have a2 := T0.out.a.c2; have a3 := T0.out.a.c3; have af := T0.out.a.fr
  have z0 := T0.out.b.c0; have z1 := T0.out.b.c1; have z2 := T0.out.b.c2; have z3 := T0.out.b.c3; have zf := T0.out.b.fr
  have S1 := Lib.hid (T0.out.setB r)
  try simp only []
  repeat (first | go_values | go_skip | go_guarded | go_step | go_upon)
  exact bodyPost_ret (cur_res1 Try.underlying28 rfl (by kernel_rfl) Try.results10 S1.out.b (by kernel_rfl)) rfl ⟨r, rfl, HA.out, rfl, S1.out.k⟩
set_option maxHeartbeats 1000000 in
theorem rvalue_3 {c r : CS} (ha : Alike c r) (hs : r.s.size ≤ 140737488351232) (w : World) (deep : Int) :
    Calls Try.prog 10 #[.agg #[.string r.s, .int .i64 r.at_, .int .i64 r.en, .int .i64 r.er], .int .u8 3, .int .i64 deep] w fun e w' => ∃ d, e = .returned (.agg #[.string d.s, .int .i64 d.at_, .int .i64 d.en, .int .i64 d.er]) ∧ Alike (c.take 1) d ∧ d.s = r.s ∧ Below w.heap.size w w' := by
  have HI : Hid (∀ w, Calls Try.prog 27 #[.int .u8 3] w fun e w' => e = .returned (.bool true) ∧ w' = w) := Lib.hid fun w => ris_any 3 w
  have HH : Hid (∀ w, Calls Try.prog 29 #[.int .u8 3] w fun e w' => e = .returned (.bool false) ∧ w' = w) := Lib.hid fun w => rholds_any 3 w
  have HQ := Lib.hid (ha.std (Std.take 1))
  have HS := Lib.hid (show (r.take 1).s = r.s from (Std.take 1 r ha.2.1).2.1)
  have HK := Lib.hid (fun w => rtk_l (r := r) (n := 1) (Lib.hid rfl) (Lib.hid rfl) (Lib.hid ha.2.1) w)
  obtain ⟨x, hx⟩ : ∃ x, x = r.take 1 := ⟨_, rfl⟩
  rw [← hx] at HK HS HQ
  clear ha hs hx
  have T0 := Lib.hid (R2.start w r)
  go_enter Try.func10, Try.ntmps10
  have a0 := T0.out.a.c0; have a1 := T0.out.a.c1; have a2 := T0.out.a.c2; have a3 := T0.out.a.c3; have af := T0.out.a.fr
  have z0 := T0.out.b.c0; have z1 := T0.out.b.c1; have z2 := T0.out.b.c2; have z3 := T0.out.b.c3; have zf := T0.out.b.fr
  go_wp2_with fail
  with_reducible refine (HI.out _).mono ?_
  rintro e w' ⟨rfl, hww⟩
  rw [hww]
  clear hww
  go_wp2_with fail
  with_reducible refine (HH.out _).mono ?_
  rintro e w' ⟨rfl, hww⟩
  rw [hww]
  clear hww
  go_wp2_with fail
  with_reducible refine (HK.out _).mono ?_
  rintro e w1 ⟨rfl, b1⟩
  have T1 := Lib.hid (T0.out.call b1)
  clear b1
  clear a0 a1 a2 a3 af z0 z1 z2 z3 zf
  have a0 := T1.out.a.c0; have a1 := T1.out.a.c1; have a2 := T1.out.a.c2; have a3 := T1.out.a.c3; have af := T1.out.a.fr
  have z0 := T1.out.b.c0; have z1 := T1.out.b.c1; have z2 := T1.out.b.c2; have z3 := T1.out.b.c3; have zf := T1.out.b.fr
  have S1 := Lib.hid ((T1.out.setA x).setB x)
  try simp only []
  repeat (first | go_values | go_skip | go_guarded | go_step | go_upon)
  exact bodyPost_ret (cur_res1 Try.underlying28 rfl (by kernel_rfl) Try.results10 S1.out.b (by kernel_rfl)) rfl ⟨x, rfl, HQ.out, HS.out, S1.out.k⟩
set_option maxHeartbeats 1000000 in
theorem rvalue_7 {c r : CS} (ha : Alike c r) (hs : r.s.size ≤ 140737488351232) (w : World) (deep : Int) :
    Calls Try.prog 10 #[.agg #[.string r.s, .int .i64 r.at_, .int .i64 r.en, .int .i64 r.er], .int .u8 7, .int .i64 deep] w fun e w' => ∃ d, e = .returned (.agg #[.string d.s, .int .i64 d.at_, .int .i64 d.en, .int .i64 d.er]) ∧ Alike (c.take 8) d ∧ d.s = r.s ∧ Below w.heap.size w w' := by
  have HI : Hid (∀ w, Calls Try.prog 27 #[.int .u8 7] w fun e w' => e = .returned (.bool true) ∧ w' = w) := Lib.hid fun w => ris_any 7 w
  have HH : Hid (∀ w, Calls Try.prog 29 #[.int .u8 7] w fun e w' => e = .returned (.bool false) ∧ w' = w) := Lib.hid fun w => rholds_any 7 w
  have HQ := Lib.hid (ha.std (Std.take 8))
  have HS := Lib.hid (show (r.take 8).s = r.s from (Std.take 8 r ha.2.1).2.1)
  have HK := Lib.hid (fun w => rtk_l (r := r) (n := 8) (Lib.hid rfl) (Lib.hid rfl) (Lib.hid ha.2.1) w)
  obtain ⟨x, hx⟩ : ∃ x, x = r.take 8 := ⟨_, rfl⟩
  rw [← hx] at HK HS HQ
  clear ha hs hx
  have T0 := Lib.hid (R2.start w r)
  go_enter Try.func10, Try.ntmps10
  have a0 := T0.out.a.c0; have a1 := T0.out.a.c1; have a2 := T0.out.a.c2; have a3 := T0.out.a.c3; have af := T0.out.a.fr
  have z0 := T0.out.b.c0; have z1 := T0.out.b.c1; have z2 := T0.out.b.c2; have z3 := T0.out.b.c3; have zf := T0.out.b.fr
  go_wp2_with fail
  with_reducible refine (HI.out _).mono ?_
  rintro e w' ⟨rfl, hww⟩
  rw [hww]
  clear hww
  go_wp2_with fail
  with_reducible refine (HH.out _).mono ?_
  rintro e w' ⟨rfl, hww⟩
  rw [hww]
  clear hww
  go_wp2_with fail
  with_reducible refine (HK.out _).mono ?_
  rintro e w1 ⟨rfl, b1⟩
  have T1 := Lib.hid (T0.out.call b1)
  clear b1
  clear a0 a1 a2 a3 af z0 z1 z2 z3 zf
  have a0 := T1.out.a.c0; have a1 := T1.out.a.c1; have a2 := T1.out.a.c2; have a3 := T1.out.a.c3; have af := T1.out.a.fr
  have z0 := T1.out.b.c0; have z1 := T1.out.b.c1; have z2 := T1.out.b.c2; have z3 := T1.out.b.c3; have zf := T1.out.b.fr
  have S1 := Lib.hid ((T1.out.setA x).setB x)
  try simp only []
  repeat (first | go_values | go_skip | go_guarded | go_step | go_upon)
  exact bodyPost_ret (cur_res1 Try.underlying28 rfl (by kernel_rfl) Try.results10 S1.out.b (by kernel_rfl)) rfl ⟨x, rfl, HQ.out, HS.out, S1.out.k⟩
set_option maxHeartbeats 1000000 in
theorem rvalue_4 {c r : CS} (ha : Alike c r) (hs : r.s.size ≤ 140737488351232) (w : World) (deep : Int) :
    Calls Try.prog 10 #[.agg #[.string r.s, .int .i64 r.at_, .int .i64 r.en, .int .i64 r.er], .int .u8 4, .int .i64 deep] w fun e w' => ∃ d, e = .returned (.agg #[.string d.s, .int .i64 d.at_, .int .i64 d.en, .int .i64 d.er]) ∧ Alike c.vTo d ∧ d.s = r.s ∧ Below w.heap.size w w' := by
  have HI : Hid (∀ w, Calls Try.prog 27 #[.int .u8 4] w fun e w' => e = .returned (.bool true) ∧ w' = w) := Lib.hid fun w => ris_any 4 w
  have HH : Hid (∀ w, Calls Try.prog 29 #[.int .u8 4] w fun e w' => e = .returned (.bool false) ∧ w' = w) := Lib.hid fun w => rholds_any 4 w
  have HK := Lib.hid (fun w => rr_l (V := ((c.vVal : Nat) : Int)) (Lib.hid rfl) (Lib.hid ha) hs w)
  generalize c.vVal = u at HK
  clear ha hs
  have T0 := Lib.hid (R2.start w r)
  go_enter Try.func10, Try.ntmps10
  have a0 := T0.out.a.c0; have a1 := T0.out.a.c1; have a2 := T0.out.a.c2; have a3 := T0.out.a.c3; have af := T0.out.a.fr
  have z0 := T0.out.b.c0; have z1 := T0.out.b.c1; have z2 := T0.out.b.c2; have z3 := T0.out.b.c3; have zf := T0.out.b.fr
  go_wp2_with fail
  with_reducible refine (HI.out _).mono ?_
  rintro e w' ⟨rfl, hww⟩
  rw [hww]
  clear hww
  go_wp2_with fail
  with_reducible refine (HH.out _).mono ?_
  rintro e w' ⟨rfl, hww⟩
  rw [hww]
  clear hww
  go_wp2_with fail
  with_reducible refine (HK.out _).mono ?_
  rintro e w1 ⟨x, rfl, hal, hxs, b1⟩
  have T1 := Lib.hid (T0.out.call b1)
  have HQ := Lib.hid hal
  have HS := Lib.hid hxs
  clear b1 hal hxs
  clear a0 a1 a2 a3 af z0 z1 z2 z3 zf
  have a0 := T1.out.a.c0; have a1 := T1.out.a.c1; have a2 := T1.out.a.c2; have a3 := T1.out.a.c3; have af := T1.out.a.fr
  have z0 := T1.out.b.c0; have z1 := T1.out.b.c1; have z2 := T1.out.b.c2; have z3 := T1.out.b.c3; have zf := T1.out.b.fr
  have S1 := Lib.hid ((T1.out.setA x).setB x)
  try simp only []
  repeat (first | go_values | go_skip | go_guarded | go_step | go_upon)
  exact bodyPost_ret (cur_res1 Try.underlying28 rfl (by kernel_rfl) Try.results10 S1.out.b (by kernel_rfl)) rfl ⟨x, rfl, HQ.out, HS.out, S1.out.k⟩
set_option maxHeartbeats 1000000 in
theorem rvalue_5 {c r : CS} (ha : Alike c r) (hs : r.s.size ≤ 140737488351232) (w : World) (deep : Int) :
    Calls Try.prog 10 #[.agg #[.string r.s, .int .i64 r.at_, .int .i64 r.en, .int .i64 r.er], .int .u8 5, .int .i64 deep] w fun e w' => ∃ d, e = .returned (.agg #[.string d.s, .int .i64 d.at_, .int .i64 d.en, .int .i64 d.er]) ∧ Alike c.vTo d ∧ d.s = r.s ∧ Below w.heap.size w w' := by
  have HI : Hid (∀ w, Calls Try.prog 27 #[.int .u8 5] w fun e w' => e = .returned (.bool true) ∧ w' = w) := Lib.hid fun w => ris_any 5 w
  have HH : Hid (∀ w, Calls Try.prog 29 #[.int .u8 5] w fun e w' => e = .returned (.bool false) ∧ w' = w) := Lib.hid fun w => rholds_any 5 w
  have HK := Lib.hid (fun w => rr_l (V := ((c.vVal : Nat) : Int)) (Lib.hid rfl) (Lib.hid ha) hs w)
  generalize c.vVal = u at HK
  clear ha hs
  have T0 := Lib.hid (R2.start w r)
  go_enter Try.func10, Try.ntmps10
  have a0 := T0.out.a.c0; have a1 := T0.out.a.c1; have a2 := T0.out.a.c2; have a3 := T0.out.a.c3; have af := T0.out.a.fr
  have z0 := T0.out.b.c0; have z1 := T0.out.b.c1; have z2 := T0.out.b.c2; have z3 := T0.out.b.c3; have zf := T0.out.b.fr
  go_wp2_with fail
  with_reducible refine (HI.out _).mono ?_
  rintro e w' ⟨rfl, hww⟩
  rw [hww]
  clear hww
  go_wp2_with fail
  with_reducible refine (HH.out _).mono ?_
  rintro e w' ⟨rfl, hww⟩
  rw [hww]
  clear hww
  go_wp2_with fail
  with_reducible refine (HK.out _).mono ?_
  rintro e w1 ⟨x, rfl, hal, hxs, b1⟩
  have T1 := Lib.hid (T0.out.call b1)
  have HQ := Lib.hid hal
  have HS := Lib.hid hxs
  clear b1 hal hxs
  clear a0 a1 a2 a3 af z0 z1 z2 z3 zf
  have a0 := T1.out.a.c0; have a1 := T1.out.a.c1; have a2 := T1.out.a.c2; have a3 := T1.out.a.c3; have af := T1.out.a.fr
  have z0 := T1.out.b.c0; have z1 := T1.out.b.c1; have z2 := T1.out.b.c2; have z3 := T1.out.b.c3; have zf := T1.out.b.fr
  have S1 := Lib.hid ((T1.out.setA x).setB x)
  try simp only []
  repeat (first | go_values | go_skip | go_guarded | go_step | go_upon)
  exact bodyPost_ret (cur_res1 Try.underlying28 rfl (by kernel_rfl) Try.results10 S1.out.b (by kernel_rfl)) rfl ⟨x, rfl, HQ.out, HS.out, S1.out.k⟩
set_option maxHeartbeats 1000000 in
theorem rvalue_6 {c r : CS} (ha : Alike c r) (hs : r.s.size ≤ 140737488351232) (w : World) (deep : Int) :
    Calls Try.prog 10 #[.agg #[.string r.s, .int .i64 r.at_, .int .i64 r.en, .int .i64 r.er], .int .u8 6, .int .i64 deep] w fun e w' => ∃ d, e = .returned (.agg #[.string d.s, .int .i64 d.at_, .int .i64 d.en, .int .i64 d.er]) ∧ Alike c.vTo d ∧ d.s = r.s ∧ Below w.heap.size w w' := by
  have HI : Hid (∀ w, Calls Try.prog 27 #[.int .u8 6] w fun e w' => e = .returned (.bool true) ∧ w' = w) := Lib.hid fun w => ris_any 6 w
  have HH : Hid (∀ w, Calls Try.prog 29 #[.int .u8 6] w fun e w' => e = .returned (.bool false) ∧ w' = w) := Lib.hid fun w => rholds_any 6 w
  have HK := Lib.hid (fun w => rr_l (V := ((c.vVal : Nat) : Int)) (Lib.hid rfl) (Lib.hid ha) hs w)
  generalize c.vVal = u at HK
  clear ha hs
  have T0 := Lib.hid (R2.start w r)
  go_enter Try.func10, Try.ntmps10
  have a0 := T0.out.a.c0; have a1 := T0.out.a.c1; have a2 := T0.out.a.c2; have a3 := T0.out.a.c3; have af := T0.out.a.fr
  have z0 := T0.out.b.c0; have z1 := T0.out.b.c1; have z2 := T0.out.b.c2; have z3 := T0.out.b.c3; have zf := T0.out.b.fr
  go_wp2_with fail
  with_reducible refine (HI.out _).mono ?_
  rintro e w' ⟨rfl, hww⟩
  rw [hww]
  clear hww
  go_wp2_with fail
  with_reducible refine (HH.out _).mono ?_
  rintro e w' ⟨rfl, hww⟩
  rw [hww]
  clear hww
  go_wp2_with fail
  with_reducible refine (HK.out _).mono ?_
  rintro e w1 ⟨x, rfl, hal, hxs, b1⟩
  have T1 := Lib.hid (T0.out.call b1)
  have HQ := Lib.hid hal
  have HS := Lib.hid hxs
  clear b1 hal hxs
  clear a0 a1 a2 a3 af z0 z1 z2 z3 zf
  have a0 := T1.out.a.c0; have a1 := T1.out.a.c1; have a2 := T1.out.a.c2; have a3 := T1.out.a.c3; have af := T1.out.a.fr
  have z0 := T1.out.b.c0; have z1 := T1.out.b.c1; have z2 := T1.out.b.c2; have z3 := T1.out.b.c3; have zf := T1.out.b.fr
  have S1 := Lib.hid ((T1.out.setA x).setB x)
  try simp only []
  repeat (first | go_values | go_skip | go_guarded | go_step | go_upon)
  exact bodyPost_ret (cur_res1 Try.underlying28 rfl (by kernel_rfl) Try.results10 S1.out.b (by kernel_rfl)) rfl ⟨x, rfl, HQ.out, HS.out, S1.out.k⟩
set_option maxHeartbeats 1000000 in
theorem rvalue_8 {c r : CS} (ha : Alike c r) (hs : r.s.size ≤ 140737488351232) (w : World) (deep : Int) :
    Calls Try.prog 10 #[.agg #[.string r.s, .int .i64 r.at_, .int .i64 r.en, .int .i64 r.er], .int .u8 8, .int .i64 deep] w fun e w' => ∃ d, e = .returned (.agg #[.string d.s, .int .i64 d.at_, .int .i64 d.en, .int .i64 d.er]) ∧ Alike c.txt d ∧ d.s = r.s ∧ Below w.heap.size w w' := by
  have HI : Hid (∀ w, Calls Try.prog 27 #[.int .u8 8] w fun e w' => e = .returned (.bool true) ∧ w' = w) := Lib.hid fun w => ris_any 8 w
  have HH : Hid (∀ w, Calls Try.prog 29 #[.int .u8 8] w fun e w' => e = .returned (.bool false) ∧ w' = w) := Lib.hid fun w => rholds_any 8 w
  have HK := Lib.hid (fun w => rtxt_any ha hs w)
  clear ha hs
  have T0 := Lib.hid (R2.start w r)
  go_enter Try.func10, Try.ntmps10
  have a0 := T0.out.a.c0; have a1 := T0.out.a.c1; have a2 := T0.out.a.c2; have a3 := T0.out.a.c3; have af := T0.out.a.fr
  have z0 := T0.out.b.c0; have z1 := T0.out.b.c1; have z2 := T0.out.b.c2; have z3 := T0.out.b.c3; have zf := T0.out.b.fr
  go_wp2_with fail
  with_reducible refine (HI.out _).mono ?_
  rintro e w' ⟨rfl, hww⟩
  rw [hww]
  clear hww
  go_wp2_with fail
  with_reducible refine (HH.out _).mono ?_
  rintro e w' ⟨rfl, hww⟩
  rw [hww]
  clear hww
  go_wp2_with fail
  with_reducible refine (HK.out _).mono ?_
  rintro e w1 ⟨x, rfl, hal, hxs, b1⟩
  have T1 := Lib.hid (T0.out.call b1)
  have HQ := Lib.hid hal
  have HS := Lib.hid hxs
  clear b1 hal hxs
  clear a0 a1 a2 a3 af z0 z1 z2 z3 zf
  have a0 := T1.out.a.c0; have a1 := T1.out.a.c1; have a2 := T1.out.a.c2; have a3 := T1.out.a.c3; have af := T1.out.a.fr
  have z0 := T1.out.b.c0; have z1 := T1.out.b.c1; have z2 := T1.out.b.c2; have z3 := T1.out.b.c3; have zf := T1.out.b.fr
  have S1 := Lib.hid (T1.out.setB x)
  try simp only []
  repeat (first | go_values | go_skip | go_guarded | go_step | go_upon)
  exact bodyPost_ret (cur_res1 Try.underlying28 rfl (by kernel_rfl) Try.results10 S1.out.b (by kernel_rfl)) rfl ⟨x, rfl, HQ.out, HS.out, S1.out.k⟩
set_option maxHeartbeats 1000000 in
theorem rvalue_12 {c r D : CS} (ha : Alike c r) (hs : r.s.size ≤ 140737488351232) (w : World) (deep : Int) (hd : 0 ≤ deep ∧ deep < 32)
    (HK : Hid (∀ w, Calls Try.prog 33 #[.agg #[.string r.s, .int .i64 r.at_, .int .i64 r.en, .int .i64 r.er], .int .i64 (deep + 1)] w fun e w' => ∃ d, e = .returned (.agg #[.string d.s, .int .i64 d.at_, .int .i64 d.en, .int .i64 d.er]) ∧ Alike D d ∧ d.s = r.s ∧ Below w.heap.size w w')) :
    Calls Try.prog 10 #[.agg #[.string r.s, .int .i64 r.at_, .int .i64 r.en, .int .i64 r.er], .int .u8 12, .int .i64 deep] w fun e w' => ∃ d, e = .returned (.agg #[.string d.s, .int .i64 d.at_, .int .i64 d.en, .int .i64 d.er]) ∧ Alike D d ∧ d.s = r.s ∧ Below w.heap.size w w' := by
  have HI : Hid (∀ w, Calls Try.prog 27 #[.int .u8 12] w fun e w' => e = .returned (.bool true) ∧ w' = w) := Lib.hid fun w => ris_any 12 w
  have HH : Hid (∀ w, Calls Try.prog 29 #[.int .u8 12] w fun e w' => e = .returned (.bool true) ∧ w' = w) := Lib.hid fun w => rholds_any 12 w
  have p1 : decide ((32 : Int) ≤ deep) = false := decide_eq_false (by omega)
  have m1 : IntKind.i64.wrap (deep + 1) = deep + 1 := IntWalk.i64_in _ (by omega)
  clear ha hs hd
  have T0 := Lib.hid (R2.start w r)
  go_enter Try.func10, Try.ntmps10
  have a0 := T0.out.a.c0; have a1 := T0.out.a.c1; have a2 := T0.out.a.c2; have a3 := T0.out.a.c3; have af := T0.out.a.fr
  have z0 := T0.out.b.c0; have z1 := T0.out.b.c1; have z2 := T0.out.b.c2; have z3 := T0.out.b.c3; have zf := T0.out.b.fr
  go_wp2_with fail
  with_reducible refine (HI.out _).mono ?_
  rintro e w' ⟨rfl, hww⟩
  rw [hww]
  clear hww
  go_wp2_with fail
  with_reducible refine (HH.out _).mono ?_
  rintro e w' ⟨rfl, hww⟩
  rw [hww]
  clear hww
  go_wp2_with fail
  with_reducible refine (HK.out _).mono ?_
  rintro e w1 ⟨x, rfl, hal, hxs, b1⟩
  have T1 := Lib.hid (T0.out.call b1)
  have HQ := Lib.hid hal
  have HS := Lib.hid hxs
  clear b1 hal hxs
  clear a0 a1 a2 a3 af z0 z1 z2 z3 zf
  have a0 := T1.out.a.c0; have a1 := T1.out.a.c1; have a2 := T1.out.a.c2; have a3 := T1.out.a.c3; have af := T1.out.a.fr
  have z0 := T1.out.b.c0; have z1 := T1.out.b.c1; have z2 := T1.out.b.c2; have z3 := T1.out.b.c3; have zf := T1.out.b.fr
  have S1 := Lib.hid (T1.out.setB x)
  try simp only []
  repeat (first | go_values | go_skip | go_guarded | go_step | go_upon)
  exact bodyPost_ret (cur_res1 Try.underlying28 rfl (by kernel_rfl) Try.results10 S1.out.b (by kernel_rfl)) rfl ⟨x, rfl, HQ.out, HS.out, S1.out.k⟩
set_option maxHeartbeats 1000000 in
theorem rvalue_9 {c r D : CS} (ha : Alike c r) (hs : r.s.size ≤ 140737488351232) (w : World) (deep : Int) (hd : 0 ≤ deep ∧ deep < 32)
    (HE : Hid (∀ (x : CS) (w : World), Alike c.lTo x → x.s = r.s → Calls Try.prog 35 #[.agg #[.string x.s, .int .i64 x.at_, .int .i64 x.en, .int .i64 x.er], .int .i64 (c.lCt : Nat), .int .u8 (c.lKd : Nat), .int .u8 0, .int .i64 (deep + 1)] w fun e w' => ∃ d, e = .returned (.agg #[.string d.s, .int .i64 d.at_, .int .i64 d.en, .int .i64 d.er]) ∧ Alike D d ∧ d.s = x.s ∧ Below w.heap.size w w')) :
    Calls Try.prog 10 #[.agg #[.string r.s, .int .i64 r.at_, .int .i64 r.en, .int .i64 r.er], .int .u8 9, .int .i64 deep] w fun e w' => ∃ d, e = .returned (.agg #[.string d.s, .int .i64 d.at_, .int .i64 d.en, .int .i64 d.er]) ∧ Alike D d ∧ d.s = r.s ∧ Below w.heap.size w w' := by
  have HI : Hid (∀ w, Calls Try.prog 27 #[.int .u8 9] w fun e w' => e = .returned (.bool true) ∧ w' = w) := Lib.hid fun w => ris_any 9 w
  have HH : Hid (∀ w, Calls Try.prog 29 #[.int .u8 9] w fun e w' => e = .returned (.bool true) ∧ w' = w) := Lib.hid fun w => rholds_any 9 w
  have p1 : decide ((32 : Int) ≤ deep) = false := decide_eq_false (by omega)
  have m1 : IntKind.i64.wrap (deep + 1) = deep + 1 := IntWalk.i64_in _ (by omega)
  have HK := Lib.hid (fun w => rlist_any ha hs w)
  obtain ⟨n, hn⟩ : ∃ n, n = c.lCt := ⟨_, rfl⟩
  rw [← hn] at HK HE
  clear hn
  obtain ⟨a, ha⟩ : ∃ a, a = c.lKd := ⟨_, rfl⟩
  rw [← ha] at HK HE
  clear ha
  obtain ⟨c1, hc1⟩ : ∃ x, x = c.lTo := ⟨_, rfl⟩
  rw [← hc1] at HK HE
  clear hc1
  clear ha hs hd
  have T0 := Lib.hid (R2.start w r)
  go_enter Try.func10, Try.ntmps10
  have a0 := T0.out.a.c0; have a1 := T0.out.a.c1; have a2 := T0.out.a.c2; have a3 := T0.out.a.c3; have af := T0.out.a.fr
  have z0 := T0.out.b.c0; have z1 := T0.out.b.c1; have z2 := T0.out.b.c2; have z3 := T0.out.b.c3; have zf := T0.out.b.fr
  go_wp2_with fail
  with_reducible refine (HI.out _).mono ?_
  rintro e w' ⟨rfl, hww⟩
  rw [hww]
  clear hww
  go_wp2_with fail
  with_reducible refine (HH.out _).mono ?_
  rintro e w' ⟨rfl, hww⟩
  rw [hww]
  clear hww
  go_wp2_with fail
  with_reducible refine (HK.out _).mono ?_
  rintro e w1 ⟨x, rfl, hal, hxs, b1⟩
  have T1 := Lib.hid (T0.out.call b1)
  have HA1 := Lib.hid hal
  have HD1 := Lib.hid hxs
  have q := cur_alloc (w := w1) (c := x) 28
  have T2 := Lib.hid (T1.out.alloc (.cells #[.string x.s, .int .i64 x.at_, .int .i64 x.en, .int .i64 x.er] 28))
  clear b1 hal hxs
  clear a0 a1 a2 a3 af z0 z1 z2 z3 zf
  have a0 := T2.out.a.c0; have a1 := T2.out.a.c1; have a2 := T2.out.a.c2; have a3 := T2.out.a.c3; have af := T2.out.a.fr
  have z0 := T2.out.b.c0; have z1 := T2.out.b.c1; have z2 := T2.out.b.c2; have z3 := T2.out.b.c3; have zf := T2.out.b.fr
  have q0 := q.c0; have q1 := q.c1; have q2 := q.c2; have q3 := q.c3
  go_wp2_with fail
  with_reducible refine (HE.out x _ HA1.out HD1.out).mono ?_
  clear q q0 q1 q2 q3
  rintro e w3 ⟨y, rfl, hal3, hys, b3⟩
  have T3 := Lib.hid (T2.out.call b3)
  have HQ := Lib.hid hal3
  have HS := Lib.hid (hys.trans HD1.out)
  clear b3 hal3 hys
  clear a0 a1 a2 a3 af z0 z1 z2 z3 zf
  have a0 := T3.out.a.c0; have a1 := T3.out.a.c1; have a2 := T3.out.a.c2; have a3 := T3.out.a.c3; have af := T3.out.a.fr
  have z0 := T3.out.b.c0; have z1 := T3.out.b.c1; have z2 := T3.out.b.c2; have z3 := T3.out.b.c3; have zf := T3.out.b.fr
  have S1 := Lib.hid (T3.out.setB y)
  try simp only []
  repeat (first | go_values | go_skip | go_guarded | go_step | go_upon)
  exact bodyPost_ret (cur_res1 Try.underlying28 rfl (by kernel_rfl) Try.results10 S1.out.b (by kernel_rfl)) rfl ⟨y, rfl, HQ.out, HS.out, S1.out.k⟩
set_option maxHeartbeats 1000000 in
theorem rvalue_10 {c r D : CS} (ha : Alike c r) (hs : r.s.size ≤ 140737488351232) (w : World) (deep : Int) (hd : 0 ≤ deep ∧ deep < 32)
    (HE : Hid (∀ (x : CS) (w : World), Alike c.lTo x → x.s = r.s → Calls Try.prog 35 #[.agg #[.string x.s, .int .i64 x.at_, .int .i64 x.en, .int .i64 x.er], .int .i64 (c.lCt : Nat), .int .u8 (c.lKd : Nat), .int .u8 0, .int .i64 (deep + 1)] w fun e w' => ∃ d, e = .returned (.agg #[.string d.s, .int .i64 d.at_, .int .i64 d.en, .int .i64 d.er]) ∧ Alike D d ∧ d.s = x.s ∧ Below w.heap.size w w')) :
    Calls Try.prog 10 #[.agg #[.string r.s, .int .i64 r.at_, .int .i64 r.en, .int .i64 r.er], .int .u8 10, .int .i64 deep] w fun e w' => ∃ d, e = .returned (.agg #[.string d.s, .int .i64 d.at_, .int .i64 d.en, .int .i64 d.er]) ∧ Alike D d ∧ d.s = r.s ∧ Below w.heap.size w w' := by
  have HI : Hid (∀ w, Calls Try.prog 27 #[.int .u8 10] w fun e w' => e = .returned (.bool true) ∧ w' = w) := Lib.hid fun w => ris_any 10 w
  have HH : Hid (∀ w, Calls Try.prog 29 #[.int .u8 10] w fun e w' => e = .returned (.bool true) ∧ w' = w) := Lib.hid fun w => rholds_any 10 w
  have p1 : decide ((32 : Int) ≤ deep) = false := decide_eq_false (by omega)
  have m1 : IntKind.i64.wrap (deep + 1) = deep + 1 := IntWalk.i64_in _ (by omega)
  have HK := Lib.hid (fun w => rlist_any ha hs w)
  obtain ⟨n, hn⟩ : ∃ n, n = c.lCt := ⟨_, rfl⟩
  rw [← hn] at HK HE
  clear hn
  obtain ⟨a, ha⟩ : ∃ a, a = c.lKd := ⟨_, rfl⟩
  rw [← ha] at HK HE
  clear ha
  obtain ⟨c1, hc1⟩ : ∃ x, x = c.lTo := ⟨_, rfl⟩
  rw [← hc1] at HK HE
  clear hc1
  clear ha hs hd
  have T0 := Lib.hid (R2.start w r)
  go_enter Try.func10, Try.ntmps10
  have a0 := T0.out.a.c0; have a1 := T0.out.a.c1; have a2 := T0.out.a.c2; have a3 := T0.out.a.c3; have af := T0.out.a.fr
  have z0 := T0.out.b.c0; have z1 := T0.out.b.c1; have z2 := T0.out.b.c2; have z3 := T0.out.b.c3; have zf := T0.out.b.fr
  go_wp2_with fail
  with_reducible refine (HI.out _).mono ?_
  rintro e w' ⟨rfl, hww⟩
  rw [hww]
  clear hww
  go_wp2_with fail
  with_reducible refine (HH.out _).mono ?_
  rintro e w' ⟨rfl, hww⟩
  rw [hww]
  clear hww
  go_wp2_with fail
  with_reducible refine (HK.out _).mono ?_
  rintro e w1 ⟨x, rfl, hal, hxs, b1⟩
  have T1 := Lib.hid (T0.out.call b1)
  have HA1 := Lib.hid hal
  have HD1 := Lib.hid hxs
  have q := cur_alloc (w := w1) (c := x) 28
  have T2 := Lib.hid (T1.out.alloc (.cells #[.string x.s, .int .i64 x.at_, .int .i64 x.en, .int .i64 x.er] 28))
  clear b1 hal hxs
  clear a0 a1 a2 a3 af z0 z1 z2 z3 zf
  have a0 := T2.out.a.c0; have a1 := T2.out.a.c1; have a2 := T2.out.a.c2; have a3 := T2.out.a.c3; have af := T2.out.a.fr
  have z0 := T2.out.b.c0; have z1 := T2.out.b.c1; have z2 := T2.out.b.c2; have z3 := T2.out.b.c3; have zf := T2.out.b.fr
  have q0 := q.c0; have q1 := q.c1; have q2 := q.c2; have q3 := q.c3
  go_wp2_with fail
  with_reducible refine (HE.out x _ HA1.out HD1.out).mono ?_
  clear q q0 q1 q2 q3
  rintro e w3 ⟨y, rfl, hal3, hys, b3⟩
  have T3 := Lib.hid (T2.out.call b3)
  have HQ := Lib.hid hal3
  have HS := Lib.hid (hys.trans HD1.out)
  clear b3 hal3 hys
  clear a0 a1 a2 a3 af z0 z1 z2 z3 zf
  have a0 := T3.out.a.c0; have a1 := T3.out.a.c1; have a2 := T3.out.a.c2; have a3 := T3.out.a.c3; have af := T3.out.a.fr
  have z0 := T3.out.b.c0; have z1 := T3.out.b.c1; have z2 := T3.out.b.c2; have z3 := T3.out.b.c3; have zf := T3.out.b.fr
  have S1 := Lib.hid (T3.out.setB y)
  try simp only []
  repeat (first | go_values | go_skip | go_guarded | go_step | go_upon)
  exact bodyPost_ret (cur_res1 Try.underlying28 rfl (by kernel_rfl) Try.results10 S1.out.b (by kernel_rfl)) rfl ⟨y, rfl, HQ.out, HS.out, S1.out.k⟩
set_option maxHeartbeats 1000000 in
theorem rvalue_11 {c r D : CS} (ha : Alike c r) (hs : r.s.size ≤ 140737488351232) (w : World) (deep : Int) (hd : 0 ≤ deep ∧ deep < 32)
    (HE : Hid (∀ (x : CS) (w : World), Alike c.mTo x → x.s = r.s → Calls Try.prog 35 #[.agg #[.string x.s, .int .i64 x.at_, .int .i64 x.en, .int .i64 x.er], .int .i64 (c.mCt : Nat), .int .u8 (c.mKy : Nat), .int .u8 (c.mVl : Nat), .int .i64 (deep + 1)] w fun e w' => ∃ d, e = .returned (.agg #[.string d.s, .int .i64 d.at_, .int .i64 d.en, .int .i64 d.er]) ∧ Alike D d ∧ d.s = x.s ∧ Below w.heap.size w w')) :
    Calls Try.prog 10 #[.agg #[.string r.s, .int .i64 r.at_, .int .i64 r.en, .int .i64 r.er], .int .u8 11, .int .i64 deep] w fun e w' => ∃ d, e = .returned (.agg #[.string d.s, .int .i64 d.at_, .int .i64 d.en, .int .i64 d.er]) ∧ Alike D d ∧ d.s = r.s ∧ Below w.heap.size w w' := by
  have HI : Hid (∀ w, Calls Try.prog 27 #[.int .u8 11] w fun e w' => e = .returned (.bool true) ∧ w' = w) := Lib.hid fun w => ris_any 11 w
  have HH : Hid (∀ w, Calls Try.prog 29 #[.int .u8 11] w fun e w' => e = .returned (.bool true) ∧ w' = w) := Lib.hid fun w => rholds_any 11 w
  have p1 : decide ((32 : Int) ≤ deep) = false := decide_eq_false (by omega)
  have m1 : IntKind.i64.wrap (deep + 1) = deep + 1 := IntWalk.i64_in _ (by omega)
  have HK := Lib.hid (fun w => rmap_any ha hs w)
  obtain ⟨n, hn⟩ : ∃ n, n = c.mCt := ⟨_, rfl⟩
  rw [← hn] at HK HE
  clear hn
  obtain ⟨a, ha⟩ : ∃ a, a = c.mKy := ⟨_, rfl⟩
  rw [← ha] at HK HE
  clear ha
  obtain ⟨b, hb⟩ : ∃ b, b = c.mVl := ⟨_, rfl⟩
  rw [← hb] at HK HE
  clear hb
  obtain ⟨c1, hc1⟩ : ∃ x, x = c.mTo := ⟨_, rfl⟩
  rw [← hc1] at HK HE
  clear hc1
  clear ha hs hd
  have T0 := Lib.hid (R2.start w r)
  go_enter Try.func10, Try.ntmps10
  have a0 := T0.out.a.c0; have a1 := T0.out.a.c1; have a2 := T0.out.a.c2; have a3 := T0.out.a.c3; have af := T0.out.a.fr
  have z0 := T0.out.b.c0; have z1 := T0.out.b.c1; have z2 := T0.out.b.c2; have z3 := T0.out.b.c3; have zf := T0.out.b.fr
  go_wp2_with fail
  with_reducible refine (HI.out _).mono ?_
  rintro e w' ⟨rfl, hww⟩
  rw [hww]
  clear hww
  go_wp2_with fail
  with_reducible refine (HH.out _).mono ?_
  rintro e w' ⟨rfl, hww⟩
  rw [hww]
  clear hww
  go_wp2_with fail
  with_reducible refine (HK.out _).mono ?_
  rintro e w1 ⟨x, rfl, hal, hxs, b1⟩
  have T1 := Lib.hid (T0.out.call b1)
  have HA1 := Lib.hid hal
  have HD1 := Lib.hid hxs
  have q := cur_alloc (w := w1) (c := x) 28
  have T2 := Lib.hid (T1.out.alloc (.cells #[.string x.s, .int .i64 x.at_, .int .i64 x.en, .int .i64 x.er] 28))
  clear b1 hal hxs
  clear a0 a1 a2 a3 af z0 z1 z2 z3 zf
  have a0 := T2.out.a.c0; have a1 := T2.out.a.c1; have a2 := T2.out.a.c2; have a3 := T2.out.a.c3; have af := T2.out.a.fr
  have z0 := T2.out.b.c0; have z1 := T2.out.b.c1; have z2 := T2.out.b.c2; have z3 := T2.out.b.c3; have zf := T2.out.b.fr
  have q0 := q.c0; have q1 := q.c1; have q2 := q.c2; have q3 := q.c3
  go_wp2_with fail
  with_reducible refine (HE.out x _ HA1.out HD1.out).mono ?_
  clear q q0 q1 q2 q3
  rintro e w3 ⟨y, rfl, hal3, hys, b3⟩
  have T3 := Lib.hid (T2.out.call b3)
  have HQ := Lib.hid hal3
  have HS := Lib.hid (hys.trans HD1.out)
  clear b3 hal3 hys
  clear a0 a1 a2 a3 af z0 z1 z2 z3 zf
  have a0 := T3.out.a.c0; have a1 := T3.out.a.c1; have a2 := T3.out.a.c2; have a3 := T3.out.a.c3; have af := T3.out.a.fr
  have z0 := T3.out.b.c0; have z1 := T3.out.b.c1; have z2 := T3.out.b.c2; have z3 := T3.out.b.c3; have zf := T3.out.b.fr
  have S1 := Lib.hid (T3.out.setB y)
  try simp only []
  repeat (first | go_values | go_skip | go_guarded | go_step | go_upon)
  exact bodyPost_ret (cur_res1 Try.underlying28 rfl (by kernel_rfl) Try.results10 S1.out.b (by kernel_rfl)) rfl ⟨y, rfl, HQ.out, HS.out, S1.out.k⟩
end Go.Proofs.Ytmaojbhpnflbcaa
