/- The document's own layer 21: Inner; Value and Inner by how many things these stand within. -/
import Derived.Test.YtmaojbhpnflbcaaSkU
namespace Go.Proofs.Ytmaojbhpnflbcaa
open Go Go.RowKit
set_option linter.unusedVariables false
set_option maxHeartbeats 1000000 in
theorem rinner_1good {c r : CS} (ha : Alike c r) (w : World) (deep : Int) (hq : c.pB ≤ 2) :
    Calls Try.prog 12 #[.agg #[.string r.s, .int .i64 r.at_, .int .i64 r.en, .int .i64 r.er], .int .u8 1, .int .i64 deep] w fun e w' => ∃ d, e = .returned (.agg #[.string d.s, .int .i64 d.at_, .int .i64 d.en, .int .i64 d.er]) ∧ Alike c.tru d ∧ d.s = r.s ∧ Below w.heap.size w w' := by
  have hab := ha.byte
  obtain ⟨v, hv⟩ : ∃ v, v = c.pB := ⟨_, rfl⟩
  rw [← hv] at hab hq
  obtain ⟨d, hd⟩ : ∃ d, d = r.byte := ⟨_, rfl⟩
  have HB := Lib.hid (fun w => rby_l (Lib.hid hd) (Lib.hid hab.2.1) (Lib.hid ha.2.1) w)
  rw [← hd] at hab
  have HR := Lib.hid (show c.tru = c.byte by unfold CS.tru; rw [← hv, decide_eq_true hq]; rfl)
  have HQ := Lib.hid hab.1
  have HS := Lib.hid hab.2.2
  have p1 : decide ((2 : Int) < (v : Int)) = false := decide_eq_false (by omega)
  have p1' : decide (2 < v) = false := decide_eq_false (by omega)
  clear ha hab hv hd hq
  have T0 := Lib.hid (R2.start w r)
  go_enter Try.func12, Try.ntmps12
  have a0 := T0.out.a.c0; have a1 := T0.out.a.c1; have a2 := T0.out.a.c2; have a3 := T0.out.a.c3; have af := T0.out.a.fr
  have z0 := T0.out.b.c0; have z1 := T0.out.b.c1; have z2 := T0.out.b.c2; have z3 := T0.out.b.c3; have zf := T0.out.b.fr
  go_wp2_with fail
  with_reducible refine (HB.out _).mono ?_
  rintro e w1 ⟨rfl, b1⟩
  have T1 := Lib.hid (T0.out.call b1)
  clear b1
  clear a0 a1 a2 a3 af z0 z1 z2 z3 zf
  have a0 := T1.out.a.c0; have a1 := T1.out.a.c1; have a2 := T1.out.a.c2; have a3 := T1.out.a.c3; have af := T1.out.a.fr
  have z0 := T1.out.b.c0; have z1 := T1.out.b.c1; have z2 := T1.out.b.c2; have z3 := T1.out.b.c3; have zf := T1.out.b.fr
  have S1 := Lib.hid ((T1.out.setA d).setB d)
  try simp only []
  repeat (first | go_values | go_skip | go_guarded | go_step | go_upon)
  exact bodyPost_ret (cur_res1 Try.underlying28 rfl (by kernel_rfl) Try.results12 S1.out.b (by kernel_rfl)) rfl ⟨d, rfl, by rw [HR.out]; exact HQ.out, HS.out, S1.out.k⟩
set_option maxHeartbeats 1000000 in
theorem rinner_1bad {c r : CS} (ha : Alike c r) (w : World) (deep : Int) (hq : ¬ c.pB ≤ 2) :
    Calls Try.prog 12 #[.agg #[.string r.s, .int .i64 r.at_, .int .i64 r.en, .int .i64 r.er], .int .u8 1, .int .i64 deep] w fun e w' => ∃ d, e = .returned (.agg #[.string d.s, .int .i64 d.at_, .int .i64 d.en, .int .i64 d.er]) ∧ Alike c.tru d ∧ d.s = r.s ∧ Below w.heap.size w w' := by
  have hab := ha.byte
  obtain ⟨v, hv⟩ : ∃ v, v = c.pB := ⟨_, rfl⟩
  rw [← hv] at hab hq
  obtain ⟨d, hd⟩ : ∃ d, d = r.byte := ⟨_, rfl⟩
  have HB := Lib.hid (fun w => rby_l (Lib.hid hd) (Lib.hid hab.2.1) (Lib.hid ha.2.1) w)
  rw [← hd] at hab
  have HR := Lib.hid (show c.tru = c.byte.fail 3 by unfold CS.tru; rw [← hv, decide_eq_false hq]; rfl)
  have HQ := Lib.hid (hab.1.std (Std.fail 3))
  have HS := Lib.hid (show (d.fail 3).s = r.s from ((Std.fail 3 d hab.1.2.1).2.1).trans hab.2.2)
  have HK := Lib.hid (fun w => rfl_l (r := d) (k := 3) (Lib.hid rfl) w)
  obtain ⟨x, hx⟩ : ∃ x, x = d.fail 3 := ⟨_, rfl⟩
  rw [← hx] at HK HS HQ
  have p1 : decide ((2 : Int) < (v : Int)) = true := decide_eq_true (by omega)
  have p1' : decide (2 < v) = true := decide_eq_true (by omega)
  clear ha hab hv hd hq hx
  have T0 := Lib.hid (R2.start w r)
  go_enter Try.func12, Try.ntmps12
  have a0 := T0.out.a.c0; have a1 := T0.out.a.c1; have a2 := T0.out.a.c2; have a3 := T0.out.a.c3; have af := T0.out.a.fr
  have z0 := T0.out.b.c0; have z1 := T0.out.b.c1; have z2 := T0.out.b.c2; have z3 := T0.out.b.c3; have zf := T0.out.b.fr
  go_wp2_with fail
  with_reducible refine (HB.out _).mono ?_
  rintro e w1 ⟨rfl, b1⟩
  have T1 := Lib.hid (T0.out.call b1)
  clear b1
  clear a0 a1 a2 a3 af z0 z1 z2 z3 zf
  have a0 := T1.out.a.c0; have a1 := T1.out.a.c1; have a2 := T1.out.a.c2; have a3 := T1.out.a.c3; have af := T1.out.a.fr
  have z0 := T1.out.b.c0; have z1 := T1.out.b.c1; have z2 := T1.out.b.c2; have z3 := T1.out.b.c3; have zf := T1.out.b.fr
  go_wp2_with fail
  have T2 := Lib.hid (T1.out.setA d)
  obtain ⟨w2, hw⟩ : ∃ W, W = ((((w1.setCell ⟨w.heap.size, 0, none⟩ (.string d.s)).setCell ⟨w.heap.size, 1, none⟩ (.int .i64 d.at_)).setCell ⟨w.heap.size, 2, none⟩ (.int .i64 d.en)).setCell ⟨w.heap.size, 3, none⟩ (.int .i64 d.er)) := ⟨_, rfl⟩
  rw [← hw] at T2 ⊢
  clear hw
  clear a0 a1 a2 a3 af z0 z1 z2 z3 zf
  have a0 := T2.out.a.c0; have a1 := T2.out.a.c1; have a2 := T2.out.a.c2; have a3 := T2.out.a.c3; have af := T2.out.a.fr
  have z0 := T2.out.b.c0; have z1 := T2.out.b.c1; have z2 := T2.out.b.c2; have z3 := T2.out.b.c3; have zf := T2.out.b.fr
  with_reducible refine (HK.out _).mono ?_
  rintro e w3 ⟨rfl, b3⟩
  have T3 := Lib.hid (T2.out.call b3)
  clear b3
  clear a0 a1 a2 a3 af z0 z1 z2 z3 zf
  have a0 := T3.out.a.c0; have a1 := T3.out.a.c1; have a2 := T3.out.a.c2; have a3 := T3.out.a.c3; have af := T3.out.a.fr
  have z0 := T3.out.b.c0; have z1 := T3.out.b.c1; have z2 := T3.out.b.c2; have z3 := T3.out.b.c3; have zf := T3.out.b.fr
  have S3 := Lib.hid (T3.out.setB x)
  try simp only []
  repeat (first | go_values | go_skip | go_guarded | go_step | go_upon)
  exact bodyPost_ret (cur_res1 Try.underlying28 rfl (by kernel_rfl) Try.results12 S3.out.b (by kernel_rfl)) rfl ⟨x, rfl, by rw [HR.out]; exact HQ.out, HS.out, S3.out.k⟩
set_option maxHeartbeats 1000000 in
theorem rinner_2good {c r : CS} (ha : Alike c r) (w : World) (deep : Int) (hq : c.pB ≤ 2) :
    Calls Try.prog 12 #[.agg #[.string r.s, .int .i64 r.at_, .int .i64 r.en, .int .i64 r.er], .int .u8 2, .int .i64 deep] w fun e w' => ∃ d, e = .returned (.agg #[.string d.s, .int .i64 d.at_, .int .i64 d.en, .int .i64 d.er]) ∧ Alike c.tru d ∧ d.s = r.s ∧ Below w.heap.size w w' := by
  have hab := ha.byte
  obtain ⟨v, hv⟩ : ∃ v, v = c.pB := ⟨_, rfl⟩
  rw [← hv] at hab hq
  obtain ⟨d, hd⟩ : ∃ d, d = r.byte := ⟨_, rfl⟩
  have HB := Lib.hid (fun w => rby_l (Lib.hid hd) (Lib.hid hab.2.1) (Lib.hid ha.2.1) w)
  rw [← hd] at hab
  have HR := Lib.hid (show c.tru = c.byte by unfold CS.tru; rw [← hv, decide_eq_true hq]; rfl)
  have HQ := Lib.hid hab.1
  have HS := Lib.hid hab.2.2
  have p1 : decide ((2 : Int) < (v : Int)) = false := decide_eq_false (by omega)
  have p1' : decide (2 < v) = false := decide_eq_false (by omega)
  clear ha hab hv hd hq
  have T0 := Lib.hid (R2.start w r)
  go_enter Try.func12, Try.ntmps12
  have a0 := T0.out.a.c0; have a1 := T0.out.a.c1; have a2 := T0.out.a.c2; have a3 := T0.out.a.c3; have af := T0.out.a.fr
  have z0 := T0.out.b.c0; have z1 := T0.out.b.c1; have z2 := T0.out.b.c2; have z3 := T0.out.b.c3; have zf := T0.out.b.fr
  go_wp2_with fail
  with_reducible refine (HB.out _).mono ?_
  rintro e w1 ⟨rfl, b1⟩
  have T1 := Lib.hid (T0.out.call b1)
  clear b1
  clear a0 a1 a2 a3 af z0 z1 z2 z3 zf
  have a0 := T1.out.a.c0; have a1 := T1.out.a.c1; have a2 := T1.out.a.c2; have a3 := T1.out.a.c3; have af := T1.out.a.fr
  have z0 := T1.out.b.c0; have z1 := T1.out.b.c1; have z2 := T1.out.b.c2; have z3 := T1.out.b.c3; have zf := T1.out.b.fr
  have S1 := Lib.hid ((T1.out.setA d).setB d)
  try simp only []
  repeat (first | go_values | go_skip | go_guarded | go_step | go_upon)
  exact bodyPost_ret (cur_res1 Try.underlying28 rfl (by kernel_rfl) Try.results12 S1.out.b (by kernel_rfl)) rfl ⟨d, rfl, by rw [HR.out]; exact HQ.out, HS.out, S1.out.k⟩
set_option maxHeartbeats 1000000 in
theorem rinner_2bad {c r : CS} (ha : Alike c r) (w : World) (deep : Int) (hq : ¬ c.pB ≤ 2) :
    Calls Try.prog 12 #[.agg #[.string r.s, .int .i64 r.at_, .int .i64 r.en, .int .i64 r.er], .int .u8 2, .int .i64 deep] w fun e w' => ∃ d, e = .returned (.agg #[.string d.s, .int .i64 d.at_, .int .i64 d.en, .int .i64 d.er]) ∧ Alike c.tru d ∧ d.s = r.s ∧ Below w.heap.size w w' := by
  have hab := ha.byte
  obtain ⟨v, hv⟩ : ∃ v, v = c.pB := ⟨_, rfl⟩
  rw [← hv] at hab hq
  obtain ⟨d, hd⟩ : ∃ d, d = r.byte := ⟨_, rfl⟩
  have HB := Lib.hid (fun w => rby_l (Lib.hid hd) (Lib.hid hab.2.1) (Lib.hid ha.2.1) w)
  rw [← hd] at hab
  have HR := Lib.hid (show c.tru = c.byte.fail 3 by unfold CS.tru; rw [← hv, decide_eq_false hq]; rfl)
  have HQ := Lib.hid (hab.1.std (Std.fail 3))
  have HS := Lib.hid (show (d.fail 3).s = r.s from ((Std.fail 3 d hab.1.2.1).2.1).trans hab.2.2)
  have HK := Lib.hid (fun w => rfl_l (r := d) (k := 3) (Lib.hid rfl) w)
  obtain ⟨x, hx⟩ : ∃ x, x = d.fail 3 := ⟨_, rfl⟩
  rw [← hx] at HK HS HQ
  have p1 : decide ((2 : Int) < (v : Int)) = true := decide_eq_true (by omega)
  have p1' : decide (2 < v) = true := decide_eq_true (by omega)
  clear ha hab hv hd hq hx
  have T0 := Lib.hid (R2.start w r)
  go_enter Try.func12, Try.ntmps12
  have a0 := T0.out.a.c0; have a1 := T0.out.a.c1; have a2 := T0.out.a.c2; have a3 := T0.out.a.c3; have af := T0.out.a.fr
  have z0 := T0.out.b.c0; have z1 := T0.out.b.c1; have z2 := T0.out.b.c2; have z3 := T0.out.b.c3; have zf := T0.out.b.fr
  go_wp2_with fail
  with_reducible refine (HB.out _).mono ?_
  rintro e w1 ⟨rfl, b1⟩
  have T1 := Lib.hid (T0.out.call b1)
  clear b1
  clear a0 a1 a2 a3 af z0 z1 z2 z3 zf
  have a0 := T1.out.a.c0; have a1 := T1.out.a.c1; have a2 := T1.out.a.c2; have a3 := T1.out.a.c3; have af := T1.out.a.fr
  have z0 := T1.out.b.c0; have z1 := T1.out.b.c1; have z2 := T1.out.b.c2; have z3 := T1.out.b.c3; have zf := T1.out.b.fr
  go_wp2_with fail
  have T2 := Lib.hid (T1.out.setA d)
  obtain ⟨w2, hw⟩ : ∃ W, W = ((((w1.setCell ⟨w.heap.size, 0, none⟩ (.string d.s)).setCell ⟨w.heap.size, 1, none⟩ (.int .i64 d.at_)).setCell ⟨w.heap.size, 2, none⟩ (.int .i64 d.en)).setCell ⟨w.heap.size, 3, none⟩ (.int .i64 d.er)) := ⟨_, rfl⟩
  rw [← hw] at T2 ⊢
  clear hw
  clear a0 a1 a2 a3 af z0 z1 z2 z3 zf
  have a0 := T2.out.a.c0; have a1 := T2.out.a.c1; have a2 := T2.out.a.c2; have a3 := T2.out.a.c3; have af := T2.out.a.fr
  have z0 := T2.out.b.c0; have z1 := T2.out.b.c1; have z2 := T2.out.b.c2; have z3 := T2.out.b.c3; have zf := T2.out.b.fr
  with_reducible refine (HK.out _).mono ?_
  rintro e w3 ⟨rfl, b3⟩
  have T3 := Lib.hid (T2.out.call b3)
  clear b3
  clear a0 a1 a2 a3 af z0 z1 z2 z3 zf
  have a0 := T3.out.a.c0; have a1 := T3.out.a.c1; have a2 := T3.out.a.c2; have a3 := T3.out.a.c3; have af := T3.out.a.fr
  have z0 := T3.out.b.c0; have z1 := T3.out.b.c1; have z2 := T3.out.b.c2; have z3 := T3.out.b.c3; have zf := T3.out.b.fr
  have S3 := Lib.hid (T3.out.setB x)
  try simp only []
  repeat (first | go_values | go_skip | go_guarded | go_step | go_upon)
  exact bodyPost_ret (cur_res1 Try.underlying28 rfl (by kernel_rfl) Try.results12 S3.out.b (by kernel_rfl)) rfl ⟨x, rfl, by rw [HR.out]; exact HQ.out, HS.out, S3.out.k⟩
set_option maxHeartbeats 1000000 in
theorem rinner_no {c r : CS} (ha : Alike c r) (w : World) (deep : Int) (k : Nat) (hk : trB k = false) {D : CS}
    (HK : Hid (∀ w, Calls Try.prog 10 #[.agg #[.string r.s, .int .i64 r.at_, .int .i64 r.en, .int .i64 r.er], .int .u8 (k : Nat), .int .i64 deep] w fun e w' => ∃ d, e = .returned (.agg #[.string d.s, .int .i64 d.at_, .int .i64 d.en, .int .i64 d.er]) ∧ Alike D d ∧ d.s = r.s ∧ Below w.heap.size w w')) :
    Calls Try.prog 12 #[.agg #[.string r.s, .int .i64 r.at_, .int .i64 r.en, .int .i64 r.er], .int .u8 (k : Nat), .int .i64 deep] w fun e w' => ∃ d, e = .returned (.agg #[.string d.s, .int .i64 d.at_, .int .i64 d.en, .int .i64 d.er]) ∧ Alike D d ∧ d.s = r.s ∧ Below w.heap.size w w' := by
  have h12 : ¬ k = 1 ∧ ¬ k = 2 := by
    unfold trB at hk
    simp at hk
    exact hk
  have p1 : ((k : Int) != 1) = true := by simp; omega
  have p1' : (k != 1) = true := by simp [h12.1]
  have p2 : ((k : Int) != 2) = true := by simp; omega
  have p2' : (k != 2) = true := by simp [h12.2]
  clear ha hk h12
  have T0 := Lib.hid (R2.start w r)
  go_enter Try.func12, Try.ntmps12
  have a0 := T0.out.a.c0; have a1 := T0.out.a.c1; have a2 := T0.out.a.c2; have a3 := T0.out.a.c3; have af := T0.out.a.fr
  have z0 := T0.out.b.c0; have z1 := T0.out.b.c1; have z2 := T0.out.b.c2; have z3 := T0.out.b.c3; have zf := T0.out.b.fr
  go_wp2_with fail
  with_reducible refine (HK.out _).mono ?_
  rintro e w1 ⟨x, rfl, hal, hxs, b1⟩
  have T1 := Lib.hid (T0.out.call b1)
  have HQ := Lib.hid hal
  have HS := Lib.hid hxs
  clear b1 hal hxs
  clear a0 a1 a2 a3 af z0 z1 z2 z3 zf
  have a0 := T1.out.a.c0; have a1 := T1.out.a.c1; have a2 := T1.out.a.c2; have a3 := T1.out.a.c3; have af := T1.out.a.fr
  have z0 := T1.out.b.c0; have z1 := T1.out.b.c1; have z2 := T1.out.b.c2; have z3 := T1.out.b.c3; have zf := T1.out.b.fr
  have S1 := Lib.hid (T1.out.setB x)
  try simp only []
  repeat (first | go_values | go_skip | go_guarded | go_step | go_upon)
  exact bodyPost_ret (cur_res1 Try.underlying28 rfl (by kernel_rfl) Try.results12 S1.out.b (by kernel_rfl)) rfl ⟨x, rfl, HQ.out, HS.out, S1.out.k⟩
/-- Inner, where Value is known. -/
theorem rinner_of {deep : Int} {d : Nat} (hV : RvR deep (inTo d)) : RiR deep (inTo d) := by
  intro k c r w hk ha hs
  rcases Bool.eq_false_or_eq_true (trB k) with ht | ht
  · have e : inTo d k c = c.tru := by
      have h9 : hdK k = false := by
        unfold trB at ht; simp at ht
        rcases ht with rfl | rfl <;> rfl
      rw [inTo_flat h9]; unfold flatTo; rw [if_pos ht]
    rw [e]
    have h12 : k = 1 ∨ k = 2 := by unfold trB at ht; simp at ht; exact ht
    by_cases hq : c.pB ≤ 2
    · rcases h12 with rfl | rfl
      · exact rinner_1good ha w deep hq
      · exact rinner_2good ha w deep hq
    · rcases h12 with rfl | rfl
      · exact rinner_1bad ha w deep hq
      · exact rinner_2bad ha w deep hq
  · have e : inTo d k c = valTo (inTo d) k c := by unfold valTo; rw [if_neg (by rw [ht]; decide)]
    rw [e]
    exact rinner_no ha w deep k ht (Lib.hid fun w => hV k c r w hk ha hs)
theorem CS.want_er2 {c : CS} {x : Bool} (h : (c.want x 7).er = 0) : x = true := by
  cases x
  · rw [CS.want_no] at h
    by_cases h0 : c.er = 0
    · exact absurd h (CS.bad_er h0 (by decide))
    · rw [CS.fail_fail h0] at h; exact absurd h h0
  · rfl
theorem m_none (c : CS) : c.mCt = 0 ∨ ¬ c.mVl = 0 := by
  by_cases hz : c.vVal = 0
  · left; unfold CS.mCt; rw [if_pos hz]
  · by_cases h0 : c.mK.er = 0
    · right
      unfold CS.mVl
      rw [if_neg hz, if_pos h0]
      unfold CS.mK at h0
      have hx := CS.want_er2 h0
      rw [Bool.and_eq_true] at hx
      have := kB_yes hx.2
      omega
    · left; unfold CS.mCt; rw [if_neg hz, if_neg h0]
/-- Value, of what stands within so many others. -/
theorem rvalue_step {deep : Int} (h0 : 0 ≤ deep) {n : Nat} (hr : (32 - deep).toNat = n) (hV : ∀ m, n = m + 1 → RvR (deep + 1) (inTo m)) : RvR deep (inTo n) := by
  intro k c r w hk ha hs
  have hs' : ∀ m k, Std (inTo m k) := in_std
  by_cases hk12 : 1 ≤ k ∧ k ≤ 12
  · have hcase : k = 1 ∨ k = 2 ∨ k = 3 ∨ k = 4 ∨ k = 5 ∨ k = 6 ∨ k = 7 ∨ k = 8 ∨ (9 ≤ k ∧ k ≤ 12) := by omega
    rcases hcase with rfl | rfl | rfl | rfl | rfl | rfl | rfl | rfl | hh
    · exact rvalue_1 ha hs w deep
    · exact rvalue_2 ha hs w deep
    · rw [show valTo (inTo n) 3 c = c.take 1 from inTo_flat rfl n c]; exact rvalue_3 ha hs w deep
    · rw [show valTo (inTo n) 4 c = c.vTo from inTo_flat rfl n c]; exact rvalue_4 ha hs w deep
    · rw [show valTo (inTo n) 5 c = c.vTo from inTo_flat rfl n c]; exact rvalue_5 ha hs w deep
    · rw [show valTo (inTo n) 6 c = c.vTo from inTo_flat rfl n c]; exact rvalue_6 ha hs w deep
    · rw [show valTo (inTo n) 7 c = c.take 8 from inTo_flat rfl n c]; exact rvalue_7 ha hs w deep
    · rw [show valTo (inTo n) 8 c = c.txt from inTo_flat rfl n c]; exact rvalue_8 ha hs w deep
    · have hhd : hdK k = true := by unfold hdK; rw [decide_eq_true hh.1, decide_eq_true hh.2]; rfl
      have hkb : kB k = true := by unfold kB; rw [decide_eq_true (show 1 ≤ k by omega), decide_eq_true hh.2]; rfl
      have htr : trB k = false := by unfold trB; simp; omega
      have e : valTo (inTo n) k c = inTo n k c := by unfold valTo; rw [if_neg (by rw [htr]; decide)]
      rw [e]
      cases n with
      | zero =>
        rw [inTo_deep hhd]
        exact rvalue_deep ha hs w deep k hkb hhd (by omega)
      | succ m =>
        have hV' := hV m rfl
        have hI := rinner_of hV'
        have hd : 0 ≤ deep ∧ deep < 32 := ⟨h0, by omega⟩
        rw [inTo_hold hhd]
        have hcase : k = 9 ∨ k = 10 ∨ k = 11 ∨ k = 12 := by omega
        rcases hcase with rfl | rfl | rfl | rfl
        · rw [list_more (by decide) (by decide)]
          exact rvalue_9 ha hs w deep hd (Lib.hid fun x w hx hxs => rvals_one hI (hs' m) (CS.lCt_le c) (CS.lKd_le c) hx (by rw [hxs]; exact hs) w)
        · rw [list_more (by decide) (by decide)]
          exact rvalue_10 ha hs w deep hd (Lib.hid fun x w hx hxs => rvals_one hI (hs' m) (CS.lCt_le c) (CS.lKd_le c) hx (by rw [hxs]; exact hs) w)
        · rw [show holdTo (inTo m) 11 c = eachTo (inTo m) [c.mKy, c.mVl] c.mCt c.mTo from rfl]
          refine rvalue_11 ha hs w deep hd (Lib.hid fun x w hx hxs => ?_)
          by_cases hb : c.mVl = 0
          · have hn : c.mCt = 0 := by
              rcases m_none c with h | h
              · exact h
              · exact absurd hb h
            have := rvals_one hI (hs' m) (CS.mCt_le c) (CS.mKy_le c).1 hx (by rw [hxs]; exact hs) w
            rw [hb]
            rw [hn] at this ⊢
            exact this
          · exact rvals_two hI (hs' m) (CS.mCt_le c) (CS.mKy_le c).1 (CS.mKy_le c).2 hb hx (by rw [hxs]; exact hs) w
        · rw [show holdTo (inTo m) 12 c = fldTo (inTo m) fuelN 0 c from rfl]
          exact rvalue_12 ha hs w deep hd (Lib.hid fun w => rfields_any hV' (hs' m) ha hs w)
  · have hkb : kB k = false := by
      unfold kB
      rcases Nat.lt_or_ge k 1 with h | h
      · rw [decide_eq_false (by omega)]; rfl
      · rw [decide_eq_false (show ¬ k ≤ 12 by omega), Bool.and_false]
    have h9 : hdK k = false := by
      unfold hdK
      rcases Nat.lt_or_ge k 9 with h | h
      · rw [decide_eq_false (by omega)]; rfl
      · rw [decide_eq_false (show ¬ k ≤ 12 by omega), Bool.and_false]
    have htr : trB k = false := by unfold trB; simp; omega
    have e : valTo (inTo n) k c = c.fail 7 := by
      unfold valTo
      rw [if_neg (by rw [htr]; decide), inTo_flat h9]
      unfold flatTo
      rw [if_neg (by rw [htr]; decide), if_neg (by omega), if_neg (by omega), if_neg (by omega), if_neg (by omega)]
    rw [e]
    exact rvalue_no ha hs w deep k hkb
theorem rvalue_any : ∀ (n : Nat) (deep : Int), 0 ≤ deep → (32 - deep).toNat = n → RvR deep (inTo n)
  | 0, deep, h0, hr => rvalue_step h0 hr fun m h => absurd h (by omega)
  | n + 1, deep, h0, hr => rvalue_step h0 hr fun m h => by
    obtain rfl : m = n := by omega
    exact rvalue_any m (deep + 1) (by omega) (by omega)
end Go.Proofs.Ytmaojbhpnflbcaa
