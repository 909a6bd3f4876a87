/- Package chead: ListHead, MapHead. -/
import Derived.Test.YtmcklfndnjagiaaDoorChB
namespace Go.Proofs.YtmcklfndnjagiaaDoor
open Go Go.RowKit
set_option linter.unusedVariables false

theorem count_l {b : Nat} {c d : CS} {u : Nat} {W : Int} {w : World} (hd : Hid (d = c.want (decide (u ≤ 2147483647)) 4)) (hW : Hid (W = wrap64 (u : Int))) (h : CurT 105 w b c) :
    Calls Tryd.prog 103 #[.pointer (some ⟨b, 0, none⟩), .int .u64 (u : Nat)] w fun e w' => e = .returned (.int .i64 W) ∧ CurT 105 w' b d ∧ Only b w w' := by
  rw [hd.out, hW.out]; exact count_any h u
theorem ret_iff {a c : Int} {b d x y : Int} (h : a = c) (k : b = d) (l : x = y) : Ending.returned (.tuple #[.int .i64 a, .int .u8 b, .int .u8 x]) = .returned (.tuple #[.int .i64 c, .int .u8 d, .int .u8 y]) := by rw [h, k, l]
theorem wrap64_nat {u : Nat} (h : u ≤ 2147483647) : wrap64 (u : Int) = (u : Int) := by unfold wrap64; omega
theorem wrap64_zero {u : Nat} (h : u < 18446744073709551616) : (wrap64 (u : Int) = 0) = (u = 0) := by unfold wrap64; apply propext; omega
theorem CS.want4 {c : CS} {u : Nat} (h : (c.want (decide (u ≤ 2147483647)) 4).er = 0) : u ≤ 2147483647 := by
  by_cases hu : u ≤ 2147483647
  · exact hu
  · rw [decide_eq_false hu, CS.want_no] at h
    exfalso
    unfold CS.fail at h
    split at h
    · simp at h
    · exact absurd h ‹_›

set_option maxHeartbeats 1000000 in
theorem list_short {b : Nat} {c : CS} {w : World} (h : CurT 105 w b c) (hc : c.ok) (hq : ¬ c.pB / 16 = 15) :
    Calls Tryd.prog 100 #[.pointer (some ⟨b, 0, none⟩)] w fun e w' => e = .returned (.tuple #[.int .i64 (c.lCt : Nat), .int .u8 (c.lKd : Nat)]) ∧ CurT 105 w' b c.lTo ∧ Only b w w' := by
  obtain ⟨x, hx⟩ : ∃ x, x = c.pB := ⟨_, rfl⟩
  have hx8 : x < 256 := by rw [hx]; exact (CS.peekB_nat c).2
  obtain ⟨c1, hc1⟩ : ∃ d, d = c.byte := ⟨_, rfl⟩
  have HB := Lib.hid (fun w (h : CurT 105 w b c) => byte_l (Lib.hid hc1) (Lib.hid hx) h hc)
  obtain ⟨q, hqe⟩ : ∃ q, q = x / 16 := ⟨_, rfl⟩
  obtain ⟨r, hre⟩ : ∃ r, r = x % 16 := ⟨_, rfl⟩
  obtain ⟨k, hk⟩ : ∃ k, k = kB r := ⟨_, rfl⟩
  have HI := Lib.hid (fun w => isk_l (Lib.hid hk) w)
  obtain ⟨c2, hc2⟩ : ∃ d, d = c1.want k 7 := ⟨_, rfl⟩
  have HW := Lib.hid (fun w (h : CurT 105 w b c1) => want_l (Lib.hid hc2) h)
  have e2 : c.hK = c2 := by rw [hc2, hc1, hk, hre, hx]; rfl
  have hN : c.lC = c2 ∧ c.lN = q := by
    unfold CS.lC CS.lN
    rw [if_neg hq, if_neg hq, e2, hqe, hx]; exact ⟨rfl, rfl⟩
  obtain ⟨c4, hc4⟩ : ∃ d, d = c2.want (decide (q ≤ 2147483647)) 4 := ⟨_, rfl⟩
  obtain ⟨W, hW⟩ : ∃ W, W = wrap64 (q : Int) := ⟨_, rfl⟩
  have HC := Lib.hid (fun w (h : CurT 105 w b c2) => count_l (Lib.hid hc4) (Lib.hid hW) h)
  have hT : c.lTo = c4 := by unfold CS.lTo; rw [hN.1, hN.2, hc4]
  have HE := Lib.hid (fun w (h : CurT 105 w b c4) => err_any h)
  have HT := Lib.hid hT
  have m1 : (x : Int).tmod 16 = (r : Int) := by rw [Int.tmod_eq_emod_of_nonneg (by omega)]; omega
  have m1' : (x : Int) % 16 = (r : Int) := by omega
  have m2 : (x : Int) / 16 = (q : Int) := by omega
  have m2' : (x : Int).tdiv 16 = (q : Int) := by rw [Int.tdiv_eq_ediv_of_nonneg (by omega)]; omega
  have m3 : IntKind.u64.wrap (q : Int) = (q : Int) := IntWalk.u64_in _ (by omega)
  have m5 : IntKind.u8.wrap (q : Int) = (q : Int) := IntWalk.u8_in _ (by omega)
  have m6 : IntKind.u8.wrap (r : Int) = (r : Int) := IntWalk.u8_in _ (by omega)
  have hqn : ¬ q = 15 := by rw [hqe, hx]; exact hq
  have p1 : ((q : Int) == 15) = false := beq_eq_false_iff_ne.mpr (by omega)
  have p1' : (q == 15) = false := beq_eq_false_iff_ne.mpr hqn
  clear hqn
  by_cases he : c4.er = 0
  · have hu3 : q ≤ 2147483647 := CS.want4 (by rw [← hc4]; exact he)
    have HR := Lib.hid (show (c.lCt : Int) = W ∧ c.lKd = r by
      unfold CS.lCt CS.lKd
      rw [hT, if_pos he, if_pos he, hN.2, hre, hx, hW, wrap64_nat hu3]; exact ⟨rfl, rfl⟩)
    have p2 : (c4.er != 0) = false := by rw [he]; rfl
    clear hN hT e2 hx hc1 hc2 hc4 hk hqe hre hW hq hc hx8 he
    go_enter Tryd.func100, Tryd.ntmps100
    go_wp2_with fail
    with_reducible refine (HB.out _ h).mono ?_
    rintro e w1 ⟨rfl, h1, o1⟩
    go_wp2_with fail
    with_reducible refine (HI.out _).mono ?_
    rintro e w1 ⟨rfl, rfl⟩
    go_wp2_with fail
    with_reducible refine (HW.out _ h1).mono ?_
    rintro e w2 ⟨rfl, h2, o2⟩
    have O2 := Lib.hid (o1.trans o2)
    clear o1 o2 h1
    go_wp2_with fail
    with_reducible refine (HC.out _ h2).mono ?_
    rintro e w4 ⟨rfl, h4, o4⟩
    have O4 := Lib.hid (O2.out.trans o4)
    clear o4
    go_wp2_with fail
    with_reducible refine (HE.out _ h4).mono ?_
    rintro e w1 ⟨rfl, rfl⟩
    go_wp2
    go_ret2
    exact ⟨ret_if HR.out.1.symm (by rw [HR.out.2]), by rw [HT.out]; exact h4, O4.out⟩
  · have HR := Lib.hid (show c.lCt = 0 ∧ c.lKd = 0 by
      unfold CS.lCt CS.lKd
      rw [hT, if_neg he, if_neg he]; exact ⟨rfl, rfl⟩)
    have p2 : (c4.er != 0) = true := by simp [he]
    clear hN hT e2 hx hc1 hc2 hc4 hk hqe hre hW hq hc hx8 he
    go_enter Tryd.func100, Tryd.ntmps100
    go_wp2_with fail
    with_reducible refine (HB.out _ h).mono ?_
    rintro e w1 ⟨rfl, h1, o1⟩
    go_wp2_with fail
    with_reducible refine (HI.out _).mono ?_
    rintro e w1 ⟨rfl, rfl⟩
    go_wp2_with fail
    with_reducible refine (HW.out _ h1).mono ?_
    rintro e w2 ⟨rfl, h2, o2⟩
    have O2 := Lib.hid (o1.trans o2)
    clear o1 o2 h1
    go_wp2_with fail
    with_reducible refine (HC.out _ h2).mono ?_
    rintro e w4 ⟨rfl, h4, o4⟩
    have O4 := Lib.hid (O2.out.trans o4)
    clear o4
    go_wp2_with fail
    with_reducible refine (HE.out _ h4).mono ?_
    rintro e w1 ⟨rfl, rfl⟩
    go_wp2
    go_ret2
    exact ⟨ret_if (by rw [HR.out.1]; rfl) (by rw [HR.out.2]; rfl), by rw [HT.out]; exact h4, O4.out⟩

set_option maxHeartbeats 1000000 in
theorem list_long {b : Nat} {c : CS} {w : World} (h : CurT 105 w b c) (hc : c.ok) (hq : c.pB / 16 = 15) :
    Calls Tryd.prog 100 #[.pointer (some ⟨b, 0, none⟩)] w fun e w' => e = .returned (.tuple #[.int .i64 (c.lCt : Nat), .int .u8 (c.lKd : Nat)]) ∧ CurT 105 w' b c.lTo ∧ Only b w w' := by
  obtain ⟨x, hx⟩ : ∃ x, x = c.pB := ⟨_, rfl⟩
  have hx8 : x < 256 := by rw [hx]; exact (CS.peekB_nat c).2
  obtain ⟨c1, hc1⟩ : ∃ d, d = c.byte := ⟨_, rfl⟩
  have HB := Lib.hid (fun w (h : CurT 105 w b c) => byte_l (Lib.hid hc1) (Lib.hid hx) h hc)
  obtain ⟨q, hqe⟩ : ∃ q, q = x / 16 := ⟨_, rfl⟩
  obtain ⟨r, hre⟩ : ∃ r, r = x % 16 := ⟨_, rfl⟩
  obtain ⟨k, hk⟩ : ∃ k, k = kB r := ⟨_, rfl⟩
  have HI := Lib.hid (fun w => isk_l (Lib.hid hk) w)
  obtain ⟨c2, hc2⟩ : ∃ d, d = c1.want k 7 := ⟨_, rfl⟩
  have HW := Lib.hid (fun w (h : CurT 105 w b c1) => want_l (Lib.hid hc2) h)
  have e2 : c.hK = c2 := by rw [hc2, hc1, hk, hre, hx]; rfl
  have hok2 : c2.ok := by rw [← e2]; exact CS.hK_ok hc
  obtain ⟨c3, hc3⟩ : ∃ d, d = c2.vTo := ⟨_, rfl⟩
  obtain ⟨u, hu⟩ : ∃ u, u = c2.vVal := ⟨_, rfl⟩
  have hu64 : u < 18446744073709551616 := by rw [hu]; exact CS.vVal_lt c2
  have HV := Lib.hid (fun w (h : CurT 105 w b c2) => vrd_l (Lib.hid hc3) (Lib.hid hu) h (Lib.hid hok2))
  have hN : c.lC = c3 ∧ c.lN = u := by
    unfold CS.lC CS.lN
    rw [if_pos hq, if_pos hq, e2, hu, hc3]; exact ⟨rfl, rfl⟩
  obtain ⟨c4, hc4⟩ : ∃ d, d = c3.want (decide (u ≤ 2147483647)) 4 := ⟨_, rfl⟩
  obtain ⟨W, hW⟩ : ∃ W, W = wrap64 (u : Int) := ⟨_, rfl⟩
  have HC := Lib.hid (fun w (h : CurT 105 w b c3) => count_l (Lib.hid hc4) (Lib.hid hW) h)
  have hT : c.lTo = c4 := by unfold CS.lTo; rw [hN.1, hN.2, hc4]
  have HE := Lib.hid (fun w (h : CurT 105 w b c4) => err_any h)
  have HT := Lib.hid hT
  have m1 : (x : Int).tmod 16 = (r : Int) := by rw [Int.tmod_eq_emod_of_nonneg (by omega)]; omega
  have m1' : (x : Int) % 16 = (r : Int) := by omega
  have m2 : (x : Int) / 16 = (q : Int) := by omega
  have m2' : (x : Int).tdiv 16 = (q : Int) := by rw [Int.tdiv_eq_ediv_of_nonneg (by omega)]; omega
  have m3 : IntKind.u64.wrap (q : Int) = (q : Int) := IntWalk.u64_in _ (by omega)
  have m5 : IntKind.u8.wrap (q : Int) = (q : Int) := IntWalk.u8_in _ (by omega)
  have m6 : IntKind.u8.wrap (r : Int) = (r : Int) := IntWalk.u8_in _ (by omega)
  have hqn : q = 15 := by rw [hqe, hx]; exact hq
  have p1 : ((q : Int) == 15) = true := by rw [hqn]; rfl
  have p1' : (q == 15) = true := by rw [hqn]; rfl
  clear hqn
  by_cases he : c4.er = 0
  · have hu3 : u ≤ 2147483647 := CS.want4 (by rw [← hc4]; exact he)
    have HR := Lib.hid (show (c.lCt : Int) = W ∧ c.lKd = r by
      unfold CS.lCt CS.lKd
      rw [hT, if_pos he, if_pos he, hN.2, hre, hx, hW, wrap64_nat hu3]; exact ⟨rfl, rfl⟩)
    have p2 : (c4.er != 0) = false := by rw [he]; rfl
    clear hN hT e2 hx hc1 hc2 hc4 hk hqe hre hW hq hc hx8 he hc3 hu64 hok2 hu
    go_enter Tryd.func100, Tryd.ntmps100
    go_wp2_with fail
    with_reducible refine (HB.out _ h).mono ?_
    rintro e w1 ⟨rfl, h1, o1⟩
    go_wp2_with fail
    with_reducible refine (HI.out _).mono ?_
    rintro e w1 ⟨rfl, rfl⟩
    go_wp2_with fail
    with_reducible refine (HW.out _ h1).mono ?_
    rintro e w2 ⟨rfl, h2, o2⟩
    have O2 := Lib.hid (o1.trans o2)
    clear o1 o2 h1
    go_wp2_with fail
    with_reducible refine (HV.out _ h2).mono ?_
    rintro e w3 ⟨rfl, h3, o3⟩
    have O3 := Lib.hid (O2.out.trans o3)
    clear o3 h2
    go_wp2_with fail
    with_reducible refine (HC.out _ h3).mono ?_
    rintro e w4 ⟨rfl, h4, o4⟩
    have O4 := Lib.hid (O3.out.trans o4)
    clear o4
    go_wp2_with fail
    with_reducible refine (HE.out _ h4).mono ?_
    rintro e w1 ⟨rfl, rfl⟩
    go_wp2
    go_ret2
    exact ⟨ret_if HR.out.1.symm (by rw [HR.out.2]), by rw [HT.out]; exact h4, O4.out⟩
  · have HR := Lib.hid (show c.lCt = 0 ∧ c.lKd = 0 by
      unfold CS.lCt CS.lKd
      rw [hT, if_neg he, if_neg he]; exact ⟨rfl, rfl⟩)
    have p2 : (c4.er != 0) = true := by simp [he]
    clear hN hT e2 hx hc1 hc2 hc4 hk hqe hre hW hq hc hx8 he hc3 hu64 hok2 hu
    go_enter Tryd.func100, Tryd.ntmps100
    go_wp2_with fail
    with_reducible refine (HB.out _ h).mono ?_
    rintro e w1 ⟨rfl, h1, o1⟩
    go_wp2_with fail
    with_reducible refine (HI.out _).mono ?_
    rintro e w1 ⟨rfl, rfl⟩
    go_wp2_with fail
    with_reducible refine (HW.out _ h1).mono ?_
    rintro e w2 ⟨rfl, h2, o2⟩
    have O2 := Lib.hid (o1.trans o2)
    clear o1 o2 h1
    go_wp2_with fail
    with_reducible refine (HV.out _ h2).mono ?_
    rintro e w3 ⟨rfl, h3, o3⟩
    have O3 := Lib.hid (O2.out.trans o3)
    clear o3 h2
    go_wp2_with fail
    with_reducible refine (HC.out _ h3).mono ?_
    rintro e w4 ⟨rfl, h4, o4⟩
    have O4 := Lib.hid (O3.out.trans o4)
    clear o4
    go_wp2_with fail
    with_reducible refine (HE.out _ h4).mono ?_
    rintro e w1 ⟨rfl, rfl⟩
    go_wp2
    go_ret2
    exact ⟨ret_if (by rw [HR.out.1]; rfl) (by rw [HR.out.2]; rfl), by rw [HT.out]; exact h4, O4.out⟩
theorem list_any {b : Nat} {c : CS} {w : World} (h : CurT 105 w b c) (hc : c.ok) :
    Calls Tryd.prog 100 #[.pointer (some ⟨b, 0, none⟩)] w fun e w' => e = .returned (.tuple #[.int .i64 (c.lCt : Nat), .int .u8 (c.lKd : Nat)]) ∧ CurT 105 w' b c.lTo ∧ Only b w w' := by
  by_cases hq : c.pB / 16 = 15
  · exact list_long h hc hq
  · exact list_short h hc hq

set_option maxHeartbeats 1000000 in
theorem map_zero {b : Nat} {c : CS} {w : World} (h : CurT 105 w b c) (hc : c.ok) (hz : c.vVal = 0) :
    Calls Tryd.prog 102 #[.pointer (some ⟨b, 0, none⟩)] w fun e w' => e = .returned (.tuple #[.int .i64 (c.mCt : Nat), .int .u8 (c.mKy : Nat), .int .u8 (c.mVl : Nat)]) ∧ CurT 105 w' b c.mTo ∧ Only b w w' := by
  obtain ⟨c1, hc1⟩ : ∃ d, d = c.vTo := ⟨_, rfl⟩
  obtain ⟨u, hu⟩ : ∃ u, u = c.vVal := ⟨_, rfl⟩
  have hu64 : u < 18446744073709551616 := by rw [hu]; exact CS.vVal_lt c
  have HV := Lib.hid (fun w (h : CurT 105 w b c) => vrd_l (Lib.hid hc1) (Lib.hid hu) h (Lib.hid hc))
  obtain ⟨c2, hc2⟩ : ∃ d, d = c1.want (decide (u ≤ 2147483647)) 4 := ⟨_, rfl⟩
  obtain ⟨W, hW⟩ : ∃ W, W = wrap64 (u : Int) := ⟨_, rfl⟩
  have HC := Lib.hid (fun w (h : CurT 105 w b c1) => count_l (Lib.hid hc2) (Lib.hid hW) h)
  have e2 : c.sTo = c2 := by rw [hc2, hc1, hu]; rfl
  have hW0 : W = 0 := by rw [hW, hu, hz]; exact wrap64_nat (by decide)
  have p1 : (W == 0) = true := by rw [hW0]; rfl
  have HR := Lib.hid (show c.mCt = 0 ∧ c.mKy = 0 ∧ c.mVl = 0 ∧ c.mTo = c2 by
    unfold CS.mCt CS.mKy CS.mVl CS.mTo
    rw [if_pos hz, if_pos hz, if_pos hz, if_pos hz, e2]; exact ⟨rfl, rfl, rfl, rfl⟩)
  clear hW0 hW hu hz hc1 hc2 e2 hc hu64
  go_enter Tryd.func102, Tryd.ntmps102
  go_wp2_with fail
  with_reducible refine (HV.out _ h).mono ?_
  rintro e w1 ⟨rfl, h1, o1⟩
  go_wp2_with fail
  with_reducible refine (HC.out _ h1).mono ?_
  rintro e w2 ⟨rfl, h2, o2⟩
  have O2 := Lib.hid (o1.trans o2)
  clear o1 o2 h1
  go_wp2
  go_ret3
  exact ⟨ret_iff (by rw [HR.out.1]; rfl) (by rw [HR.out.2.1]; rfl) (by rw [HR.out.2.2.1]; rfl), by rw [HR.out.2.2.2]; exact h2, O2.out⟩

set_option maxHeartbeats 1000000 in
theorem map_key {b : Nat} {c : CS} {w : World} (h : CurT 105 w b c) (hc : c.ok) (hz : ¬ c.vVal = 0) (hk : kB (c.sTo.pB / 16) = true) :
    Calls Tryd.prog 102 #[.pointer (some ⟨b, 0, none⟩)] w fun e w' => e = .returned (.tuple #[.int .i64 (c.mCt : Nat), .int .u8 (c.mKy : Nat), .int .u8 (c.mVl : Nat)]) ∧ CurT 105 w' b c.mTo ∧ Only b w w' := by
  obtain ⟨c1, hc1⟩ : ∃ d, d = c.vTo := ⟨_, rfl⟩
  obtain ⟨u, hu⟩ : ∃ u, u = c.vVal := ⟨_, rfl⟩
  have hu64 : u < 18446744073709551616 := by rw [hu]; exact CS.vVal_lt c
  have HV := Lib.hid (fun w (h : CurT 105 w b c) => vrd_l (Lib.hid hc1) (Lib.hid hu) h (Lib.hid hc))
  obtain ⟨c2, hc2⟩ : ∃ d, d = c1.want (decide (u ≤ 2147483647)) 4 := ⟨_, rfl⟩
  obtain ⟨W, hW⟩ : ∃ W, W = wrap64 (u : Int) := ⟨_, rfl⟩
  have HC := Lib.hid (fun w (h : CurT 105 w b c1) => count_l (Lib.hid hc2) (Lib.hid hW) h)
  have e2 : c.sTo = c2 := by rw [hc2, hc1, hu]; rfl
  have hW0 : ¬ W = 0 := by rw [hW, wrap64_zero hu64, hu]; exact hz
  have p1 : (W == 0) = false := beq_eq_false_iff_ne.mpr hW0
  have hok2 : c2.ok := by rw [← e2]; exact CS.sTo_ok hc
  obtain ⟨x, hx⟩ : ∃ x, x = c2.pB := ⟨_, rfl⟩
  have hx8 : x < 256 := by rw [hx]; exact (CS.peekB_nat c2).2
  obtain ⟨c3, hc3⟩ : ∃ d, d = c2.byte := ⟨_, rfl⟩
  have HB := Lib.hid (fun w (h : CurT 105 w b c2) => byte_l (Lib.hid hc3) (Lib.hid hx) h hok2)
  obtain ⟨q, hqe⟩ : ∃ q, q = x / 16 := ⟨_, rfl⟩
  obtain ⟨r, hre⟩ : ∃ r, r = x % 16 := ⟨_, rfl⟩
  have hkq : true = kB q := by rw [hqe, hx, ← e2, hk]
  have HI := Lib.hid (fun w => isk_l (Lib.hid hkq) w)
  obtain ⟨k, hkr⟩ : ∃ k, k = kB r := ⟨_, rfl⟩
  have HI2 := Lib.hid (fun w => isk_l (Lib.hid hkr) w)
  obtain ⟨c4, hc4⟩ : ∃ d, d = c3.want k 7 := ⟨_, rfl⟩
  have HW := Lib.hid (fun w (h : CurT 105 w b c3) => want_l (Lib.hid hc4) h)
  have hK : c.mK = c4 := by unfold CS.mK; rw [hk, e2, ← hx, ← hre, ← hkr, hc4, hc3]; rfl
  have HE := Lib.hid (fun w (h : CurT 105 w b c4) => err_any h)
  have HT := Lib.hid (show c.mTo = c4 by unfold CS.mTo; rw [if_neg hz, hK])
  have m1 : (x : Int).tmod 16 = (r : Int) := by rw [Int.tmod_eq_emod_of_nonneg (by omega)]; omega
  have m1' : (x : Int) % 16 = (r : Int) := by omega
  have m2 : (x : Int) / 16 = (q : Int) := by omega
  have m2' : (x : Int).tdiv 16 = (q : Int) := by rw [Int.tdiv_eq_ediv_of_nonneg (by omega)]; omega
  have m5 : IntKind.u8.wrap (q : Int) = (q : Int) := IntWalk.u8_in _ (by omega)
  have m6 : IntKind.u8.wrap (r : Int) = (r : Int) := IntWalk.u8_in _ (by omega)
  by_cases he : c4.er = 0
  · have hu3 : u ≤ 2147483647 := by
      refine CS.want4 (c := c1) ?_
      rw [← hc2]
      by_cases h2 : c2.er = 0
      · exact h2
      · exfalso
        rw [hc4, hc3, (CS.byte_bad hok2 h2).1, CS.want_bad h2] at he
        exact h2 he
    have HR := Lib.hid (show (c.mCt : Int) = W ∧ c.mKy = q ∧ c.mVl = r by
      unfold CS.mCt CS.mKy CS.mVl
      rw [if_neg hz, if_neg hz, if_neg hz, hK, if_pos he, if_pos he, if_pos he, e2, ← hx, hre, hqe, hW, wrap64_nat hu3, hu]; exact ⟨rfl, rfl, rfl⟩)
    have p2 : (c4.er != 0) = false := by rw [he]; rfl
    clear hW0 hW hu hz hc1 hc2 e2 hc hu64 hok2 hx hx8 hc3 hqe hre hkq hkr hc4 hK hk he
    go_enter Tryd.func102, Tryd.ntmps102
    go_wp2_with fail
    with_reducible refine (HV.out _ h).mono ?_
    rintro e w1 ⟨rfl, h1, o1⟩
    go_wp2_with fail
    with_reducible refine (HC.out _ h1).mono ?_
    rintro e w2 ⟨rfl, h2, o2⟩
    have O2 := Lib.hid (o1.trans o2)
    clear o1 o2 h1
    go_wp2_with fail
    with_reducible refine (HB.out _ h2).mono ?_
    rintro e w3 ⟨rfl, h3, o3⟩
    have O3 := Lib.hid (O2.out.trans o3)
    clear o3 h2
    go_wp2_with fail
    with_reducible refine (HI.out _).mono ?_
    rintro e w1 ⟨rfl, rfl⟩
    go_wp2_with fail
    with_reducible refine (HI2.out _).mono ?_
    rintro e w1 ⟨rfl, rfl⟩
    go_wp2_with fail
    with_reducible refine (HW.out _ h3).mono ?_
    rintro e w4 ⟨rfl, h4, o4⟩
    have O4 := Lib.hid (O3.out.trans o4)
    clear o4 h3
    go_wp2_with fail
    with_reducible refine (HE.out _ h4).mono ?_
    rintro e w1 ⟨rfl, rfl⟩
    go_wp2
    go_ret3
    exact ⟨ret_iff HR.out.1.symm (by rw [HR.out.2.1]) (by rw [HR.out.2.2]), by rw [HT.out]; exact h4, O4.out⟩
  · have HR := Lib.hid (show c.mCt = 0 ∧ c.mKy = 0 ∧ c.mVl = 0 by
      unfold CS.mCt CS.mKy CS.mVl
      rw [if_neg hz, if_neg hz, if_neg hz, hK, if_neg he, if_neg he, if_neg he]; exact ⟨rfl, rfl, rfl⟩)
    have p2 : (c4.er != 0) = true := by simp [he]
    clear hW0 hW hu hz hc1 hc2 e2 hc hu64 hok2 hx hx8 hc3 hqe hre hkq hkr hc4 hK hk he
    go_enter Tryd.func102, Tryd.ntmps102
    go_wp2_with fail
    with_reducible refine (HV.out _ h).mono ?_
    rintro e w1 ⟨rfl, h1, o1⟩
    go_wp2_with fail
    with_reducible refine (HC.out _ h1).mono ?_
    rintro e w2 ⟨rfl, h2, o2⟩
    have O2 := Lib.hid (o1.trans o2)
    clear o1 o2 h1
    go_wp2_with fail
    with_reducible refine (HB.out _ h2).mono ?_
    rintro e w3 ⟨rfl, h3, o3⟩
    have O3 := Lib.hid (O2.out.trans o3)
    clear o3 h2
    go_wp2_with fail
    with_reducible refine (HI.out _).mono ?_
    rintro e w1 ⟨rfl, rfl⟩
    go_wp2_with fail
    with_reducible refine (HI2.out _).mono ?_
    rintro e w1 ⟨rfl, rfl⟩
    go_wp2_with fail
    with_reducible refine (HW.out _ h3).mono ?_
    rintro e w4 ⟨rfl, h4, o4⟩
    have O4 := Lib.hid (O3.out.trans o4)
    clear o4 h3
    go_wp2_with fail
    with_reducible refine (HE.out _ h4).mono ?_
    rintro e w1 ⟨rfl, rfl⟩
    go_wp2
    go_ret3
    exact ⟨ret_iff (by rw [HR.out.1]; rfl) (by rw [HR.out.2.1]; rfl) (by rw [HR.out.2.2]; rfl), by rw [HT.out]; exact h4, O4.out⟩

set_option maxHeartbeats 1000000 in
theorem map_none {b : Nat} {c : CS} {w : World} (h : CurT 105 w b c) (hc : c.ok) (hz : ¬ c.vVal = 0) (hk : kB (c.sTo.pB / 16) = false) :
    Calls Tryd.prog 102 #[.pointer (some ⟨b, 0, none⟩)] w fun e w' => e = .returned (.tuple #[.int .i64 (c.mCt : Nat), .int .u8 (c.mKy : Nat), .int .u8 (c.mVl : Nat)]) ∧ CurT 105 w' b c.mTo ∧ Only b w w' := by
  obtain ⟨c1, hc1⟩ : ∃ d, d = c.vTo := ⟨_, rfl⟩
  obtain ⟨u, hu⟩ : ∃ u, u = c.vVal := ⟨_, rfl⟩
  have hu64 : u < 18446744073709551616 := by rw [hu]; exact CS.vVal_lt c
  have HV := Lib.hid (fun w (h : CurT 105 w b c) => vrd_l (Lib.hid hc1) (Lib.hid hu) h (Lib.hid hc))
  obtain ⟨c2, hc2⟩ : ∃ d, d = c1.want (decide (u ≤ 2147483647)) 4 := ⟨_, rfl⟩
  obtain ⟨W, hW⟩ : ∃ W, W = wrap64 (u : Int) := ⟨_, rfl⟩
  have HC := Lib.hid (fun w (h : CurT 105 w b c1) => count_l (Lib.hid hc2) (Lib.hid hW) h)
  have e2 : c.sTo = c2 := by rw [hc2, hc1, hu]; rfl
  have hW0 : ¬ W = 0 := by rw [hW, wrap64_zero hu64, hu]; exact hz
  have p1 : (W == 0) = false := beq_eq_false_iff_ne.mpr hW0
  have hok2 : c2.ok := by rw [← e2]; exact CS.sTo_ok hc
  obtain ⟨x, hx⟩ : ∃ x, x = c2.pB := ⟨_, rfl⟩
  have hx8 : x < 256 := by rw [hx]; exact (CS.peekB_nat c2).2
  obtain ⟨c3, hc3⟩ : ∃ d, d = c2.byte := ⟨_, rfl⟩
  have HB := Lib.hid (fun w (h : CurT 105 w b c2) => byte_l (Lib.hid hc3) (Lib.hid hx) h hok2)
  obtain ⟨q, hqe⟩ : ∃ q, q = x / 16 := ⟨_, rfl⟩
  obtain ⟨r, hre⟩ : ∃ r, r = x % 16 := ⟨_, rfl⟩
  have hkq : false = kB q := by rw [hqe, hx, ← e2, hk]
  have HI := Lib.hid (fun w => isk_l (Lib.hid hkq) w)
  obtain ⟨k, hkr⟩ : ∃ k, k = kB r := ⟨_, rfl⟩
  have HI2 := Lib.hid (fun w => isk_l (Lib.hid hkr) w)
  obtain ⟨c4, hc4⟩ : ∃ d, d = c3.want false 7 := ⟨_, rfl⟩
  have HW := Lib.hid (fun w (h : CurT 105 w b c3) => want_l (Lib.hid hc4) h)
  have hK : c.mK = c4 := by unfold CS.mK; rw [hk, e2, ← hx, ← hre, ← hkr, hc4, hc3]; rfl
  have HE := Lib.hid (fun w (h : CurT 105 w b c4) => err_any h)
  have HT := Lib.hid (show c.mTo = c4 by unfold CS.mTo; rw [if_neg hz, hK])
  have m1 : (x : Int).tmod 16 = (r : Int) := by rw [Int.tmod_eq_emod_of_nonneg (by omega)]; omega
  have m1' : (x : Int) % 16 = (r : Int) := by omega
  have m2 : (x : Int) / 16 = (q : Int) := by omega
  have m2' : (x : Int).tdiv 16 = (q : Int) := by rw [Int.tdiv_eq_ediv_of_nonneg (by omega)]; omega
  have m5 : IntKind.u8.wrap (q : Int) = (q : Int) := IntWalk.u8_in _ (by omega)
  have m6 : IntKind.u8.wrap (r : Int) = (r : Int) := IntWalk.u8_in _ (by omega)
  by_cases he : c4.er = 0
  · have hu3 : u ≤ 2147483647 := by
      refine CS.want4 (c := c1) ?_
      rw [← hc2]
      by_cases h2 : c2.er = 0
      · exact h2
      · exfalso
        rw [hc4, hc3, (CS.byte_bad hok2 h2).1, CS.want_bad h2] at he
        exact h2 he
    have HR := Lib.hid (show (c.mCt : Int) = W ∧ c.mKy = q ∧ c.mVl = r by
      unfold CS.mCt CS.mKy CS.mVl
      rw [if_neg hz, if_neg hz, if_neg hz, hK, if_pos he, if_pos he, if_pos he, e2, ← hx, hre, hqe, hW, wrap64_nat hu3, hu]; exact ⟨rfl, rfl, rfl⟩)
    have p2 : (c4.er != 0) = false := by rw [he]; rfl
    clear hW0 hW hu hz hc1 hc2 e2 hc hu64 hok2 hx hx8 hc3 hqe hre hkq hkr hc4 hK hk he
    go_enter Tryd.func102, Tryd.ntmps102
    go_wp2_with fail
    with_reducible refine (HV.out _ h).mono ?_
    rintro e w1 ⟨rfl, h1, o1⟩
    go_wp2_with fail
    with_reducible refine (HC.out _ h1).mono ?_
    rintro e w2 ⟨rfl, h2, o2⟩
    have O2 := Lib.hid (o1.trans o2)
    clear o1 o2 h1
    go_wp2_with fail
    with_reducible refine (HB.out _ h2).mono ?_
    rintro e w3 ⟨rfl, h3, o3⟩
    have O3 := Lib.hid (O2.out.trans o3)
    clear o3 h2
    go_wp2_with fail
    with_reducible refine (HI.out _).mono ?_
    rintro e w1 ⟨rfl, rfl⟩
    go_wp2_with fail
    with_reducible refine (HW.out _ h3).mono ?_
    rintro e w4 ⟨rfl, h4, o4⟩
    have O4 := Lib.hid (O3.out.trans o4)
    clear o4 h3
    go_wp2_with fail
    with_reducible refine (HE.out _ h4).mono ?_
    rintro e w1 ⟨rfl, rfl⟩
    go_wp2
    go_ret3
    exact ⟨ret_iff HR.out.1.symm (by rw [HR.out.2.1]) (by rw [HR.out.2.2]), by rw [HT.out]; exact h4, O4.out⟩
  · have HR := Lib.hid (show c.mCt = 0 ∧ c.mKy = 0 ∧ c.mVl = 0 by
      unfold CS.mCt CS.mKy CS.mVl
      rw [if_neg hz, if_neg hz, if_neg hz, hK, if_neg he, if_neg he, if_neg he]; exact ⟨rfl, rfl, rfl⟩)
    have p2 : (c4.er != 0) = true := by simp [he]
    clear hW0 hW hu hz hc1 hc2 e2 hc hu64 hok2 hx hx8 hc3 hqe hre hkq hkr hc4 hK hk he
    go_enter Tryd.func102, Tryd.ntmps102
    go_wp2_with fail
    with_reducible refine (HV.out _ h).mono ?_
    rintro e w1 ⟨rfl, h1, o1⟩
    go_wp2_with fail
    with_reducible refine (HC.out _ h1).mono ?_
    rintro e w2 ⟨rfl, h2, o2⟩
    have O2 := Lib.hid (o1.trans o2)
    clear o1 o2 h1
    go_wp2_with fail
    with_reducible refine (HB.out _ h2).mono ?_
    rintro e w3 ⟨rfl, h3, o3⟩
    have O3 := Lib.hid (O2.out.trans o3)
    clear o3 h2
    go_wp2_with fail
    with_reducible refine (HI.out _).mono ?_
    rintro e w1 ⟨rfl, rfl⟩
    go_wp2_with fail
    with_reducible refine (HW.out _ h3).mono ?_
    rintro e w4 ⟨rfl, h4, o4⟩
    have O4 := Lib.hid (O3.out.trans o4)
    clear o4 h3
    go_wp2_with fail
    with_reducible refine (HE.out _ h4).mono ?_
    rintro e w1 ⟨rfl, rfl⟩
    go_wp2
    go_ret3
    exact ⟨ret_iff (by rw [HR.out.1]; rfl) (by rw [HR.out.2.1]; rfl) (by rw [HR.out.2.2]; rfl), by rw [HT.out]; exact h4, O4.out⟩
theorem map_any {b : Nat} {c : CS} {w : World} (h : CurT 105 w b c) (hc : c.ok) :
    Calls Tryd.prog 102 #[.pointer (some ⟨b, 0, none⟩)] w fun e w' => e = .returned (.tuple #[.int .i64 (c.mCt : Nat), .int .u8 (c.mKy : Nat), .int .u8 (c.mVl : Nat)]) ∧ CurT 105 w' b c.mTo ∧ Only b w w' := by
  by_cases hz : c.vVal = 0
  · exact map_zero h hc hz
  · rcases Bool.eq_false_or_eq_true (kB (c.sTo.pB / 16)) with hk | hk
    · exact map_key h hc hz hk
    · exact map_none h hc hz hk
end Go.Proofs.YtmcklfndnjagiaaDoor
