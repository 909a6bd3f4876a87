/- Package chead: Field. -/
import Derived.Test.YtmcklfndnjagiaaDoorChA
namespace Go.Proofs.YtmcklfndnjagiaaDoor
open Go Go.RowKit
set_option linter.unusedVariables false

theorem ret_if {a c : Int} {b d : Int} (h : a = c) (k : b = d) : Ending.returned (.tuple #[.int .i64 a, .int .u8 b]) = .returned (.tuple #[.int .i64 c, .int .u8 d]) := by rw [h, k]
theorem byte_l {b : Nat} {c d : CS} {x : Nat} {w : World} (hd : Hid (d = c.byte)) (hx : Hid (x = c.pB)) (h : CurT 105 w b c) (hc : c.ok) :
    Calls Tryd.prog 58 #[.pointer (some ⟨b, 0, none⟩)] w fun e w' => e = .returned (.int .u8 (x : Nat)) ∧ CurT 105 w' b d ∧ Only b w w' := by
  rw [hd.out, hx.out, ← (CS.peekB_nat c).1]; exact byte_any h hc
theorem want_l {b : Nat} {c d : CS} {x : Bool} {k : Int} {w : World} (hd : Hid (d = c.want x k)) (h : CurT 105 w b c) :
    Calls Tryd.prog 59 #[.pointer (some ⟨b, 0, none⟩), .bool x, .int .i64 k] w fun e w' => e = .returned (.tuple #[]) ∧ CurT 105 w' b d ∧ Only b w w' := by
  rw [hd.out]; exact want_any h x k
theorem vrd_l {b : Nat} {c d : CS} {u : Nat} {w : World} (hd : Hid (d = c.vTo)) (hu : Hid (u = c.vVal)) (h : CurT 105 w b c) (hc : Hid c.ok) :
    Calls Tryd.prog 62 #[.pointer (some ⟨b, 0, none⟩)] w fun e w' => e = .returned (.int .u64 (u : Nat)) ∧ CurT 105 w' b d ∧ Only b w w' := by
  rw [hd.out, hu.out]; exact vread_any h hc.out
theorem isk_l {k : Nat} {x : Bool} (hx : Hid (x = kB k)) (w : World) :
    Calls Tryd.prog 60 #[.int .u8 (k : Nat)] w fun e w' => e = .returned (.bool x) ∧ w' = w := by
  rw [hx.out]; exact is_any k w
theorem num_l {i : Int} {x : Bool} (hx : Hid (x = numB i)) (w : World) :
    Calls Tryd.prog 63 #[.int .i64 i] w fun e w' => e = .returned (.bool x) ∧ w' = w := by
  rw [hx.out]; exact is_number i w

theorem field_end {b : Nat} {c : CS} {w : World} (h : CurT 105 w b c) (hc : c.ok) (last : Int) (h0 : c.pB = 0) :
    Calls Tryd.prog 30 #[.pointer (some ⟨b, 0, none⟩), .int .i64 last] w fun e w' => e = .returned (.tuple #[.int .i64 (c.hId last), .int .u8 (c.hKd last : Nat)]) ∧ CurT 105 w' b (c.hTo last) ∧ Only b w w' := by
  have HB := Lib.hid (fun w (h : CurT 105 w b c) => byte_l (Lib.hid rfl) (Lib.hid h0.symm) h hc)
  have HR := Lib.hid (show c.hTo last = c.byte ∧ c.hId last = 0 ∧ c.hKd last = 0 by unfold CS.hTo CS.hId CS.hKd; rw [if_pos h0, if_pos h0, if_pos h0]; exact ⟨rfl, rfl, rfl⟩)
  clear h0
  generalize c.byte = d at HB HR
  go_enter Tryd.func30, Tryd.ntmps30
  go_wp2_with fail
  with_reducible refine (HB.out _ h).mono ?_
  rintro e w1 ⟨rfl, h1, o1⟩
  go_wp2
  go_ret2
  exact ⟨ret_if HR.out.2.1.symm (by rw [HR.out.2.2]; rfl), by rw [HR.out.1]; exact h1, o1⟩

set_option maxHeartbeats 1000000 in
theorem field_near {b : Nat} {c : CS} {w : World} (h : CurT 105 w b c) (hc : c.ok) (last : Int) (hl : numB last = true) (h0 : ¬ c.pB = 0) (hq : 0 < c.pB / 16) :
    Calls Tryd.prog 30 #[.pointer (some ⟨b, 0, none⟩), .int .i64 last] w fun e w' => e = .returned (.tuple #[.int .i64 (c.hId last), .int .u8 (c.hKd last : Nat)]) ∧ CurT 105 w' b (c.hTo last) ∧ Only b w w' := by
  have hn := numB_yes hl
  obtain ⟨x, hx⟩ : ∃ x, x = c.pB := ⟨_, rfl⟩
  have hx8 : x < 256 := by rw [hx]; exact (CS.peekB_nat c).2
  obtain ⟨c1, hc1⟩ : ∃ d, d = c.byte := ⟨_, rfl⟩
  have HB := Lib.hid (fun w (h : CurT 105 w b c) => byte_l (Lib.hid hc1) (Lib.hid hx) h hc)
  obtain ⟨q, hqe⟩ : ∃ q, q = x / 16 := ⟨_, rfl⟩
  obtain ⟨r, hre⟩ : ∃ r, r = x % 16 := ⟨_, rfl⟩
  obtain ⟨k, hk⟩ : ∃ k, k = kB r := ⟨_, rfl⟩
  have HI := Lib.hid (fun w => isk_l (Lib.hid hk) w)
  obtain ⟨c2, hc2⟩ : ∃ d, d = c1.want k 7 := ⟨_, rfl⟩
  have HW := Lib.hid (fun w (h : CurT 105 w b c1) => want_l (Lib.hid hc2) h)
  have e2 : c.hK = c2 := by rw [hc2, hc1, hk, hre, hx]; rfl
  obtain ⟨i, hi⟩ : ∃ i, i = last + (q : Int) := ⟨_, rfl⟩
  have hN : c.hC = c2 ∧ c.hN last = i := by
    unfold CS.hC CS.hN
    rw [if_pos hq, if_pos hq, e2, hi, hqe, hx]; exact ⟨rfl, rfl⟩
  obtain ⟨m, hm⟩ : ∃ m, m = numB i := ⟨_, rfl⟩
  have HM := Lib.hid (fun w => num_l (Lib.hid hm) w)
  obtain ⟨c4, hc4⟩ : ∃ d, d = c2.want m 4 := ⟨_, rfl⟩
  have HW2 := Lib.hid (fun w (h : CurT 105 w b c2) => want_l (Lib.hid hc4) h)
  have hT : c.hTo last = c4 := by unfold CS.hTo; rw [if_neg h0, hN.1, hN.2, hc4, hm]
  have HE := Lib.hid (fun w (h : CurT 105 w b c4) => err_any h)
  have HT := Lib.hid hT
  have p0 : ((x : Int) == 0) = false := beq_eq_false_iff_ne.mpr (by rw [hx]; omega)
  have p0' : (x == 0) = false := beq_eq_false_iff_ne.mpr (by rw [hx]; omega)
  have m1 : (x : Int).tmod 16 = (r : Int) := by rw [Int.tmod_eq_emod_of_nonneg (by omega)]; omega
  have m1' : (x : Int) % 16 = (r : Int) := by omega
  have m2 : (x : Int) / 16 = (q : Int) := by omega
  have m2' : (x : Int).tdiv 16 = (q : Int) := by rw [Int.tdiv_eq_ediv_of_nonneg (by omega)]; omega
  have m3 : IntKind.i64.wrap (q : Int) = (q : Int) := IntWalk.i64_in _ (by omega)
  have m5 : IntKind.u8.wrap (q : Int) = (q : Int) := IntWalk.u8_in _ (by omega)
  have m6 : IntKind.u8.wrap (r : Int) = (r : Int) := IntWalk.u8_in _ (by omega)
  have m7 : IntKind.i64.wrap (last + (q : Int)) = i := by rw [hi]; exact IntWalk.i64_in _ (by omega)
  have hq0 : 0 < q := by rw [hqe, hx]; exact hq
  have p1 : decide ((0 : Int) < (q : Int)) = true := decide_eq_true (by omega)
  have p1' : decide (0 < q) = true := decide_eq_true hq0
  by_cases he : c4.er = 0
  · have HR := Lib.hid (show c.hId last = i ∧ c.hKd last = r by
      unfold CS.hId CS.hKd
      rw [if_neg h0, if_neg h0, hT, if_pos he, if_pos he, hN.2, hre, hx]; exact ⟨rfl, rfl⟩)
    have p2 : (c4.er != 0) = false := by rw [he]; rfl
    clear hN hT e2 hx hc1 hc2 hc4 hm hk hqe hre hi h0 hq hl hn hc hx8 hq0
    go_enter Tryd.func30, Tryd.ntmps30
    go_wp2_with fail
    with_reducible refine (HB.out _ h).mono ?_
    rintro e w1 ⟨rfl, h1, o1⟩
    go_wp2_with fail
    with_reducible refine (HI.out _).mono ?_
    rintro e w1 ⟨rfl, rfl⟩
    go_wp2_with fail
    with_reducible refine (HW.out _ h1).mono ?_
    rintro e w2 ⟨rfl, h2, o2⟩
    have O2 := Lib.hid (o1.trans o2)
    clear o1 o2 h1
    go_wp2_with fail
    with_reducible refine (HM.out _).mono ?_
    rintro e w1 ⟨rfl, rfl⟩
    go_wp2_with fail
    with_reducible refine (HW2.out _ h2).mono ?_
    rintro e w3 ⟨rfl, h3, o3⟩
    have O3 := Lib.hid (O2.out.trans o3)
    clear o3 h2
    go_wp2_with fail
    with_reducible refine (HE.out _ h3).mono ?_
    rintro e w1 ⟨rfl, rfl⟩
    go_wp2
    go_ret2
    exact ⟨ret_if HR.out.1.symm (by rw [HR.out.2]), by rw [HT.out]; exact h3, O3.out⟩
  · have HR := Lib.hid (show c.hId last = 0 ∧ c.hKd last = 0 by
      unfold CS.hId CS.hKd
      rw [if_neg h0, if_neg h0, hT, if_neg he, if_neg he]; exact ⟨rfl, rfl⟩)
    have p2 : (c4.er != 0) = true := by simp [he]
    clear hN hT e2 hx hc1 hc2 hc4 hm hk hqe hre hi h0 hq hl hn hc hx8 hq0 he
    go_enter Tryd.func30, Tryd.ntmps30
    go_wp2_with fail
    with_reducible refine (HB.out _ h).mono ?_
    rintro e w1 ⟨rfl, h1, o1⟩
    go_wp2_with fail
    with_reducible refine (HI.out _).mono ?_
    rintro e w1 ⟨rfl, rfl⟩
    go_wp2_with fail
    with_reducible refine (HW.out _ h1).mono ?_
    rintro e w2 ⟨rfl, h2, o2⟩
    have O2 := Lib.hid (o1.trans o2)
    clear o1 o2 h1
    go_wp2_with fail
    with_reducible refine (HM.out _).mono ?_
    rintro e w1 ⟨rfl, rfl⟩
    go_wp2_with fail
    with_reducible refine (HW2.out _ h2).mono ?_
    rintro e w3 ⟨rfl, h3, o3⟩
    have O3 := Lib.hid (O2.out.trans o3)
    clear o3 h2
    go_wp2_with fail
    with_reducible refine (HE.out _ h3).mono ?_
    rintro e w1 ⟨rfl, rfl⟩
    go_wp2
    go_ret2
    exact ⟨ret_if HR.out.1.symm (by rw [HR.out.2]; rfl), by rw [HT.out]; exact h3, O3.out⟩
set_option maxHeartbeats 1000000 in
theorem field_far {b : Nat} {c : CS} {w : World} (h : CurT 105 w b c) (hc : c.ok) (last : Int) (hl : numB last = true) (h0 : ¬ c.pB = 0) (hq : ¬ 0 < c.pB / 16) :
    Calls Tryd.prog 30 #[.pointer (some ⟨b, 0, none⟩), .int .i64 last] w fun e w' => e = .returned (.tuple #[.int .i64 (c.hId last), .int .u8 (c.hKd last : Nat)]) ∧ CurT 105 w' b (c.hTo last) ∧ Only b w w' := by
  have hn := numB_yes hl
  obtain ⟨x, hx⟩ : ∃ x, x = c.pB := ⟨_, rfl⟩
  have hx8 : x < 256 := by rw [hx]; exact (CS.peekB_nat c).2
  obtain ⟨c1, hc1⟩ : ∃ d, d = c.byte := ⟨_, rfl⟩
  have HB := Lib.hid (fun w (h : CurT 105 w b c) => byte_l (Lib.hid hc1) (Lib.hid hx) h hc)
  obtain ⟨q, hqe⟩ : ∃ q, q = x / 16 := ⟨_, rfl⟩
  obtain ⟨r, hre⟩ : ∃ r, r = x % 16 := ⟨_, rfl⟩
  obtain ⟨k, hk⟩ : ∃ k, k = kB r := ⟨_, rfl⟩
  have HI := Lib.hid (fun w => isk_l (Lib.hid hk) w)
  obtain ⟨c2, hc2⟩ : ∃ d, d = c1.want k 7 := ⟨_, rfl⟩
  have HW := Lib.hid (fun w (h : CurT 105 w b c1) => want_l (Lib.hid hc2) h)
  have e2 : c.hK = c2 := by rw [hc2, hc1, hk, hre, hx]; rfl
  have hok2 : c2.ok := by rw [← e2]; exact CS.hK_ok hc
  obtain ⟨c3, hc3⟩ : ∃ d, d = c2.vTo := ⟨_, rfl⟩
  obtain ⟨u, hu⟩ : ∃ u, u = c2.vVal := ⟨_, rfl⟩
  have hu64 : u < 18446744073709551616 := by rw [hu]; exact CS.vVal_lt c2
  have HV := Lib.hid (fun w (h : CurT 105 w b c2) => vrd_l (Lib.hid hc3) (Lib.hid hu) h (Lib.hid hok2))
  obtain ⟨i, hi⟩ : ∃ i, i = zagI (u : Int) := ⟨_, rfl⟩
  have HZ := Lib.hid (fun w => zag_any (u : Int) w (by omega) (by omega))
  rw [← hi] at HZ
  have hN : c.hC = c3 ∧ c.hN last = i := by
    unfold CS.hC CS.hN
    rw [if_neg hq, if_neg hq, e2, hi, hu, hc3]; exact ⟨rfl, rfl⟩
  obtain ⟨m, hm⟩ : ∃ m, m = numB i := ⟨_, rfl⟩
  have HM := Lib.hid (fun w => num_l (Lib.hid hm) w)
  obtain ⟨c4, hc4⟩ : ∃ d, d = c3.want m 4 := ⟨_, rfl⟩
  have HW2 := Lib.hid (fun w (h : CurT 105 w b c3) => want_l (Lib.hid hc4) h)
  have hT : c.hTo last = c4 := by unfold CS.hTo; rw [if_neg h0, hN.1, hN.2, hc4, hm]
  have HE := Lib.hid (fun w (h : CurT 105 w b c4) => err_any h)
  have HT := Lib.hid hT
  have p0 : ((x : Int) == 0) = false := beq_eq_false_iff_ne.mpr (by rw [hx]; omega)
  have p0' : (x == 0) = false := beq_eq_false_iff_ne.mpr (by rw [hx]; omega)
  have m1 : (x : Int).tmod 16 = (r : Int) := by rw [Int.tmod_eq_emod_of_nonneg (by omega)]; omega
  have m1' : (x : Int) % 16 = (r : Int) := by omega
  have m2 : (x : Int) / 16 = (q : Int) := by omega
  have m2' : (x : Int).tdiv 16 = (q : Int) := by rw [Int.tdiv_eq_ediv_of_nonneg (by omega)]; omega
  have m3 : IntKind.i64.wrap (q : Int) = (q : Int) := IntWalk.i64_in _ (by omega)
  have m5 : IntKind.u8.wrap (q : Int) = (q : Int) := IntWalk.u8_in _ (by omega)
  have m6 : IntKind.u8.wrap (r : Int) = (r : Int) := IntWalk.u8_in _ (by omega)
  have hq0 : ¬ 0 < q := by rw [hqe, hx]; exact hq
  have p1 : decide ((0 : Int) < (q : Int)) = false := decide_eq_false (by omega)
  have p1' : decide (0 < q) = false := decide_eq_false hq0
  by_cases he : c4.er = 0
  · have HR := Lib.hid (show c.hId last = i ∧ c.hKd last = r by
      unfold CS.hId CS.hKd
      rw [if_neg h0, if_neg h0, hT, if_pos he, if_pos he, hN.2, hre, hx]; exact ⟨rfl, rfl⟩)
    have p2 : (c4.er != 0) = false := by rw [he]; rfl
    clear hN hT e2 hx hc1 hc2 hc3 hu hu64 hok2 hc4 hm hk hqe hre hi h0 hq hl hn hc hx8 hq0
    go_enter Tryd.func30, Tryd.ntmps30
    go_wp2_with fail
    with_reducible refine (HB.out _ h).mono ?_
    rintro e w1 ⟨rfl, h1, o1⟩
    go_wp2_with fail
    with_reducible refine (HI.out _).mono ?_
    rintro e w1 ⟨rfl, rfl⟩
    go_wp2_with fail
    with_reducible refine (HW.out _ h1).mono ?_
    rintro e w2 ⟨rfl, h2, o2⟩
    have O2 := Lib.hid (o1.trans o2)
    clear o1 o2 h1
    go_wp2_with fail
    with_reducible refine (HV.out _ h2).mono ?_
    rintro e w2b ⟨rfl, h2b, o2b⟩
    have O2b := Lib.hid (O2.out.trans o2b)
    clear o2b h2
    go_wp2_with fail
    with_reducible refine (HZ.out _).mono ?_
    rintro e w1 ⟨rfl, rfl⟩
    go_wp2_with fail
    with_reducible refine (HM.out _).mono ?_
    rintro e w1 ⟨rfl, rfl⟩
    go_wp2_with fail
    with_reducible refine (HW2.out _ h2b).mono ?_
    rintro e w3 ⟨rfl, h3, o3⟩
    have O3 := Lib.hid (O2b.out.trans o3)
    clear o3 h2b
    go_wp2_with fail
    with_reducible refine (HE.out _ h3).mono ?_
    rintro e w1 ⟨rfl, rfl⟩
    go_wp2
    go_ret2
    exact ⟨ret_if HR.out.1.symm (by rw [HR.out.2]), by rw [HT.out]; exact h3, O3.out⟩
  · have HR := Lib.hid (show c.hId last = 0 ∧ c.hKd last = 0 by
      unfold CS.hId CS.hKd
      rw [if_neg h0, if_neg h0, hT, if_neg he, if_neg he]; exact ⟨rfl, rfl⟩)
    have p2 : (c4.er != 0) = true := by simp [he]
    clear hN hT e2 hx hc1 hc2 hc3 hu hu64 hok2 hc4 hm hk hqe hre hi h0 hq hl hn hc hx8 hq0 he
    go_enter Tryd.func30, Tryd.ntmps30
    go_wp2_with fail
    with_reducible refine (HB.out _ h).mono ?_
    rintro e w1 ⟨rfl, h1, o1⟩
    go_wp2_with fail
    with_reducible refine (HI.out _).mono ?_
    rintro e w1 ⟨rfl, rfl⟩
    go_wp2_with fail
    with_reducible refine (HW.out _ h1).mono ?_
    rintro e w2 ⟨rfl, h2, o2⟩
    have O2 := Lib.hid (o1.trans o2)
    clear o1 o2 h1
    go_wp2_with fail
    with_reducible refine (HV.out _ h2).mono ?_
    rintro e w2b ⟨rfl, h2b, o2b⟩
    have O2b := Lib.hid (O2.out.trans o2b)
    clear o2b h2
    go_wp2_with fail
    with_reducible refine (HZ.out _).mono ?_
    rintro e w1 ⟨rfl, rfl⟩
    go_wp2_with fail
    with_reducible refine (HM.out _).mono ?_
    rintro e w1 ⟨rfl, rfl⟩
    go_wp2_with fail
    with_reducible refine (HW2.out _ h2b).mono ?_
    rintro e w3 ⟨rfl, h3, o3⟩
    have O3 := Lib.hid (O2b.out.trans o3)
    clear o3 h2b
    go_wp2_with fail
    with_reducible refine (HE.out _ h3).mono ?_
    rintro e w1 ⟨rfl, rfl⟩
    go_wp2
    go_ret2
    exact ⟨ret_if HR.out.1.symm (by rw [HR.out.2]; rfl), by rw [HT.out]; exact h3, O3.out⟩

theorem field_any {b : Nat} {c : CS} {w : World} (h : CurT 105 w b c) (hc : c.ok) (last : Int) (hl : numB last = true) :
    Calls Tryd.prog 30 #[.pointer (some ⟨b, 0, none⟩), .int .i64 last] w fun e w' => e = .returned (.tuple #[.int .i64 (c.hId last), .int .u8 (c.hKd last : Nat)]) ∧ CurT 105 w' b (c.hTo last) ∧ Only b w w' := by
  by_cases h0 : c.pB = 0
  · exact field_end h hc last h0
  · by_cases hq : 0 < c.pB / 16
    · exact field_near h hc last hl h0 hq
    · exact field_far h hc last hl h0 hq
end Go.Proofs.YtmcklfndnjagiaaDoor
