/- Several texts in one (RefA, RdRef): each begins with its own words. -/
import Derived.Test.YtipnaonagepolaaDoorZB
import Derived.Test.YtipnaonagepolaaDoorZE
import Derived.Deep.RegionWith
/- The document's own cursor (package truchmanref01): why, Take, as contracts. -/
namespace Go.Proofs.YtipnaonagepolaaDoor
open Go Go.RowKit
set_option linter.unusedVariables false

theorem ref_why (c : CS) (n : Int) (w : World) (hc : c.ok) :
    Calls Tryd.prog 77 #[.agg #[.string c.s, .int .i64 c.at_, .int .i64 c.en, .int .i64 c.er], .int .i64 n] w fun e w' => e = .returned (.int .i64 (c.why n)) ∧ Below w.heap.size w w' := by
  obtain ⟨k1, k2, k3⟩ := hc
  by_cases h0 : c.er = 0
  · have hb : (c.er == 0) = true := by simp [h0]
    have hb' : (c.er != 0) = false := by simp [h0]
    by_cases h1 : n < 0
    · have hd : decide (n < 0) = true := by simp [h1]
      have HR := Lib.hid (show c.why n = 13 from by unfold CS.why; rw [if_neg (by simp [h0]), if_pos h1])
      clear h0 h1
      go_enter Tryd.func77, Tryd.ntmps77
      go_wp2
      go_ret
      exact ⟨ret_int HR.out.symm, by go_grown⟩
    · have hd : decide (n < 0) = false := by simp [h1]
      by_cases h2 : (c.en : Int) - c.at_ < n
      · have hd2 : decide ((c.en : Int) - c.at_ < n) = true := by simp [h2]
        have HR := Lib.hid (show c.why n = 1 from by unfold CS.why; rw [if_neg (by simp [h0]), if_neg h1, if_pos h2])
        clear h0 h1 h2
        go_enter Tryd.func77, Tryd.ntmps77
        go_wp2
        go_ret
        exact ⟨ret_int HR.out.symm, by go_grown⟩
      · have hd2 : decide ((c.en : Int) - c.at_ < n) = false := by simp [h2]
        have HR := Lib.hid (show c.why n = 0 from by unfold CS.why; rw [if_neg (by simp [h0]), if_neg h1, if_neg h2])
        clear h0 h1 h2
        go_enter Tryd.func77, Tryd.ntmps77
        go_wp2
        go_ret
        exact ⟨ret_int HR.out.symm, by go_grown⟩
  · have hb : (c.er == 0) = false := by simp [h0]
    have hb' : (c.er != 0) = true := by simp [h0]
    have HR := Lib.hid (show c.why n = c.er from by unfold CS.why; rw [if_pos h0])
    clear h0
    go_enter Tryd.func77, Tryd.ntmps77
    go_wp2
    go_ret
    exact ⟨ret_int HR.out.symm, by go_grown⟩

theorem ret_two {a : Value} {b : ByteArray} {c : Value} {d : ByteArray} (h : a = c) (k : b = d) : Ending.returned (.tuple #[a, .string b]) = .returned (.tuple #[c, .string d]) := by rw [h, k]

theorem ref_take (c : CS) (n : Int) (w : World) (hc : c.ok) :
    Calls Tryd.prog 64 #[.agg #[.string c.s, .int .i64 c.at_, .int .i64 c.en, .int .i64 c.er], .int .i64 n] w fun e w' => e = .returned (.tuple #[(c.take n).val, .string (c.takeS n)]) ∧ Below w.heap.size w w' := by
  have HW := fun w => ref_why c n w hc
  obtain ⟨k1, k2, k3⟩ := hc
  by_cases hy : c.why n = 0
  · obtain ⟨y1, y2, y3⟩ := CS.why_zero hy
    obtain ⟨m, rfl⟩ := Int.eq_ofNat_of_zero_le y2
    have hm : c.at_ + m ≤ c.en := by omega
    have HR := Lib.hid (show (c.take m).val = .agg #[.string c.s, .int .i64 ((c.at_ : Int) + m), .int .i64 c.en, .int .i64 0] from by rw [take_yes hy]; simp [CS.val, CS.past, y1])
    have HS := Lib.hid (takeS_yes hy)
    rw [Int.toNat_natCast] at HS
    rw [hy] at HW
    have H := Lib.hid HW
    clear hy y1 y2 y3 HW
    go_enter Tryd.func64, Tryd.ntmps64
    go_wp2_with fail
    refine (H.out _).mono ?_
    rintro e w1 ⟨rfl, hb1⟩
    obtain ⟨q1, q2, hbel⟩ := two_laid c CS.zero 69 hb1
    clear hb1
    have a0 := q1.c0; have a1 := q1.c1; have a2 := q1.c2; have a3 := q1.c3; have af := q1.fr
    have b0 := q2.c0; have b1 := q2.c1; have b2 := q2.c2; have b3 := q2.c3; have bf := q2.fr
    go_wp2
    refine bodyPost_ret (v := .tuple #[.agg #[.string c.s, .int .i64 ((c.at_ : Int) + m), .int .i64 c.en, .int .i64 0], .string (c.s.extract c.at_ (c.at_ + m))]) (by simp [results, Tryd.results64, go_sem, b0, b1, b2, b3]) rfl ⟨ret_two HR.out.symm HS.out.symm, ?_⟩
    go_grown
  · have HR := Lib.hid (show (c.take n).val = .agg #[.string c.s, .int .i64 c.at_, .int .i64 c.en, .int .i64 (c.why n)] from by rw [take_no hy]; rfl)
    have HS := Lib.hid (takeS_no hy)
    have hb : (c.why n == 0) = false := by simp [hy]
    have hb' : (c.why n != 0) = true := by simp [hy]
    clear hy
    generalize c.why n = y at HR hb hb' HW
    have H := Lib.hid HW
    clear HW
    go_enter Tryd.func64, Tryd.ntmps64
    go_wp2_with fail
    refine (H.out _).mono ?_
    rintro e w1 ⟨rfl, hb1⟩
    obtain ⟨q1, q2, hbel⟩ := two_laid c CS.zero 69 hb1
    clear hb1
    have a0 := q1.c0; have a1 := q1.c1; have a2 := q1.c2; have a3 := q1.c3; have af := q1.fr
    have b0 := q2.c0; have b1 := q2.c1; have b2 := q2.c2; have b3 := q2.c3; have bf := q2.fr
    go_wp2
    refine bodyPost_ret (v := .tuple #[.agg #[.string c.s, .int .i64 c.at_, .int .i64 c.en, .int .i64 y], .string ⟨#[]⟩]) (by simp [results, Tryd.results64, go_sem, b0, b1, b2, b3]) rfl ⟨ret_two HR.out.symm HS.out.symm, ?_⟩
    go_grown

end Go.Proofs.YtipnaonagepolaaDoor
/- The document's own readers (package truchmanref02): OfLow, ReadLow, ReadHigh. -/
namespace Go.Proofs.YtipnaonagepolaaDoor
open Go Go.RowKit
set_option linter.unusedVariables false

theorem ret_num3 {k : IntKind} {a b : Int} (h : a = b) : Ending.returned (.int k a) = .returned (.int k b) := by rw [h]

def OfRel (s : ByteArray) (W : World) (u i : Value) (wr : World) : Prop :=
  ∃ j : Nat, j ≤ s.size ∧ i = .int .i64 ((j : Int) - 1) ∧ u = .int .u64 ((valL (s.data.toList.drop j) : Nat) : Int) ∧ wr = W

theorem ofLow_any (s : ByteArray) (w : World) (hs : s.size ≤ 8) :
    Calls Tryd.prog 76 #[.string s] w fun e w' => e = .returned (.int .u64 ((valL s.data.toList : Nat) : Int)) ∧ w' = w := by
  have e1 : IntKind.i64.wrap ((s.size : Int) - 1) = (s.size : Int) - 1 := IntWalk.i64_in _ (by omega)
  go_enter Tryd.func76, Tryd.ntmps76
  go_wp2_with fail
  go_loopw [3, 4] (fun u i wr => OfRel s w u i wr) (fun _ i _ => (intOf i + 1).toNat)
  case atStart => exact ⟨s.size, Nat.le_refl _, rfl, by rw [List.drop_of_length_le (by rw [toList_size]; exact Nat.le_refl _)]; rfl, rfl⟩
  case round =>
    obtain ⟨j, hj, rfl, rfl, rfl⟩ := hrel
    match j, hj with
    | 0, hj =>
      go_wp2
      go_ret
      exact ⟨rfl, rfl⟩
    | i + 1, hj =>
      have hij : ((i + 1 : Nat) : Int) - 1 = (i : Nat) := by omega
      have his : i < s.size := by omega
      have p1 : decide ((0 : Int) ≤ (i : Nat)) = true := by simp
      have hl : i < s.data.toList.length := by rw [toList_size]; exact his
      have hv := valL_drop s.data.toList i hl
      rw [byte_at s i his hl] at hv
      have hlt : valL (s.data.toList.drop (i + 1)) < 256 ^ 7 := by
        have := valL_lt (s.data.toList.drop (i + 1))
        rw [List.length_drop, toList_size] at this
        exact Nat.lt_of_lt_of_le this (p256 (by omega))
      have hb := (s[i]).toNat_lt
      have HV := Lib.hid hv
      clear hv
      generalize valL (s.data.toList.drop (i + 1)) = V at *
      have hV2 : 256 ^ 7 = 72057594037927936 := by decide
      rw [hV2] at hlt
      rw [hij]
      go_wp2
      go_roundw
      case rel => exact ⟨i, by omega, rfl, by rw [HV.out]; go_num, rfl⟩
      case measure => first | (simp [intOf]; done) | (simp [intOf]; omega)


set_option maxHeartbeats 4000000 in
theorem ref_readLow (c : CS) (n : Nat) (w : World) (hc : c.ok) (hn : n ≤ 8) (hs : (c.takeS n).size ≤ 8) :
    Calls Tryd.prog 63 #[.agg #[.string c.s, .int .i64 c.at_, .int .i64 c.en, .int .i64 c.er], .int .i64 n] w fun e w' => e = .returned (.tuple #[(c.take n).val, .int .u64 ((valL (c.takeS n).data.toList : Nat) : Int)]) ∧ Below w.heap.size w w' := by
  have HT := Lib.hid (fun w => ref_take c n w hc)
  have HO := Lib.hid (fun w => ofLow_any (c.takeS n) w hs)
  generalize c.takeS n = s at *
  generalize hd : c.take n = d at *
  have hdv := Lib.hid (show d.val = .agg #[.string d.s, .int .i64 d.at_, .int .i64 d.en, .int .i64 d.er] from rfl)
  clear hd
  go_enter Tryd.func63, Tryd.ntmps63
  go_wp2_with fail
  refine (HT.out _).mono ?_
  rintro e w1 ⟨rfl, hb1⟩
  obtain ⟨q1, q2, hbel⟩ := two_laid c CS.zero 69 hb1
  clear hb1
  have a0 := q1.c0; have a1 := q1.c1; have a2 := q1.c2; have a3 := q1.c3; have af := q1.fr
  have b0 := q2.c0; have b1 := q2.c1; have b2 := q2.c2; have b3 := q2.c3; have bf := q2.fr
  rw [hdv.out]
  go_wp2
  go_region_with ((with_reducible refine (HO.out _).mono ?_); rintro e w' ⟨rfl, rfl⟩)
  all_goals go_wp2
  all_goals refine bodyPost_ret (v := .tuple #[.agg #[.string d.s, .int .i64 d.at_, .int .i64 d.en, .int .i64 d.er], .int .u64 ((valL s.data.toList : Nat) : Int)]) (by simp [results, Tryd.results63, go_sem, b0, b1, b2, b3]) rfl ⟨ret_pair hdv.out.symm rfl, ?_⟩
  all_goals go_grown

def HiRel (s : ByteArray) (W : World) (u i : Value) (wr : World) : Prop :=
  ∃ k : Nat, k ≤ s.size ∧ i = .int .i64 (k : Nat) ∧ u = .int .u64 ((valL (s.data.toList.take k).reverse : Nat) : Int) ∧ wr = W


end Go.Proofs.YtipnaonagepolaaDoor
