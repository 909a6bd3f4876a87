/- The document's own cursor (package truchmanref01): why, Take, as contracts. -/
import Derived.Test.YtmiagebcobcaiaaDoorRefN
namespace Go.Proofs.YtmiagebcobcaiaaDoor
open Go Go.RowKit
set_option linter.unusedVariables false

theorem ref_why (c : CS) (n : Int) (w : World) (hc : c.ok) :
    Calls Tryd.prog 76 #[.agg #[.string c.s, .int .i64 c.at_, .int .i64 c.en, .int .i64 c.er], .int .i64 n] w fun e w' => e = .returned (.int .i64 (c.why n)) ∧ Below w.heap.size w w' := by
  obtain ⟨k1, k2, k3⟩ := hc
  by_cases h0 : c.er = 0
  · have hb : (c.er == 0) = true := by simp [h0]
    have hb' : (c.er != 0) = false := by simp [h0]
    by_cases h1 : n < 0
    · have hd : decide (n < 0) = true := by simp [h1]
      have HR := Lib.hid (show c.why n = 13 from by unfold CS.why; rw [if_neg (by simp [h0]), if_pos h1])
      clear h0 h1
      go_enter Tryd.func76, Tryd.ntmps76
      go_wp2
      go_ret
      exact ⟨ret_int HR.out.symm, by go_grown⟩
    · have hd : decide (n < 0) = false := by simp [h1]
      by_cases h2 : (c.en : Int) - c.at_ < n
      · have hd2 : decide ((c.en : Int) - c.at_ < n) = true := by simp [h2]
        have HR := Lib.hid (show c.why n = 1 from by unfold CS.why; rw [if_neg (by simp [h0]), if_neg h1, if_pos h2])
        clear h0 h1 h2
        go_enter Tryd.func76, Tryd.ntmps76
        go_wp2
        go_ret
        exact ⟨ret_int HR.out.symm, by go_grown⟩
      · have hd2 : decide ((c.en : Int) - c.at_ < n) = false := by simp [h2]
        have HR := Lib.hid (show c.why n = 0 from by unfold CS.why; rw [if_neg (by simp [h0]), if_neg h1, if_neg h2])
        clear h0 h1 h2
        go_enter Tryd.func76, Tryd.ntmps76
        go_wp2
        go_ret
        exact ⟨ret_int HR.out.symm, by go_grown⟩
  · have hb : (c.er == 0) = false := by simp [h0]
    have hb' : (c.er != 0) = true := by simp [h0]
    have HR := Lib.hid (show c.why n = c.er from by unfold CS.why; rw [if_pos h0])
    clear h0
    go_enter Tryd.func76, Tryd.ntmps76
    go_wp2
    go_ret
    exact ⟨ret_int HR.out.symm, by go_grown⟩

theorem ret_two {a : Value} {b : ByteArray} {c : Value} {d : ByteArray} (h : a = c) (k : b = d) : Ending.returned (.tuple #[a, .string b]) = .returned (.tuple #[c, .string d]) := by rw [h, k]

theorem ref_take (c : CS) (n : Int) (w : World) (hc : c.ok) :
    Calls Tryd.prog 53 #[.agg #[.string c.s, .int .i64 c.at_, .int .i64 c.en, .int .i64 c.er], .int .i64 n] w fun e w' => e = .returned (.tuple #[(c.take n).val, .string (c.takeS n)]) ∧ Below w.heap.size w w' := by
  have HW := fun w => ref_why c n w hc
  obtain ⟨k1, k2, k3⟩ := hc
  by_cases hy : c.why n = 0
  · obtain ⟨y1, y2, y3⟩ := CS.why_zero hy
    obtain ⟨m, rfl⟩ := Int.eq_ofNat_of_zero_le y2
    have hm : c.at_ + m ≤ c.en := by omega
    have HR := Lib.hid (show (c.take m).val = .agg #[.string c.s, .int .i64 ((c.at_ : Int) + m), .int .i64 c.en, .int .i64 0] from by rw [take_yes hy]; simp [CS.val, CS.past, y1])
    have HS := Lib.hid (takeS_yes hy)
    rw [Int.toNat_natCast] at HS
    rw [hy] at HW
    have H := Lib.hid HW
    clear hy y1 y2 y3 HW
    go_enter Tryd.func53, Tryd.ntmps53
    go_wp2_with fail
    refine (H.out _).mono ?_
    rintro e w1 ⟨rfl, hb1⟩
    obtain ⟨q1, q2, hbel⟩ := two_laid c CS.zero 56 hb1
    clear hb1
    have a0 := q1.c0; have a1 := q1.c1; have a2 := q1.c2; have a3 := q1.c3; have af := q1.fr
    have b0 := q2.c0; have b1 := q2.c1; have b2 := q2.c2; have b3 := q2.c3; have bf := q2.fr
    simp only []
    repeat (first | go_values | go_skip | go_guarded | go_step | go_upon)
    refine bodyPost_ret (v := .tuple #[.agg #[.string c.s, .int .i64 ((c.at_ : Int) + m), .int .i64 c.en, .int .i64 0], .string (c.s.extract c.at_ (c.at_ + m))]) (by simp [results, Tryd.results53, go_sem, b0, b1, b2, b3]) rfl ⟨ret_two HR.out.symm HS.out.symm, ?_⟩
    go_grown
  · have HR := Lib.hid (show (c.take n).val = .agg #[.string c.s, .int .i64 c.at_, .int .i64 c.en, .int .i64 (c.why n)] from by rw [take_no hy]; rfl)
    have HS := Lib.hid (takeS_no hy)
    have hb : (c.why n == 0) = false := by simp [hy]
    have hb' : (c.why n != 0) = true := by simp [hy]
    clear hy
    generalize c.why n = y at HR hb hb' HW
    have H := Lib.hid HW
    clear HW
    go_enter Tryd.func53, Tryd.ntmps53
    go_wp2_with fail
    refine (H.out _).mono ?_
    rintro e w1 ⟨rfl, hb1⟩
    obtain ⟨q1, q2, hbel⟩ := two_laid c CS.zero 56 hb1
    clear hb1
    have a0 := q1.c0; have a1 := q1.c1; have a2 := q1.c2; have a3 := q1.c3; have af := q1.fr
    have b0 := q2.c0; have b1 := q2.c1; have b2 := q2.c2; have b3 := q2.c3; have bf := q2.fr
    simp only []
    repeat (first | go_values | go_skip | go_guarded | go_step | go_upon)
    refine bodyPost_ret (v := .tuple #[.agg #[.string c.s, .int .i64 c.at_, .int .i64 c.en, .int .i64 y], .string ⟨#[]⟩]) (by simp [results, Tryd.results53, go_sem, b0, b1, b2, b3]) rfl ⟨ret_two HR.out.symm HS.out.symm, ?_⟩
    go_grown

end Go.Proofs.YtmiagebcobcaiaaDoor
