/- The document's own ReadU and Read. -/
import Derived.Test.YtemmeoikenbmgaaDoorDRefB
namespace Go.Proofs.YtemmeoikenbmgaaDoor
open Go Go.RowKit
set_option linter.unusedVariables false

theorem above_lit {l m : List UInt8} (v : Nat) (hl : DOK l) (hm : decide (DOK m) = true) (hv : dV m = v) : dAbove l m = decide (v < dV l) := by
  rw [above_val hl (of_decide_eq_true hm), hv]
set_option maxRecDepth 20000 in
theorem rRead_up (s : ByteArray) (w : World) (hs : s.size ≤ 1125899906842624) (h45 : ¬ s.data.toList.head? = some 45) :
    Calls Tryd.prog 28 #[.string s] w fun e w' => e = .returned (.tuple #[.int .i64 (iEnd s.data.toList).1, .int .i64 (iEnd s.data.toList).2]) ∧ w' = w := by
  have HP := Lib.hid (rformed s w hs)
  have HM := isEmpty_of s
  by_cases h0 : s.size = 0
  · have z2 : s.toList.isEmpty = true := by rw [HM]; exact decide_eq_true h0
    have hd := dok_not0 h0
    rw [hd] at HP
    have HE := Lib.hid (show iEnd s.data.toList = (0, 3) by unfold iEnd; rw [if_neg (of_decide_eq_false hd)])
    clear hd h0 HM h45
    go_enter Tryd.func28, Tryd.ntmps28
    go_wp2_with (go_at_call 49; with_reducible refine HP.out.mono ?_; rintro e w1 ⟨rfl, hw⟩; rw [hw]; clear hw)
    go_ret2
    exact ⟨by rw [HE.out]; rfl, rfl⟩
  · have z2 : s.toList.isEmpty = false := by rw [HM]; exact decide_eq_false h0
    have hj : 0 < s.size := by omega
    have iz : (0 : Int) < (s.size : Int) := by omega
    have hne : s[0].toNat ≠ 45 := fun h => h45 (by rw [head_at s hj]; exact congrArg some (UInt8.toNat_inj.mp (by rw [h]; rfl)))
    obtain ⟨D, hD⟩ : ∃ D, D = s[0].toNat := ⟨_, rfl⟩
    have hDi : (s[0].toNat : Int) = (D : Int) := by omega
    rw [← hD] at hne
    have q0 : ((D : Int) == 45) = false := beq_eq_false_iff_ne.mpr (by omega)
    clear hD h45 h0 HM
    by_cases hd : DOK s.data.toList
    · rw [decide_eq_true hd] at HP
      have HA := Lib.hid (rabove s ⟨#[57, 50, 50, 51, 51, 55, 50, 48, 51, 54, 56, 53, 52, 55, 55, 53, 56, 48, 55]⟩ w hs (by decide))
      rw [show (⟨#[57, 50, 50, 51, 51, 55, 50, 48, 51, 54, 56, 53, 52, 55, 55, 53, 56, 48, 55]⟩ : ByteArray).data.toList = [57, 50, 50, 51, 51, 55, 50, 48, 51, 54, 56, 53, 52, 55, 55, 53, 56, 48, 55] from rfl, above_lit 9223372036854775807 hd (by decide +kernel) (by decide +kernel)] at HA
      by_cases hf : dV s.data.toList ≤ 9223372036854775807
      · rw [decide_eq_false (show ¬ 9223372036854775807 < dV s.data.toList by omega)] at HA
        have HW := Lib.hid (rworth s w hs hd.2.1)
        rw [Nat.mod_eq_of_lt (show dV s.data.toList < 18446744073709551616 by omega)] at HW
        have HE := Lib.hid (show iEnd s.data.toList = ((dV s.data.toList : Int), 0) by unfold iEnd; rw [if_pos hd, if_pos hf])
        clear hd
        generalize dV s.data.toList = V at *
        have m1 : IntKind.i64.wrap (V : Int) = (V : Int) := i64_small (by omega) (by omega)
        clear hf
        go_enter Tryd.func28, Tryd.ntmps28
        go_wp2_with (first
          | (go_at_call 49; with_reducible refine HP.out.mono ?_; rintro e w1 ⟨rfl, hw⟩; rw [hw]; clear hw)
          | (go_at_call 50; with_reducible refine HA.out.mono ?_; rintro e w1 ⟨rfl, hw⟩; rw [hw]; clear hw)
          | (go_at_call 51; with_reducible refine HW.out.mono ?_; rintro e w1 ⟨rfl, hw⟩; rw [hw]; clear hw))
        go_ret2
        exact ⟨by rw [HE.out]; rfl, rfl⟩
      · rw [decide_eq_true (show 9223372036854775807 < dV s.data.toList by omega)] at HA
        have HE := Lib.hid (show iEnd s.data.toList = (0, 4) by unfold iEnd; rw [if_pos hd, if_neg hf])
        clear hd hf
        go_enter Tryd.func28, Tryd.ntmps28
        go_wp2_with (first
          | (go_at_call 49; with_reducible refine HP.out.mono ?_; rintro e w1 ⟨rfl, hw⟩; rw [hw]; clear hw)
          | (go_at_call 50; with_reducible refine HA.out.mono ?_; rintro e w1 ⟨rfl, hw⟩; rw [hw]; clear hw))
        go_ret2
        exact ⟨by rw [HE.out]; rfl, rfl⟩
    · rw [decide_eq_false hd] at HP
      have HE := Lib.hid (show iEnd s.data.toList = (0, 3) by unfold iEnd; rw [if_neg hd])
      clear hd
      go_enter Tryd.func28, Tryd.ntmps28
      go_wp2_with (go_at_call 49; with_reducible refine HP.out.mono ?_; rintro e w1 ⟨rfl, hw⟩; rw [hw]; clear hw)
      go_ret2
      exact ⟨by rw [HE.out]; rfl, rfl⟩
set_option maxRecDepth 20000 in
theorem rRead_down (s : ByteArray) (w : World) (hs : s.size ≤ 1125899906842624) (h45 : s.data.toList.head? = some 45) :
    Calls Tryd.prog 28 #[.string s] w fun e w' => e = .returned (.tuple #[.int .i64 (sEnd s.data.toList).1, .int .i64 (sEnd s.data.toList).2]) ∧ w' = w := by
  have h0 : s.size ≠ 0 := fun h => by
    have := toList_size s
    rw [h] at this
    rw [List.eq_nil_of_length_eq_zero this] at h45
    exact absurd h45 (by simp)
  have z2 : s.toList.isEmpty = false := by rw [isEmpty_of s]; exact decide_eq_false h0
  have hj : 0 < s.size := by omega
  have iz : (0 : Int) < (s.size : Int) := by omega
  have iz1 : (1 : Int) ≤ (s.size : Int) := by omega
  have hq : (s[0].toNat : Int) = 45 := by
    have e := head_at s hj
    rw [h45] at e
    rw [← Option.some.inj e]; rfl
  have hL := tail_text s
  have hsz : (s.extract 1 s.size).size ≤ 1125899906842624 := by rw [← toList_size, hL, List.length_drop, toList_size]; omega
  have HZ := lit_is s [45, 48]
  have hzz : (s.data.toList = [45, 48]) = (s.data.toList.drop 1 = [48]) := by
    rw [eq_iff_iff]
    refine ⟨fun e => by rw [e]; rfl, fun e => ?_⟩
    obtain ⟨b, r, hb⟩ := List.exists_cons_of_ne_nil (l := s.data.toList) (fun e => by rw [e] at h45; exact absurd h45 (by simp))
    rw [hb] at h45 e ⊢
    rw [List.drop_one, List.tail_cons] at e
    rw [Option.some.inj (show some b = some 45 from h45), e]
  have HP := Lib.hid (rformed (s.extract 1 s.size) w hsz)
  rw [hL] at HP
  have HSd := Lib.hid (show ∀ x, (¬ s.data.toList.drop 1 = [48]) → nEnd (s.data.toList.drop 1) = x → sEnd s.data.toList = x from fun x h1 h2 => by unfold sEnd; rw [if_pos h45, if_neg h1]; exact h2)
  have HS0 := Lib.hid (show s.data.toList.drop 1 = [48] → sEnd s.data.toList = (0, 3) from fun h1 => by unfold sEnd; rw [if_pos h45, if_pos h1])
  have HA0 := Lib.hid (rabove (s.extract 1 s.size) ⟨#[57, 50, 50, 51, 51, 55, 50, 48, 51, 54, 56, 53, 52, 55, 55, 53, 56, 48, 56]⟩ w hsz (by decide))
  have HW0 := Lib.hid (fun ha => rworth (s.extract 1 s.size) w hsz (by rw [hL]; exact ha))
  rw [hL] at HA0 HW0
  rw [show (⟨#[57, 50, 50, 51, 51, 55, 50, 48, 51, 54, 56, 53, 52, 55, 55, 53, 56, 48, 56]⟩ : ByteArray).data.toList = [57, 50, 50, 51, 51, 55, 50, 48, 51, 54, 56, 53, 52, 55, 55, 53, 56, 48, 56] from rfl] at HA0
  simp only [hzz] at HZ
  clear hzz hL h45 h0 hsz
  generalize s.data.toList.drop 1 = l at *
  generalize sEnd s.data.toList = E at *
  by_cases hz : l = [48]
  · have z3 : (s.toList == [45, 48]) = true := by rw [HZ]; exact decide_eq_true hz
    have HE := Lib.hid (HS0.out hz)
    rw [show decide (DOK l) = true by rw [hz]; decide] at HP
    clear hz HZ
    go_enter Tryd.func28, Tryd.ntmps28
    go_wp2_with (go_at_call 49; with_reducible refine HP.out.mono ?_; rintro e w1 ⟨rfl, hw⟩; rw [hw]; clear hw)
    go_ret2
    exact ⟨by rw [HE.out]; rfl, rfl⟩
  · have z3 : (s.toList == [45, 48]) = false := by rw [HZ]; exact decide_eq_false hz
    have HSx := Lib.hid (fun x h2 => HSd.out x hz h2)
    clear hz HZ HS0 HSd
    by_cases hd : DOK l
    · rw [decide_eq_true hd] at HP
      have HA := Lib.hid HA0.out
      rw [above_lit 9223372036854775808 hd (by decide +kernel) (by decide +kernel)] at HA
      by_cases hf : dV l ≤ 9223372036854775808
      · rw [decide_eq_false (show ¬ 9223372036854775808 < dV l by omega)] at HA
        have HW := Lib.hid (HW0.out hd.2.1)
        rw [Nat.mod_eq_of_lt (show dV l < 18446744073709551616 by omega)] at HW
        have HE := Lib.hid (HSx.out (-(dV l : Int), 0) (by unfold nEnd; rw [if_pos hd, if_pos hf]))
        clear hd HA0 HW0 HSx
        generalize dV l = V at *
        obtain ⟨X, hX⟩ : ∃ X, X = (18446744073709551616 - (V : Int)) % 18446744073709551616 := ⟨_, rfl⟩
        have m1 : IntKind.u64.wrap (-(V : Int)) = X := by rw [IntKind.wrap_u64]; omega
        have m2 : IntKind.u64.wrap (0 - (V : Int)) = X := by rw [IntKind.wrap_u64]; omega
        have m3 : IntKind.i64.wrap X = -(V : Int) := by rw [IntKind.wrap_i64]; omega
        clear hf hX
        go_enter Tryd.func28, Tryd.ntmps28
        go_wp2_with (first
          | (go_at_call 49; with_reducible refine HP.out.mono ?_; rintro e w1 ⟨rfl, hw⟩; rw [hw]; clear hw)
          | (go_at_call 50; with_reducible refine HA.out.mono ?_; rintro e w1 ⟨rfl, hw⟩; rw [hw]; clear hw)
          | (go_at_call 51; with_reducible refine HW.out.mono ?_; rintro e w1 ⟨rfl, hw⟩; rw [hw]; clear hw))
        go_ret2
        exact ⟨by rw [HE.out]; rfl, rfl⟩
      · rw [decide_eq_true (show 9223372036854775808 < dV l by omega)] at HA
        have HE := Lib.hid (HSx.out (0, 4) (by unfold nEnd; rw [if_pos hd, if_neg hf]))
        clear hd hf HA0 HW0 HSx
        go_enter Tryd.func28, Tryd.ntmps28
        go_wp2_with (first
          | (go_at_call 49; with_reducible refine HP.out.mono ?_; rintro e w1 ⟨rfl, hw⟩; rw [hw]; clear hw)
          | (go_at_call 50; with_reducible refine HA.out.mono ?_; rintro e w1 ⟨rfl, hw⟩; rw [hw]; clear hw))
        go_ret2
        exact ⟨by rw [HE.out]; rfl, rfl⟩
    · rw [decide_eq_false hd] at HP
      have HE := Lib.hid (HSx.out (0, 3) (by unfold nEnd; rw [if_neg hd]))
      clear hd HA0 HW0 HSx
      go_enter Tryd.func28, Tryd.ntmps28
      go_wp2_with (go_at_call 49; with_reducible refine HP.out.mono ?_; rintro e w1 ⟨rfl, hw⟩; rw [hw]; clear hw)
      go_ret2
      exact ⟨by rw [HE.out]; rfl, rfl⟩
theorem rRead (s : ByteArray) (w : World) (hs : s.size ≤ 1125899906842624) :
    Calls Tryd.prog 28 #[.string s] w fun e w' => e = .returned (.tuple #[.int .i64 (sEnd s.data.toList).1, .int .i64 (sEnd s.data.toList).2]) ∧ w' = w := by
  by_cases h45 : s.data.toList.head? = some 45
  · exact rRead_down s w hs h45
  · have h := rRead_up s w hs h45
    rw [show iEnd s.data.toList = sEnd s.data.toList by unfold sEnd; rw [if_neg h45]] at h
    exact h
end Go.Proofs.YtemmeoikenbmgaaDoor
