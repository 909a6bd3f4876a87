/- Package deci's read, ReadU, Read. -/
import Derived.Test.YtemmeoikenbmgaaDoorDWorth
namespace Go.Proofs.YtemmeoikenbmgaaDoor
open Go Go.RowKit
set_option linter.unusedVariables false

/-- Read upwards (1) or downwards (-1). -/
def oEnd (o : Int) (l : List UInt8) : Int × Int := if DOK l then (if iGo o l then (o * (dV l : Int), 0) else (0, 4)) else (0, 3)
theorem oEnd_up (l : List UInt8) : oEnd 1 l = iEnd l := by
  unfold oEnd iEnd
  split
  · by_cases h : dV l ≤ 9223372036854775807
    · rw [if_pos h, if_pos (show iGo 1 l by unfold iGo; omega), Int.one_mul]
    · rw [if_neg h, if_neg (show ¬ iGo 1 l by unfold iGo; omega)]
  · rfl
theorem oEnd_down (l : List UInt8) : oEnd (-1) l = nEnd l := by
  unfold oEnd nEnd
  split
  · by_cases h : dV l ≤ 9223372036854775808
    · rw [if_pos h, if_pos (show iGo (-1) l by unfold iGo; omega), show -1 * (dV l : Int) = -(dV l : Int) by omega]
    · rw [if_neg h, if_neg (show ¬ iGo (-1) l by unfold iGo; omega)]
  · rfl
set_option maxRecDepth 20000 in
theorem dreadI (s : ByteArray) (o : Int) (ho : o = 1 ∨ o = -1) (w : World) (hs : s.size ≤ 1125899906842624) :
    Calls Tryd.prog 48 #[.string s, .int .i64 o] w fun e w' => e = .returned (.tuple #[.int .i64 (oEnd o s.data.toList).1, .int .i64 (oEnd o s.data.toList).2]) ∧ w' = w := by
  have HP := Lib.hid (dplain s w hs)
  by_cases hd : DOK s.data.toList
  · rw [decide_eq_true hd] at HP
    have HW := Lib.hid (dworthI s o ho w hs hd.2.1)
    clear ho
    by_cases hf : iGo o s.data.toList
    · have HU := Lib.hid (show iWorth o s.data.toList = o * (dV s.data.toList : Int) ∧ decide (iGo o s.data.toList) = true from ⟨if_pos hf, decide_eq_true hf⟩)
      have HE := Lib.hid (show oEnd o s.data.toList = (o * (dV s.data.toList : Int), 0) by unfold oEnd; rw [if_pos hd, if_pos hf])
      rw [HU.out.1, HU.out.2] at HW
      clear hd hf
      go_enter Tryd.func48, Tryd.ntmps48
      go_wp2_with (first
        | (go_at_call 74; refine HP.out.mono ?_; rintro e w1 ⟨rfl, hw⟩; rw [hw]; clear hw)
        | (go_at_call 75; refine HW.out.mono ?_; rintro e w1 ⟨rfl, hw⟩; rw [hw]; clear hw))
      go_ret2
      exact ⟨by rw [HE.out]; rfl, rfl⟩
    · have HU := Lib.hid (show iWorth o s.data.toList = 0 ∧ decide (iGo o s.data.toList) = false from ⟨if_neg hf, decide_eq_false hf⟩)
      have HE := Lib.hid (show oEnd o s.data.toList = (0, 4) by unfold oEnd; rw [if_pos hd, if_neg hf])
      rw [HU.out.1, HU.out.2] at HW
      clear hd hf
      go_enter Tryd.func48, Tryd.ntmps48
      go_wp2_with (first
        | (go_at_call 74; refine HP.out.mono ?_; rintro e w1 ⟨rfl, hw⟩; rw [hw]; clear hw)
        | (go_at_call 75; refine HW.out.mono ?_; rintro e w1 ⟨rfl, hw⟩; rw [hw]; clear hw))
      go_ret2
      exact ⟨by rw [HE.out]; rfl, rfl⟩
  · rw [decide_eq_false hd] at HP
    have HE := Lib.hid (show oEnd o s.data.toList = (0, 3) by unfold oEnd; rw [if_neg hd])
    clear hd ho
    go_enter Tryd.func48, Tryd.ntmps48
    go_wp2_with (go_at_call 74; refine HP.out.mono ?_; rintro e w1 ⟨rfl, hw⟩; rw [hw]; clear hw)
    go_ret2
    exact ⟨by rw [HE.out]; rfl, rfl⟩
/-- A text of a sign ahead, and what is behind it. -/
theorem sign_cut (l : List UInt8) : Lib.hasPrefix l [45] = decide (l.head? = some 45) ∧ (l.head? = some 45 → Lib.trimPrefix l [45] = l.drop 1) := by
  have h1 : Lib.hasPrefix l [45] = decide (l.head? = some 45) := by
    unfold Lib.hasPrefix
    cases l with
    | nil => rfl
    | cons a r =>
      rw [Bool.eq_iff_iff, decide_eq_true_iff]
      simp [List.isPrefixOf]
      exact eq_comm
  refine ⟨h1, fun h => ?_⟩
  unfold Lib.trimPrefix
  rw [h1, decide_eq_true h]
  rfl
set_option maxRecDepth 20000 in
theorem dRead (s : ByteArray) (w : World) (hs : s.size ≤ 1125899906842624) :
    Calls Tryd.prog 25 #[.string s] w fun e w' => e = .returned (.tuple #[.int .i64 (sEnd s.data.toList).1, .int .i64 (sEnd s.data.toList).2]) ∧ w' = w := by
  have HC := Lib.hid (cut_prefix s ⟨#[45]⟩ w)
  obtain ⟨c1, c2⟩ := sign_cut s.data.toList
  rw [show (⟨#[45]⟩ : ByteArray).data.toList = [45] from rfl, c1] at HC
  by_cases h45 : s.data.toList.head? = some 45
  · rw [c2 h45, decide_eq_true h45] at HC
    have hsz : (bA (s.data.toList.drop 1)).size ≤ 1125899906842624 := by rw [bA_size, List.length_drop, toList_size]; omega
    have hL : (bA (s.data.toList.drop 1)).data.toList = s.data.toList.drop 1 := by simp [bA]
    have HR := Lib.hid (dreadI (bA (s.data.toList.drop 1)) (-1) (.inr rfl) w hsz)
    rw [hL, oEnd_down] at HR
    have hE := bA_is (s.data.toList.drop 1) [48]
    by_cases hz : s.data.toList.drop 1 = [48]
    · have HE := Lib.hid (show sEnd s.data.toList = (0, 3) by unfold sEnd; rw [if_pos h45, if_pos hz])
      rw [decide_eq_true hz] at hE
      clear hsz hL h45 c1 c2 hz HR
      generalize bA (s.data.toList.drop 1) = T at *
      go_enter Tryd.func25, Tryd.ntmps25
      go_wp2_with (go_at_call 22; refine HC.out.mono ?_; rintro e w1 ⟨rfl, hw⟩; rw [hw]; clear hw)
      go_ret2
      exact ⟨by rw [HE.out]; rfl, rfl⟩
    · have HE := Lib.hid (show sEnd s.data.toList = nEnd (s.data.toList.drop 1) by unfold sEnd; rw [if_pos h45, if_neg hz])
      rw [decide_eq_false hz] at hE
      clear hsz hL h45 c1 c2 hz
      generalize bA (s.data.toList.drop 1) = T at *
      generalize nEnd (s.data.toList.drop 1) = E at *
      go_enter Tryd.func25, Tryd.ntmps25
      go_wp2_with (first
        | (go_at_call 22; refine HC.out.mono ?_; rintro e w1 ⟨rfl, hw⟩; rw [hw]; clear hw)
        | (go_at_call 48; refine HR.out.mono ?_; rintro e w1 ⟨rfl, hw⟩; rw [hw]; clear hw))
      go_ret2
      exact ⟨by rw [HE.out]; rfl, rfl⟩
  · rw [decide_eq_false h45] at HC
    have HR := Lib.hid (dreadI s 1 (.inl rfl) w hs)
    rw [oEnd_up] at HR
    have HE := Lib.hid (show sEnd s.data.toList = iEnd s.data.toList by unfold sEnd; rw [if_neg h45])
    clear h45 c1 c2
    generalize bA (Lib.trimPrefix s.data.toList [45]) = T at *
    go_enter Tryd.func25, Tryd.ntmps25
    go_wp2_with (first
      | (go_at_call 22; refine HC.out.mono ?_; rintro e w1 ⟨rfl, hw⟩; rw [hw]; clear hw)
      | (go_at_call 48; refine HR.out.mono ?_; rintro e w1 ⟨rfl, hw⟩; rw [hw]; clear hw))
    go_ret2
    exact ⟨by rw [HE.out]; rfl, rfl⟩
end Go.Proofs.YtemmeoikenbmgaaDoor
