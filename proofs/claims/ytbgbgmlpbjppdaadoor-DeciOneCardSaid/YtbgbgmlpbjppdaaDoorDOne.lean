/- DeciOne, walked. -/
import Derived.Test.YtbgbgmlpbjppdaaDoorDWork
namespace Go.Proofs.YtbgbgmlpbjppdaaDoor
open Go Go.RowKit
set_option linter.unusedVariables false

theorem sEnd_code (l : List UInt8) : (sEnd l).2 = 0 → sEnd l = ((sEnd l).1, 0) := fun h => by rw [← h]
theorem one_same {l m : List UInt8} (hl : (sEnd l).2 = 0) (hm : (sEnd m).2 = 0) : (sEnd l).1 = (sEnd m).1 ↔ l = m := by
  refine ⟨fun h => ?_, fun h => by rw [h]⟩
  have e1 := itoa_sEnd (sEnd_code l hl)
  have e2 := itoa_sEnd (sEnd_code m hm)
  rw [← e1, ← e2, h]
set_option maxRecDepth 100000 in
set_option maxHeartbeats 4000000 in
theorem done_any (s t : ByteArray) (w : World) (hs : s.size ≤ 1125899906842624) (hst : t.size ≤ 1125899906842624) (ht : P10 w) :
    Calls Tryd.prog 5 #[.string s, .string t] w fun e w' => e = .returned (.bool true) ∧ Below w.heap.size w w' := by
  have A1 := Lib.hid (dRead s w hs)
  have A2 := Lib.hid (dRead t w hst)
  have HT := Lib.hid ht
  have HW := Lib.hid (fun w' (hb : Below w.heap.size w w') => works6_any w' (ht.below hb))
  have hself := Lib.hid (fun h1 h2 => one_same (l := s.data.toList) (m := t.data.toList) h1 h2)
  by_cases h1 : (sEnd s.data.toList).2 = 0
  · have hin := sEnd_in s.data.toList
    have HP := Lib.hid (dput_any none 0 [] (sEnd s.data.toList).1 w hin.1 hin.2 (by decide) (fun j hj => absurd hj (Nat.not_lt_zero j)) ht)
    rw [itoa_sEnd (sEnd_code _ h1), List.nil_append] at HP
    have HB := Lib.hid (bA_of s)
    rw [h1] at A1
    by_cases h2 : (sEnd t.data.toList).2 = 0
    · rw [h2] at A2
      have HS := Lib.hid (hself.out h1 h2)
      clear h1 h2 hself ht hin
      generalize (sEnd s.data.toList).1 = x at *
      generalize (sEnd t.data.toList).1 = y at *
      by_cases hst2 : s = t
      · have q1 : (s.toList == t.toList) = true := by rw [text_eq]; exact decide_eq_true hst2
        have q2 : (x == y) = true := beq_iff_eq.mpr (HS.out.mpr (by rw [hst2]))
        clear hst2
        go_enter Tryd.func5, Tryd.ntmps5
        go_wp2_with fail
        with_reducible refine A1.out.mono ?_
        rintro e w1 ⟨rfl, hw⟩
        rw [hw]; clear hw
        go_wp2_with fail
        with_reducible refine A2.out.mono ?_
        rintro e w1 ⟨rfl, hw⟩
        rw [hw]; clear hw
        go_wp2_with fail
        refine HP.out.mono ?_
        rintro e w3 ⟨v, rfl, hbt, hbe⟩
        have b3 := Lib.hid hbe
        have htx := Lib.hid (hbt.text (P := Tryd.prog) Tryd.underlying30 Tryd.underlying5 Tryd.underlying9)
        rw [HB.out] at htx
        clear hbt hbe
        go_wp2_with fail
        rw [htx.out]
        go_wp2_with fail
        with_reducible refine (HW.out _ b3.out).mono ?_
        rintro e w4 ⟨rfl, h4⟩
        have b4 := Lib.hid (grown_then b3.out h4)
        go_wp2
        go_ret
        exact ⟨rfl, b4.out⟩
      · have q1 : (s.toList == t.toList) = false := by rw [text_eq]; exact decide_eq_false hst2
        have q2 : (x == y) = false := beq_eq_false_iff_ne.mpr (fun h => hst2 (ByteArray.ext (Array.toList_inj.mp (HS.out.mp h))))
        clear hst2
        go_enter Tryd.func5, Tryd.ntmps5
        go_wp2_with fail
        with_reducible refine A1.out.mono ?_
        rintro e w1 ⟨rfl, hw⟩
        rw [hw]; clear hw
        go_wp2_with fail
        with_reducible refine A2.out.mono ?_
        rintro e w1 ⟨rfl, hw⟩
        rw [hw]; clear hw
        go_wp2_with fail
        refine HP.out.mono ?_
        rintro e w3 ⟨v, rfl, hbt, hbe⟩
        have b3 := Lib.hid hbe
        have htx := Lib.hid (hbt.text (P := Tryd.prog) Tryd.underlying30 Tryd.underlying5 Tryd.underlying9)
        rw [HB.out] at htx
        clear hbt hbe
        go_wp2_with fail
        rw [htx.out]
        go_wp2_with fail
        with_reducible refine (HW.out _ b3.out).mono ?_
        rintro e w4 ⟨rfl, h4⟩
        have b4 := Lib.hid (grown_then b3.out h4)
        go_wp2
        go_ret
        exact ⟨rfl, b4.out⟩
    · have q1 : ((sEnd t.data.toList).2 != 0) = true := bne_iff_ne.mpr h2
      clear h1 h2 hself ht hin
      generalize (sEnd s.data.toList).1 = x at *
      generalize (sEnd t.data.toList).1 = y at *
      generalize (sEnd t.data.toList).2 = y2 at *
      go_enter Tryd.func5, Tryd.ntmps5
      go_wp2_with fail
      with_reducible refine A1.out.mono ?_
      rintro e w1 ⟨rfl, hw⟩
      rw [hw]; clear hw
      go_wp2_with fail
      with_reducible refine A2.out.mono ?_
      rintro e w1 ⟨rfl, hw⟩
      rw [hw]; clear hw
      go_wp2_with fail
      refine HP.out.mono ?_
      rintro e w3 ⟨v, rfl, hbt, hbe⟩
      have b3 := Lib.hid hbe
      have htx := Lib.hid (hbt.text (P := Tryd.prog) Tryd.underlying30 Tryd.underlying5 Tryd.underlying9)
      rw [HB.out] at htx
      clear hbt hbe
      go_wp2_with fail
      rw [htx.out]
      go_wp2_with fail
      with_reducible refine (HW.out _ b3.out).mono ?_
      rintro e w4 ⟨rfl, h4⟩
      have b4 := Lib.hid (grown_then b3.out h4)
      go_wp2
      go_ret
      exact ⟨rfl, b4.out⟩
  · have q1 : ((sEnd s.data.toList).2 != 0) = true := bne_iff_ne.mpr h1
    have q2 : ((sEnd s.data.toList).2 == 0) = false := beq_eq_false_iff_ne.mpr h1
    have b3 := Lib.hid (Below.refl w.heap.size w)
    clear h1 hself ht
    generalize (sEnd s.data.toList).1 = x at *
    generalize (sEnd s.data.toList).2 = x2 at *
    generalize (sEnd t.data.toList).1 = y at *
    generalize (sEnd t.data.toList).2 = y2 at *
    go_enter Tryd.func5, Tryd.ntmps5
    go_wp2_with fail
    with_reducible refine A1.out.mono ?_
    rintro e w1 ⟨rfl, hw⟩
    rw [hw]; clear hw
    go_wp2_with fail
    with_reducible refine A2.out.mono ?_
    rintro e w1 ⟨rfl, hw⟩
    rw [hw]; clear hw
    go_wp2_with fail
    with_reducible refine (HW.out _ b3.out).mono ?_
    rintro e w4 ⟨rfl, h4⟩
    have b4 := Lib.hid (grown_then b3.out h4)
    go_wp2
    go_ret
    exact ⟨rfl, b4.out⟩
theorem done_t (s t : ByteArray) (w : World) (hs : s.size ≤ 140737488351232) (h2 : t.size ≤ 140737488351232) (ht : P10 w) :
    Calls Tryd.prog 5 #[.string s, .string t] w fun e w' => e = .returned (.bool true) ∧ Below w.heap.size w w' := done_any s t w (by omega) (by omega) ht
end Go.Proofs.YtbgbgmlpbjppdaaDoor
