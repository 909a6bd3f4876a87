/- CreadStructs, walked. -/
import Derived.Test.YtmiagebcobcaiaaDoorZH
import Derived.Test.YtmiagebcobcaiaaDoorZG
namespace Go.Proofs.YtmiagebcobcaiaaDoor
open Go Go.RowKit
set_option linter.unusedVariables false

theorem crst_out (s : ByteArray) (deep : Int) (w : World) (h : 300 < s.size ∨ deep < 0 ∨ 100 < deep) (ht : Tab w) :
    Calls Tryd.prog 3 #[.string s, .int .i64 deep] w fun e w' => e = .returned (.bool true) ∧ Below w.heap.size w w' := by
  have HT := Lib.hid ht
  clear ht
  by_cases h1 : 300 < s.size
  · have p1 : decide ((300 : Int) < (s.size : Int)) = true := decide_eq_true (by omega)
    have p1' : decide (300 < s.size) = true := decide_eq_true h1
    clear h
    go_enter Tryd.func3, Tryd.ntmps3
    go_wp2_with ((with_reducible refine (works22_any _ HT.out).mono ?_); rintro e w2 ⟨rfl, hbel2⟩)
    go_ret
    exact ⟨rfl, hbel2⟩
  · have p1 : decide ((300 : Int) < (s.size : Int)) = false := decide_eq_false (by omega)
    have p1' : decide (300 < s.size) = false := decide_eq_false h1
    by_cases h2 : deep < 0
    · have p2 : decide (deep < 0) = true := decide_eq_true h2
      clear h
      go_enter Tryd.func3, Tryd.ntmps3
      go_wp2_with ((with_reducible refine (works22_any _ HT.out).mono ?_); rintro e w2 ⟨rfl, hbel2⟩)
      go_ret
      exact ⟨rfl, hbel2⟩
    · have p2 : decide (deep < 0) = false := decide_eq_false h2
      have p3 : decide (100 < deep) = true := decide_eq_true (by omega)
      clear h
      go_enter Tryd.func3, Tryd.ntmps3
      go_wp2_with ((with_reducible refine (works22_any _ HT.out).mono ?_); rintro e w2 ⟨rfl, hbel2⟩)
      go_ret
      exact ⟨rfl, hbel2⟩
set_option maxRecDepth 100000 in
set_option maxHeartbeats 2000000 in
theorem crst_in (s : ByteArray) (deep : Int) (w : World) (h1 : s.size ≤ 300) (h2 : 0 ≤ deep) (h3 : deep ≤ 100) (ht : Tab w) :
    Calls Tryd.prog 3 #[.string s, .int .i64 deep] w fun e w' => e = .returned (.bool true) ∧ Below w.heap.size w w' := by
  have p1 : decide ((300 : Int) < (s.size : Int)) = false := decide_eq_false (by omega)
  have p1' : decide (300 < s.size) = false := decide_eq_false (by omega)
  have p2 : decide (deep < 0) = false := decide_eq_false (by omega)
  have p3 : decide (100 < deep) = false := decide_eq_false (by omega)
  have HT := Lib.hid (show ∀ w', Below w.heap.size w w' → Tab w' from fun w' hb => ht.below hb ht.lt)
  have HA := Lib.hid (struct_any s deep w (by omega) (by omega) ht)
  have HB := Lib.hid (fun w => rst_any s deep w (by omega) h2)
  have hl := stF_len s deep (by omega)
  generalize stF s deep = L at *
  generalize stN s deep = N at *
  generalize (stR s deep).er = E at *
  clear ht h1 h2 h3
  go_enter Tryd.func3, Tryd.ntmps3
  go_wp2_with fail
  refine HA.out.mono ?_
  rintro e w1 ⟨v1, rfl, r1, b1⟩
  obtain ⟨a1, k1, rfl, i1⟩ := r1.inn
  clear r1
  go_wp2_with fail
  refine (HB.out _).mono ?_
  rintro e w2 ⟨v2, rfl, r2, b2⟩
  obtain ⟨a2, k2, rfl, i2⟩ := r2.inn
  have i1 := i1.below b2 (Nat.le_refl _)
  have b2 := grown_then b1 b2
  clear r2 b1 HA HB
  go_wp2_with fail
  with_reducible refine (gback a1 k1 L hl i1).mono ?_
  rintro e w3 ⟨a3, k3, rfl, i3, b3⟩
  have i2 := i2.below b3 (Nat.le_refl _)
  have b3 := grown_then b2 b3
  clear i1 b2
  go_wp2_with fail
  with_reducible refine (gsame a3 a2 k3 k2 L _ hl i3 i2).mono ?_
  rintro e w4 ⟨rfl, b4⟩
  have B4 := Lib.hid (grown_then b3 b4)
  clear i2 i3 b3 b4
  go_wp2_with fail
  with_reducible refine (works22_any _ (HT.out _ B4.out)).mono ?_
  rintro e w5 ⟨rfl, b5⟩
  have B5 := Lib.hid (grown_then B4.out b5)
  clear b5 B4
  go_wp2
  go_ret
  exact ⟨rfl, B5.out⟩
theorem crst_any (s : ByteArray) (deep : Int) (w : World) (ht : Tab w) :
    Calls Tryd.prog 3 #[.string s, .int .i64 deep] w fun e w' => e = .returned (.bool true) ∧ Below w.heap.size w w' := by
  by_cases h : s.size ≤ 300 ∧ 0 ≤ deep ∧ deep ≤ 100
  · exact crst_in s deep w h.1 h.2.1 h.2.2 ht
  · exact crst_out s deep w (by omega) ht
theorem crst_law (s : ByteArray) (deep : Int) (w : World) (hs : s.size ≤ 140737488351232) (h1 : -9223372036854775808 ≤ deep) (h2 : deep ≤ 9223372036854775807) (ht : Tab w) :
    Calls Tryd.prog 3 #[.string s, .int .i64 deep] w fun e w' => e = .returned (.bool true) ∧ Below w.heap.size w w' := crst_any s deep w ht
end Go.Proofs.YtmiagebcobcaiaaDoor
