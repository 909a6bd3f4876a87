/- DeciReads, walked. -/
import Derived.Test.YtbgbgmlpbjppdaaDoorDWork
namespace Go.Proofs.YtbgbgmlpbjppdaaDoor
open Go Go.RowKit
set_option linter.unusedVariables false

set_option maxRecDepth 100000 in
set_option maxHeartbeats 4000000 in
theorem dreads_any (s : ByteArray) (w : World) (ht : P10 w) :
    Calls Tryd.prog 3 #[.string s] w fun e w' => e = .returned (.bool true) ∧ Below w.heap.size w w' := by
  have HW := Lib.hid (works6_any w ht)
  clear ht
  by_cases h : 200 < s.size
  · have p1 : decide ((200 : Int) < (s.size : Int)) = true := decide_eq_true (by omega)
    clear h
    go_enter Tryd.func3, Tryd.ntmps3
    go_wp2_with fail
    with_reducible refine HW.out.mono ?_
    rintro e w1 ⟨rfl, h1⟩
    go_wp2
    go_ret
    exact ⟨rfl, h1⟩
  · have p1 : decide ((200 : Int) < (s.size : Int)) = false := decide_eq_false (by omega)
    have A1 := Lib.hid (dRead s w (by omega))
    have A2 := Lib.hid (rRead s w (by omega))
    have A3 := Lib.hid (dReadU s w (by omega))
    have A4 := Lib.hid (rReadU s w (by omega))
    clear h
    generalize (sEnd s.data.toList).1 = x1 at *
    generalize (sEnd s.data.toList).2 = x2 at *
    generalize (uEnd s.data.toList).1 = x3 at *
    generalize (uEnd s.data.toList).2 = x4 at *
    go_enter Tryd.func3, Tryd.ntmps3
    go_wp2_with (first
      | (go_at_call 7; with_reducible refine A1.out.mono ?_; rintro e w1 ⟨rfl, hw⟩; rw [hw]; clear hw)
      | (go_at_call 8; with_reducible refine A2.out.mono ?_; rintro e w1 ⟨rfl, hw⟩; rw [hw]; clear hw)
      | (go_at_call 9; with_reducible refine A3.out.mono ?_; rintro e w1 ⟨rfl, hw⟩; rw [hw]; clear hw)
      | (go_at_call 10; with_reducible refine A4.out.mono ?_; rintro e w1 ⟨rfl, hw⟩; rw [hw]; clear hw)
      | (go_at_call 6; with_reducible refine HW.out.mono ?_; rintro e w1 ⟨rfl, h1⟩))
    go_ret
    exact ⟨rfl, h1⟩
theorem dreads_t (s : ByteArray) (w : World) (hs : s.size ≤ 140737488351232) (ht : P10 w) :
    Calls Tryd.prog 3 #[.string s] w fun e w' => e = .returned (.bool true) ∧ Below w.heap.size w w' := dreads_any s w ht
end Go.Proofs.YtbgbgmlpbjppdaaDoor
