/- JnumWhole, walked. -/
import Derived.Test.YtemmeoikenbmgaaDoorJnWork
namespace Go.Proofs.YtemmeoikenbmgaaDoor
open Go Go.RowKit
set_option linter.unusedVariables false

set_option maxRecDepth 100000 in
set_option maxHeartbeats 4000000 in
theorem nwholes_any (s : ByteArray) (w : World) (hs : s.size ≤ 140737488351232) (hm : MaxL w) :
    Calls Tryd.prog 4 #[.string s] w fun e w' => e = .returned (.bool true) ∧ Below w.heap.size w w' := by
  have HM := Lib.hid (fun w' h => hm.below (w' := w') h hm.lt)
  by_cases h : 300 < s.size
  · have p1 : decide ((300 : Int) < (s.size : Int)) = true := decide_eq_true (by omega)
    have HW := Lib.hid (works11_any w hm)
    clear h hm
    go_enter Tryd.func4, Tryd.ntmps4
    go_wp2_with fail
    with_reducible refine HW.out.mono ?_
    rintro e w1 ⟨rfl, h1⟩
    go_wp2
    go_ret
    exact ⟨rfl, h1⟩
  · have p1 : decide ((300 : Int) < (s.size : Int)) = false := decide_eq_false (by omega)
    have A1 := Lib.hid (nwhole_any s w (by omega) hm)
    have A2 := Lib.hid (fun w => rwhole_any s w (by omega))
    clear h hm
    generalize (wEnd s.data.toList).1 = x1 at *
    generalize (wEnd s.data.toList).2 = x2 at *
    go_enter Tryd.func4, Tryd.ntmps4
    go_wp2_with fail
    with_reducible refine A1.out.mono ?_
    rintro e w1 ⟨rfl, h1⟩
    go_wp2_with fail
    with_reducible refine (A2.out _).mono ?_
    rintro e w2 ⟨rfl, h2⟩
    have h3 := grown_then h1 h2
    have hm2 := Lib.hid (HM.out _ h3)
    go_wp2_with fail
    with_reducible refine (works11_any _ hm2.out).mono ?_
    rintro e w3 ⟨rfl, h4⟩
    go_wp2
    go_ret
    exact ⟨rfl, grown_then h3 h4⟩
end Go.Proofs.YtemmeoikenbmgaaDoor
