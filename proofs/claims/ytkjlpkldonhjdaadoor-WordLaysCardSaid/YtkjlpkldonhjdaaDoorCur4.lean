/- Sub, and the calls at a nil cursor. -/
import Derived.Test.YtkjlpkldonhjdaaDoorCur3
namespace Go.Proofs.YtkjlpkldonhjdaaDoor
open Go Go.RowKit
set_option linter.unusedVariables false



theorem allows_nil (w : World) :
    Calls Tryd.prog 44 #[.pointer none, .int .i64 0] w fun e w' => e = .returned (.bool false) ∧ w' = w := by
  go_enter Tryd.func44, Tryd.ntmps44
  go_wp2_with (first | ((with_reducible refine (left_nil _).mono ?_); rintro e w1 ⟨rfl, rfl⟩) | ((with_reducible refine (err_nil _).mono ?_); rintro e w1 ⟨rfl, rfl⟩))
  go_ret
  exact ⟨rfl, rfl⟩

theorem take_nil (w : World) :
    Calls Tryd.prog 35 #[.pointer none, .int .i64 0] w fun e w' => e = .returned (.string ⟨#[]⟩) ∧ w' = w := by
  have hmf : ∀ (fn : Fn) (first cap : Array Value) (w : World), (Instr.makeFunc fn first cap).run Tryd.prog w = .ok (.func fn first cap) w := fun _ _ _ _ => rfl
  go_enter Tryd.func35, Tryd.ntmps35
  go_wp2_with (first | ((with_reducible refine (allows_nil _).mono ?_); rintro e w1 ⟨rfl, rfl⟩) | go_in)
  go_ret
  exact ⟨rfl, rfl⟩


end Go.Proofs.YtkjlpkldonhjdaaDoor
