/- Package jstring's lower, number. -/
import Derived.Test.YtnbhhnkcfbfdcaaDoorZC
import Derived.Test.YtnbhhnkcfbfdcaaDoorZG
import Derived.Test.YtnbhhnkcfbfdcaaDoorZE
namespace Go.Proofs.YtnbhhnkcfbfdcaaDoor
open Go Go.RowKit
set_option linter.unusedVariables false

theorem jLow_lt {r : Nat} (h : r < 256) : jLow r < 256 := by
  unfold jLow; split <;> omega

end Go.Proofs.YtnbhhnkcfbfdcaaDoor
