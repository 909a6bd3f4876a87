/- Package jstring's plain. -/
import Derived.Test.YtnbhhnkcfbfdcaaDoorZI
import Derived.Test.YtnbhhnkcfbfdcaaDoorURefB
import Derived.Test.YtnbhhnkcfbfdcaaDoorApp
namespace Go.Proofs.YtnbhhnkcfbfdcaaDoor
open Go Go.RowKit
set_option linter.unusedVariables false

end Go.Proofs.YtnbhhnkcfbfdcaaDoor
