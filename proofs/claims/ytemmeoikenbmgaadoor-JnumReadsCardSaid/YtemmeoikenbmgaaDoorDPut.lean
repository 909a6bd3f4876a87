/- Package deci's behind, PutU, Put. -/
import Derived.Test.YtemmeoikenbmgaaDoorDLib
import Derived.Test.YtemmeoikenbmgaaDoorApp
namespace Go.Proofs.YtemmeoikenbmgaaDoor
open Go Go.RowKit
set_option linter.unusedVariables false

end Go.Proofs.YtemmeoikenbmgaaDoor
