/- Sub, and the calls at a nil cursor. -/
import Derived.Test.YtjpppnfkpnfhoaaCur3
namespace Go.Proofs.Ytjpppnfkpnfhoaa
open Go Go.RowKit
set_option linter.unusedVariables false







end Go.Proofs.Ytjpppnfkpnfhoaa
