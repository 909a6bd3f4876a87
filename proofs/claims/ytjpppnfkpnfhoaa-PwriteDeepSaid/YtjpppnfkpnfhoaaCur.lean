/- The calls of package cursor, each as a contract over the cursor's block. -/
import Derived.Test.YtjpppnfkpnfhoaaRows
import Derived.Test.YtjpppnfkpnfhoaaPlain
import Derived.Deep.QuietTactic
import Derived.BigQuiet
import Derived.Handy
import Derived.WalkSpells
import Derived.WalkLawsBesides
namespace Go.Proofs.Ytjpppnfkpnfhoaa
open Go Go.RowKit
set_option linter.unusedVariables false

theorem ret_int {k : IntKind} {a b : Int} (h : a = b) : Ending.returned (.int k a) = .returned (.int k b) := by rw [h]









end Go.Proofs.Ytjpppnfkpnfhoaa
