/- Package word's lists of bytes: 'copied', with what memory holds a list ('Bts'). -/
import Derived.Test.YtmiagebcobcaiaaDoorRows
import Derived.Test.YtmiagebcobcaiaaDoorPlain
import Derived.Test.YtmiagebcobcaiaaDoorWordBytes
import Derived.Test.YtmiagebcobcaiaaDoorBts
import Derived.Deep.QuietTactic
import Derived.BigQuiet
import Derived.Handy
import Derived.WalkSpells
import Derived.WalkLawsBesides
import Derived.OwnWalk
import Derived.Laws.OwnMore
import Derived.Laws.IdiomCopy
namespace Go.Proofs.YtmiagebcobcaiaaDoor
open Go Go.RowKit
set_option linter.unusedVariables false

end Go.Proofs.YtmiagebcobcaiaaDoor
