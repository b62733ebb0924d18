/- What the functions on a query's variables and constants answer. Conditions: none beyond each theorem's own. -/
import Derived.Test.YtnmhppiccganoaaVars
namespace Go.Proofs.Ytnmhppiccganoaa
open Go.ChangeShapes Go.WideShapes Go.ChangeAt Go.RowKit Go.Sort
open Go.Deep (BT)
set_option linter.unusedVariables false
set_option linter.unusedSimpArgs false

end Go.Proofs.Ytnmhppiccganoaa
