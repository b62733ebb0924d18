/- What the program's ParseFact answers. Conditions: none beyond each theorem's own. -/
import Derived.Test.YtenondgjipmhnaaDoorPp
namespace Go.Proofs.YtenondgjipmhnaaDoor
open Go.ChangeShapes Go.WideShapes Go.ChangeAt Go.RowKit Go.Sort
set_option linter.unusedVariables false
set_option linter.unusedSimpArgs false

end Go.Proofs.YtenondgjipmhnaaDoor
