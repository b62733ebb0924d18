/- slices.Insert of one element into a row without room. Conditions: none beyond each theorem's own. -/
import Derived.Test.YtenondgjipmhnaaInsM
import Derived.Laws.IdiomCopy
import Derived.Lib.AppendZerosOnto
import Derived.Lib.LazyBuf
import Derived.Lib.AppendStr
import Derived.Shelf.Spec.SlicesInsert
import Derived.Laws.NewBlocks
namespace Go.Proofs.Ytenondgjipmhnaa
open Go.ChangeShapes Go.WideShapes Go.ChangeAt Go.RowKit Go.Sort Go.Lib
set_option linter.unusedVariables false
set_option linter.unusedSimpArgs false


end Go.Proofs.Ytenondgjipmhnaa
