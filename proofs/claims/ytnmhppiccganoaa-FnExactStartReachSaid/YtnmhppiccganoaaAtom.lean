/- Atoms in memory, read, copied, compared and marked. Conditions: none beyond each theorem's own. -/
import Derived.Test.YtnmhppiccganoaaMark2
namespace Go.Proofs.Ytnmhppiccganoaa.atom
open Go.ChangeShapes Go.WideShapes Go.ChangeAt Go.RowKit Go.Sort
set_option linter.unusedVariables false
set_option linter.unusedSimpArgs false

section
variable {H : Type} {enc : TypeId × Value → H} {w : World}
end
/-- Is (r, xs) a fact of the schema s? -/
def factB (s : List Int) (r : Int) (xs : List Int) : Bool := schB s && inB r 0 ((s.length : Int) - 1) && decide ((xs.length : Int) = s.getD r.toNat 0) && allB 0 17 xs

end Go.Proofs.Ytnmhppiccganoaa.atom
