/- What the two functions BlockedAtoms answer. Conditions: none beyond each theorem's own. -/
import Derived.Test.YtcgmdleefaplfaaOr8
namespace Go.Proofs.Ytcgmdleefaplfaa
open Go.ChangeShapes Go.WideShapes Go.ChangeAt Go.RowKit Go.Sort
set_option linter.unusedVariables false
set_option linter.unusedSimpArgs false

theorem usedB_step {p : SL} {k : Nat} (hk : k < p.length) {a m : Int} (hf : p.getD k (0, 0) = (a, m)) (i : Int) : usedB (p.take (k + 1)) i = (usedB (p.take k) i || decide (i = a)) := by
  rw [take_snoc p hk hf, usedB_snoc]

end Go.Proofs.Ytcgmdleefaplfaa
