/- Two lists of the same facts are found equal by the law's own comparison. Conditions: none beyond each theorem's own. -/
import Derived.Test.YtimlpdcambmcjaaOwn
namespace Go.Proofs.Ytimlpdcambmcjaa
open Go.ChangeShapes Go.WideShapes Go.ChangeAt Go.RowKit
set_option linter.unusedVariables false
set_option linter.unusedSimpArgs false

theorem OwnP.rf {w : World} {lo g m : Nat} {fs : FL} (h : OwnP w lo w.heap.size g m fs.length fs) (hm : fs.length * 2 ≤ m) : RF w (some ⟨g, 0, none⟩) fs := (h.facts hm).mono (Nat.zero_le _) (Nat.le_refl _)
end Go.Proofs.Ytimlpdcambmcjaa
