/- What impl.insertOnce answers at facts. Conditions: none beyond each theorem's own. -/
import Derived.Test.YtenondgjipmhnaaAddM
namespace Go.Proofs.Ytenondgjipmhnaa
open Go.ChangeShapes Go.WideShapes Go.ChangeAt Go.RowKit Go.Sort
set_option linter.unusedVariables false
set_option linter.unusedSimpArgs false

/-- The first place at which p holds, or -1. -/
def IdxFF (w : World) (n : Nat) (p : Nat → Bool) (e : Ending) (w' : World) : Prop :=
  ((∃ k, k < n ∧ (∀ j, j < k → p j = false) ∧ p k = true ∧ e = .returned (.int .i64 k)) ∨ ((∀ j, j < n → p j = false) ∧ e = .returned (.int .i64 (-1)))) ∧ Below w.heap.size w w'

end Go.Proofs.Ytenondgjipmhnaa
