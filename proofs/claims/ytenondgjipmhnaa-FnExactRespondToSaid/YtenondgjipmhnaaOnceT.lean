/- What impl.insertOnce answers at lists of numbers. Conditions: none beyond each theorem's own. -/
import Derived.Test.YtenondgjipmhnaaOnceF
import Derived.Test.YtenondgjipmhnaaTup
namespace Go.Proofs.Ytenondgjipmhnaa
open Go.ChangeShapes Go.WideShapes Go.ChangeAt Go.RowKit Go.Sort
set_option linter.unusedVariables false
set_option linter.unusedSimpArgs false

/-- The first place at which p holds, or -1. -/
def IdxFT (w : World) (n : Nat) (p : Nat → Bool) (e : Ending) (w' : World) : Prop :=
  ((∃ k, k < n ∧ (∀ j, j < k → p j = false) ∧ p k = true ∧ e = .returned (.int .i64 k)) ∨ ((∀ j, j < n → p j = false) ∧ e = .returned (.int .i64 (-1)))) ∧ Below w.heap.size w w'

/-- A list of lists of the call's own, at the head of block g; the numbers' blocks lie from lo on. -/
def CopyT (w : World) (fs : TL) (e : Ending) (w' : World) : Prop :=
  e = .returned (.slice (some ⟨w.heap.size, 0, none⟩) fs.length fs.length) ∧ OwnT w' w.heap.size w'.heap.size w.heap.size fs.length fs.length fs ∧ Below w.heap.size w w' ∧ w.heap.size < w'.heap.size
end Go.Proofs.Ytenondgjipmhnaa
