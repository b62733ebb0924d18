/- What the law of AddFact carries from call to call. Conditions: none beyond each theorem's own. -/
import Derived.Test.YtimlpdcambmcjaaDoorMark
namespace Go.Proofs.YtimlpdcambmcjaaDoor
open Go.ChangeShapes Go.WideShapes Go.ChangeAt Go.RowKit Go.Sort
set_option linter.unusedVariables false
set_option linter.unusedSimpArgs false

theorem Row.step {w w' : World} {g : Nat} {xs : List Int} (h : Row w g xs) (b : Below w.heap.size w w') : Row w' g xs := h.of_block (b.block _ (World.rowIs.lt h))

theorem addF_pos (l : FL) (r : Int) (xs : List Int) : 0 < (addF l r xs).length := by
  unfold addF
  split
  · rename_i h
    rcases l with _ | ⟨g, t⟩
    · cases h
    · simp
  · cases l with
    | nil => simp [addI]
    | cons g t => rw [addI]; split <;> simp
theorem szF_elem_b {l : FL} (h : szF l ≤ 1048577) {k : Nat} (hk : k < l.length) : (l.getD k (0, [])).2.length ≤ 2097152 := by
  have h1 := sumN_take l k hk
  have h2 := sumN_le l (k + 1)
  unfold szF at h
  omega
end Go.Proofs.YtimlpdcambmcjaaDoor
