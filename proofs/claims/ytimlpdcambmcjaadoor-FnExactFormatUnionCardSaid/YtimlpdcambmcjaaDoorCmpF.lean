/- What the two functions CompareFacts answer. Conditions: none beyond each theorem's own. -/
import Derived.Test.YtimlpdcambmcjaaDoorCmp
namespace Go.Proofs.YtimlpdcambmcjaaDoor
open Go.ChangeShapes Go.WideShapes Go.ChangeAt Go.RowKit
set_option linter.unusedVariables false
set_option linter.unusedSimpArgs false

theorem RI_new2 (w : World) (x y : Int) (t : TypeId) : RI (w.alloc (.cells #[.int .i64 x, .int .i64 y] t)) (some ⟨w.heap.size, 0, none⟩) [x, y] := fun _ =>
  ⟨w.heap.size, 0, rfl, Nat.zero_le _, by simp, fun k hk => by
    rw [cell_new]
    simp at hk
    rcases (by omega : k = 0 ∨ k = 1) with rfl | rfl <;> rfl⟩

theorem cmpF_lt {r r' : Int} (xs ys : List Int) (h : r < r') : cmpF r xs r' ys = -1 := by simp [cmpF, h]
theorem cmpF_gt {r r' : Int} (xs ys : List Int) (h : r' < r) : cmpF r xs r' ys = 1 := by simp [cmpF, h, show ¬ r < r' by omega]
theorem cmpF_eq (r : Int) (xs ys : List Int) : cmpF r xs r ys = cmpL xs ys := by simp [cmpF]

end Go.Proofs.YtimlpdcambmcjaaDoor
