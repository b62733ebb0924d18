/- What the two functions AreFacts answer. Conditions: none beyond each theorem's own. -/
import Derived.Test.YtimlpdcambmcjaaEqList
import Derived.Lib.QuietBelow
namespace Go.Proofs.Ytimlpdcambmcjaa
open Go.ChangeShapes Go.WideShapes Go.ChangeAt Go.RowKit Go.Sort
set_option linter.unusedVariables false
set_option linter.unusedSimpArgs false

/-- Is number k of the list a fact that is greater than the one before? -/
def okAt (s : List Int) (l : FL) (k : Nat) : Bool := factB s (l.getD k (0, [])).1 (l.getD k (0, [])).2 && (decide (k = 0) || decide (cmpF (l.getD (k - 1) (0, [])).1 (l.getD (k - 1) (0, [])).2 (l.getD k (0, [])).1 (l.getD k (0, [])).2 < 0))
def allOk (s : List Int) (l : FL) (n : Nat) : Bool := (List.range n).all (okAt s l)
theorem allOk_succ (s : List Int) (l : FL) (k : Nat) : allOk s l (k + 1) = (allOk s l k && okAt s l k) := by
  unfold allOk
  rw [List.range_succ, List.all_append]
  simp
theorem allOk_not (s : List Int) (l : FL) (k n : Nat) (hk : k < n) (h : okAt s l k = false) : allOk s l n = false := by
  unfold allOk
  rw [List.all_eq_false]
  exact ⟨k, by simpa using hk, by simp [h]⟩
def areB (s : List Int) (l : FL) : Bool := allOk s l l.length && schB s && decide (l.length ≤ 24)

end Go.Proofs.Ytimlpdcambmcjaa
