/- Lists of facts: their size, their copy, their comparison by the law. Conditions: none beyond each theorem's own. -/
import Derived.Test.YtimlpdcambmcjaaCmpF
namespace Go.Proofs.Ytimlpdcambmcjaa
open Go.ChangeShapes Go.WideShapes Go.ChangeAt Go.RowKit
set_option linter.unusedVariables false
set_option linter.unusedSimpArgs false

abbrev FL := List (Int × List Int)
def sumN (l : FL) : Nat := (l.map fun f => f.2.length).sum
/-- How many values a list of facts holds, each fact counted, too. -/
def szF (l : FL) : Int := (l.length : Int) + (sumN l : Int)
theorem szF_nonneg (l : FL) : 0 ≤ szF l := by unfold szF; omega
theorem szF_len {l : FL} (h : szF l ≤ 1048576) : l.length ≤ 1048576 := by unfold szF at h; omega
theorem sumN_take (l : FL) (k : Nat) (hk : k < l.length) : sumN (l.take (k + 1)) = sumN (l.take k) + (l.getD k (0, [])).2.length := by
  unfold sumN
  rw [List.take_succ_eq_append_getElem hk, List.map_append, List.sum_append]
  simp [List.getD_eq_getElem?_getD, hk]
theorem sumN_le (l : FL) (k : Nat) : sumN (l.take k) ≤ sumN l := by
  have : sumN l = sumN (l.take k) + sumN (l.drop k) := by
    unfold sumN
    rw [← List.sum_append, ← List.map_append, List.take_append_drop]
  omega
theorem szF_elem {l : FL} (h : szF l ≤ 1048576) {k : Nat} (hk : k < l.length) : (l.getD k (0, [])).2.length ≤ 1048576 := by
  have h1 := sumN_take l k hk
  have h2 := sumN_le l (k + 1)
  unfold szF at h
  omega

/-- What is left, or -1. -/
def szR (left z : Int) : Int := if left - z < 0 then -1 else left - z
theorem szR_neg {left z : Int} (h : left - z < 0) : szR left z = -1 := if_pos h
theorem szR_pos {left z : Int} (h : ¬ left - z < 0) : szR left z = left - z := if_neg h

end Go.Proofs.Ytimlpdcambmcjaa
