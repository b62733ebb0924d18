/- What the functions on lists of numbers answer. Conditions: none beyond each theorem's own. -/
import Derived.Test.YtdmnboeepcipbaaDoorInts
namespace Go.Proofs.YtdmnboeepcipbaaDoor
open Go.ChangeShapes Go.WideShapes Go.ChangeAt Go.RowKit
set_option linter.unusedVariables false

theorem term_yes {x : Int} (h : inB x 0 9 = true) : inB x 0 17 = true := by
  simp [inB] at h ⊢
  omega
theorem term_no {x : Int} (h : inB x 0 9 = false) : inB x 0 17 = inB x 10 17 := by
  have h' : ¬ (0 ≤ x ∧ x ≤ 9) := by simpa [inB] using h
  unfold inB
  rw [Bool.eq_iff_iff]
  simp
  omega
theorem eq_take (xs ys : List Int) (hl : xs.length = ys.length) (k : Nat) (hk : k < xs.length) (h : xs.take k = ys.take k) (he : xs.getD k 0 = ys.getD k 0) : xs.take (k + 1) = ys.take (k + 1) := by
  rw [List.take_succ_eq_append_getElem hk, List.take_succ_eq_append_getElem (by omega), h]
  have h1 : xs[k] = xs.getD k 0 := by simp [List.getD_eq_getElem?_getD, hk]
  have h2 : ys[k]'(by omega) = ys.getD k 0 := by simp [List.getD_eq_getElem?_getD, show k < ys.length by omega]
  rw [h1, h2, he]

end Go.Proofs.YtdmnboeepcipbaaDoor
