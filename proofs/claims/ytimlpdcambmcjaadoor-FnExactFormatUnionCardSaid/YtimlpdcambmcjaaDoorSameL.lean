/- What the two functions SameFacts answer. Conditions: none beyond each theorem's own. -/
import Derived.Test.YtimlpdcambmcjaaDoorHas
namespace Go.Proofs.YtimlpdcambmcjaaDoor
open Go.ChangeShapes Go.WideShapes Go.ChangeAt Go.RowKit Go.Sort
set_option linter.unusedVariables false
set_option linter.unusedSimpArgs false

def sameL (us bs : FL) : Bool := decide (us = bs)
theorem fl_take (us bs : FL) (hl : us.length = bs.length) (k : Nat) (hk : k < us.length) (h : us.take k = bs.take k) {r r' : Int} {xs ys : List Int} (ha : us.getD k (0, []) = (r, xs)) (hb : bs.getD k (0, []) = (r', ys)) (hs : sameB r xs r' ys = true) : us.take (k + 1) = bs.take (k + 1) := by
  rw [List.take_succ_eq_append_getElem hk, List.take_succ_eq_append_getElem (by omega), h]
  have h1 : us[k] = us.getD k (0, []) := by simp [List.getD_eq_getElem?_getD, hk]
  have h2 : bs[k]'(by omega) = bs.getD k (0, []) := by simp [List.getD_eq_getElem?_getD, show k < bs.length by omega]
  rw [h1, h2, ha, hb]
  simp [sameB] at hs
  rw [hs.1, hs.2]
theorem fl_differ (us bs : FL) (k : Nat) {r r' : Int} {xs ys : List Int} (ha : us.getD k (0, []) = (r, xs)) (hb : bs.getD k (0, []) = (r', ys)) (hs : sameB r xs r' ys = false) : sameL us bs = false := by
  unfold sameL
  rw [decide_eq_false]
  rintro rfl
  rw [ha] at hb
  injection hb with h1 h2
  subst h1 h2
  simp [sameB] at hs

end Go.Proofs.YtimlpdcambmcjaaDoor
