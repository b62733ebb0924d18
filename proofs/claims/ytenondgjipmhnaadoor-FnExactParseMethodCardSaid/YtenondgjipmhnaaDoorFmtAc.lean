/- What the two functions FormatAccess answer. Conditions: none beyond each theorem's own. -/
import Derived.Test.YtenondgjipmhnaaDoorFmtG
namespace Go.Proofs.YtenondgjipmhnaaDoor
open Go.ChangeShapes Go.WideShapes Go.ChangeAt Go.RowKit Go.Sort
set_option linter.unusedVariables false
set_option linter.unusedSimpArgs false

/-- Has the access a text? -/
def acOk (r : Int) (xs : List Int) : Bool := inB r 0 4 && decide (xs.length ≤ 3) && allB 0 9 xs
/-- The text of an access. -/
def fmtAc (r : Int) (xs : List Int) : ByteArray := if acOk r xs = true then ⟨([109, dg r, 40] ++ commaL xs ++ [41]).toArray⟩ else ⟨#[]⟩
theorem fmtAc_yes {r : Int} {xs : List Int} (h : acOk r xs = true) : fmtAc r xs = ⟨([109, dg r, 40] ++ commaL xs ++ [41]).toArray⟩ := if_pos h
theorem fmtAc_no {r : Int} {xs : List Int} (h : acOk r xs = false) : fmtAc r xs = ⟨#[]⟩ := if_neg (by simp [h])

end Go.Proofs.YtenondgjipmhnaaDoor
