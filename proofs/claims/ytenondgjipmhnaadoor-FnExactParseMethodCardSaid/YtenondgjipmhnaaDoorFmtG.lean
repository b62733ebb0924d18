/- What the two functions FormatFact answer. Conditions: none beyond each theorem's own. -/
import Derived.Test.YtenondgjipmhnaaDoorFmtF
namespace Go.Proofs.YtenondgjipmhnaaDoor
open Go.ChangeShapes Go.WideShapes Go.ChangeAt Go.RowKit Go.Sort
set_option linter.unusedVariables false
set_option linter.unusedSimpArgs false

theorem fmt_cat (p : UInt8) (r : Int) (L : List UInt8) : (⟨#[p]⟩ : ByteArray) ++ ⟨#[dg r]⟩ ++ ⟨#[40]⟩ ++ ⟨L.toArray⟩ ++ ⟨#[41]⟩ = ⟨([p, dg r, 40] ++ L ++ [41]).toArray⟩ := by
  rw [show (⟨#[p]⟩ : ByteArray) = ⟨[p].toArray⟩ from rfl, show (⟨#[dg r]⟩ : ByteArray) = ⟨[dg r].toArray⟩ from rfl, show (⟨#[40]⟩ : ByteArray) = ⟨[40].toArray⟩ from rfl, show (⟨#[41]⟩ : ByteArray) = ⟨[41].toArray⟩ from rfl, ba_append, ba_append, ba_append, ba_append]
  simp

/-- The table of powers of ten holds, and will while no old memory turns. -/
def TabB (w : World) : Prop := ∀ w', Below w.heap.size w w' → Tab w'
theorem TabB.of {w : World} (h : Tab w) : TabB w := Lib.tabBelow_of_tabIs h
theorem TabB.step {w w' : World} (h : TabB w) (b : Below w.heap.size w w') : TabB w' := fun w2 b2 => h w2 (Go.Proofs.YtenondgjipmhnaaDoor.step b b2)
end Go.Proofs.YtenondgjipmhnaaDoor
