/- Bindings in memory: their size, their copy, their comparison by the law. Conditions: none beyond each theorem's own. -/
import Derived.Test.YtighalbnpgmdfaaGreatEqList
namespace Go.Proofs.YtighalbnpgmdfaaGreat
open Go.ChangeShapes Go.WideShapes Go.ChangeAt Go.RowKit
set_option linter.unusedVariables false
set_option linter.unusedSimpArgs false

section
variable {H : Type} {enc : TypeId × Value → H} {w : World}
end

/-- How many values a binding holds. -/
def szB (hs l : List Int) : Int := (hs.length : Int) + (l.length : Int)

/-- A binding of the call's own: its variables in block g, its values in block g + 1. -/
def BX (w : World) (g : Nat) (hs l : List Int) : Prop := Row w g hs ∧ Row w (g + 1) l
theorem BX.step {w w' : World} {g : Nat} {hs l : List Int} (h : BX w g hs l) (b : Below w.heap.size w w') : BX w' g hs l :=
  ⟨h.1.of_block (b.block _ (World.rowIs.lt h.1)), h.2.of_block (b.block _ (World.rowIs.lt h.2))⟩
theorem BX.ri {w : World} {g : Nat} {hs l : List Int} (h : BX w g hs l) : RI w (some ⟨g, 0, none⟩) hs := h.1.ri
theorem BX.rv {w : World} {g : Nat} {hs l : List Int} (h : BX w g hs l) : RI w (some ⟨g + 1, 0, none⟩) l := h.2.ri

end Go.Proofs.YtighalbnpgmdfaaGreat
