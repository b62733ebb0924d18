/- The listed variables of the card of ParseFact: a world that holds them, and what the list gives a walk. Conditions: none beyond each theorem's own. -/
import Derived.Test.YtenondgjipmhnaaDoorDoor
namespace Go.Proofs.YtenondgjipmhnaaDoor
open Go.ChangeShapes Go.WideShapes Go.ChangeAt Go.RowKit
set_option linter.unusedVariables false

/-- The third variable of a longer list holds the powers of ten. -/
theorem tableP {W : World} {n1 n2 : String} {d1 d2 : DataW Unit} {rest : List (String × DataW Unit)} (h : laidMet Tryd.prog ((n1, d1) :: (n2, d2) :: ("internal/strconv.uint64pow10", Rows.laid_internal_strconv_uint64pow10) :: rest) W) : Tab W := by
  rw [tabEq] at h
  obtain ⟨ps, ⟨_, _, _, _, _, _, _, _, _, _, ⟨_, _, _, _, _, _, _, _, _, _, ⟨g', t', cs, fuel, p, q, hg', ht', hvar, hd, _, _⟩, _⟩, _⟩, _⟩ := h
  obtain rfl := Option.some.inj (gTab.symm.trans hg')
  obtain rfl := Option.some.inj (gTabType.symm.trans ht')
  unfold Tab Lib.TabIs
  rw [hvar, ← Lib.cells_of_tab Tryd.underlying104 Tryd.underlying96 cellsU64 cellsTab hd]

/-- The cells that a datum of an array of pairs lays. -/
def cellsOfData2 : DataW Unit → Array Value
  | .agg parts => (parts.flatMap fun
      | .agg qs => qs.map fun
          | .lit (.int k n) => Value.int k n
          | _ => undef
      | _ => []).toArray
  | _ => #[]
noncomputable def laidWorldP (os : Os) : World :=
  let w0 := laidWorld os
  let put (h : Array Obj) (g : Nat) (cs : Array Value) : Array Obj := h.modify g fun
    | .cells _ t frozen => .cells cs t frozen
    | o => o
  let h1 := put w0.heap 3 (cellsOfData2 Rows.laid_unicode_utf8_acceptRanges)
  let h2 := put h1 2 (cellsOfData Rows.laid_unicode_utf8_first)
  { w0 with heap := h2 }
end Go.Proofs.YtenondgjipmhnaaDoor
