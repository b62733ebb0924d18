/-
  DERIVED. GIVEN WITH THE SEED: THE CARDS: each row of YtdakfcgjnmmdgaaDoorRows.lean that lists a variable, with what it lists TIED to the program's text (the seventh form; the later family's looks); each row that meets fmt, with fmt's text TOLD by the authors' own Lean function (tested against real Go, not proved from fmt's source: count such statements apart). THE CARD IS WHAT COUNTS. Prove the row's statement (the work); the ties are given (YtdakfcgjnmmdgaaDoorTie.lean); close each card by the builder's one call (the guide's Derived/Test/ToyasCard.lean, 'card_holds'). Laid BY PROGRAM, IN A SANDBOX (cutbox-door.mjs). By AI agents, Wed Nov 11 2026. No macro, syntax, notation, axiom, sorry.
-/
import Derived.Test.YtdakfcgjnmmdgaaDoorRows
import GoSem.ClaimSeven
namespace Go.Proofs.YtdakfcgjnmmdgaaDoor
namespace Rows

/-- THE TIED CARD OF 'laws.FnExactFormatTuples'. -/
def fnExactFormatTuplesCard : Claim7 := { stood := { row := fnExactFormatTuplesRow, standIns := [], harness := (true, "73792ad33e125e1bfe6d75c0e0eeca811460856921b5baa62b671b28fed824d4"), looks := false }, kinds := [], alts := [], laidByText := true, laidKinds := [.data, .data, .data], laidTests := true, laidLooks := .later }
def FnExactFormatTuplesCardSaid : Prop := Claim7.holds Tryd.pinned (.plain (OpenSpec.ofChange fnExactFormatTuplesSpec)) fnExactFormatTuplesCard

/-- THE SECOND FORM's CARD OF 'laws.FnExactFormatTuples'. -/
def fnExactFormatTuplesUptoCard : Claim7 := { stood := { row := fnExactFormatTuplesUptoRow, standIns := [], harness := (true, "73792ad33e125e1bfe6d75c0e0eeca811460856921b5baa62b671b28fed824d4"), looks := false }, kinds := [], alts := [], laidByText := true, laidKinds := [.data, .data, .data], laidTests := true, laidLooks := .later }
def FnExactFormatTuplesUptoCardSaid : Prop := Claim7.holds Tryd.pinned (.plain (OpenSpec.upto fnExactFormatTuplesSpec)) fnExactFormatTuplesUptoCard
end Rows
end Go.Proofs.YtdakfcgjnmmdgaaDoor
