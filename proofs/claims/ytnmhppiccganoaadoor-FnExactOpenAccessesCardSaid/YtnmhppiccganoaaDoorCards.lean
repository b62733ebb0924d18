/-
  DERIVED. GIVEN WITH THE SEED: THE CARDS: each row of YtnmhppiccganoaaDoorRows.lean that lists a variable, with what it lists TIED to the program's text (the seventh form; the later family's looks); each row that meets fmt, with fmt's text TOLD by the authors' own Lean function (tested against real Go, not proved from fmt's source: count such statements apart). THE CARD IS WHAT COUNTS. Prove the row's statement (the work); the ties are given (YtnmhppiccganoaaDoorTie.lean); close each card by the builder's one call (the guide's Derived/Test/ToyasCard.lean, 'card_holds'). Laid BY PROGRAM, IN A SANDBOX (cutbox-door.mjs). By AI agents, Wed Nov 11 2026. No macro, syntax, notation, axiom, sorry.
-/
import Derived.Test.YtnmhppiccganoaaDoorRows
import GoSem.ClaimSeven
namespace Go.Proofs.YtnmhppiccganoaaDoor
namespace Rows

/-- THE TIED CARD OF 'laws.FnExactOpenAccesses'. -/
def fnExactOpenAccessesCard : Claim7 := { stood := { row := fnExactOpenAccessesRow, standIns := [], harness := (true, "9bb4a5ccaf82be2dfce4f4334c257692571f4d4968f5d1d4064580fe95ac3bf3"), looks := false }, kinds := [], alts := [], laidByText := true, laidKinds := [.data, .data, .data], laidTests := true, laidLooks := .later }
def FnExactOpenAccessesCardSaid : Prop := Claim7.holds Tryd.pinned (.plain (OpenSpec.ofChange fnExactOpenAccessesSpec)) fnExactOpenAccessesCard

/-- THE SECOND FORM's CARD OF 'laws.FnExactOpenAccesses'. -/
def fnExactOpenAccessesUptoCard : Claim7 := { stood := { row := fnExactOpenAccessesUptoRow, standIns := [], harness := (true, "9bb4a5ccaf82be2dfce4f4334c257692571f4d4968f5d1d4064580fe95ac3bf3"), looks := false }, kinds := [], alts := [], laidByText := true, laidKinds := [.data, .data, .data], laidTests := true, laidLooks := .later }
def FnExactOpenAccessesUptoCardSaid : Prop := Claim7.holds Tryd.pinned (.plain (OpenSpec.upto fnExactOpenAccessesSpec)) fnExactOpenAccessesUptoCard
end Rows
end Go.Proofs.YtnmhppiccganoaaDoor
