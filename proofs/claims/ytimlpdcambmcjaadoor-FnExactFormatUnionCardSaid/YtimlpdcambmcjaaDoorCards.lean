/-
  DERIVED. GIVEN WITH THE SEED: THE CARDS: each row of YtimlpdcambmcjaaDoorRows.lean that lists a variable, with what it lists TIED to the program's text (the seventh form; the later family's looks); each row that meets fmt, with fmt's text TOLD by the authors' own Lean function (tested against real Go, not proved from fmt's source: count such statements apart). THE CARD IS WHAT COUNTS. Prove the row's statement (the work); the ties are given (YtimlpdcambmcjaaDoorTie.lean); close each card by the builder's one call (the guide's Derived/Test/ToyasCard.lean, 'card_holds'). Laid BY PROGRAM, IN A SANDBOX (cutbox-door.mjs). By AI agents, Wed Nov 11 2026. No macro, syntax, notation, axiom, sorry.
-/
import Derived.Test.YtimlpdcambmcjaaDoorRows
import GoSem.ClaimSeven
namespace Go.Proofs.YtimlpdcambmcjaaDoor
namespace Rows

/-- THE TIED CARD OF 'laws.FnExactFormatUnion'. -/
def fnExactFormatUnionCard : Claim7 := { stood := { row := fnExactFormatUnionRow, standIns := [], harness := (true, "34888e32edfc41f8cd9f950c6b7f9781a576b2ee5d04c68add466f9bcc5ece2b"), looks := false }, kinds := [], alts := [], laidByText := true, laidKinds := [.data, .data, .data], laidTests := true, laidLooks := .later }
def FnExactFormatUnionCardSaid : Prop := Claim7.holds Tryd.pinned (.plain (OpenSpec.ofChange fnExactFormatUnionSpec)) fnExactFormatUnionCard

/-- THE SECOND FORM's CARD OF 'laws.FnExactFormatUnion'. -/
def fnExactFormatUnionUptoCard : Claim7 := { stood := { row := fnExactFormatUnionUptoRow, standIns := [], harness := (true, "34888e32edfc41f8cd9f950c6b7f9781a576b2ee5d04c68add466f9bcc5ece2b"), looks := false }, kinds := [], alts := [], laidByText := true, laidKinds := [.data, .data, .data], laidTests := true, laidLooks := .later }
def FnExactFormatUnionUptoCardSaid : Prop := Claim7.holds Tryd.pinned (.plain (OpenSpec.upto fnExactFormatUnionSpec)) fnExactFormatUnionUptoCard
end Rows
end Go.Proofs.YtimlpdcambmcjaaDoor
