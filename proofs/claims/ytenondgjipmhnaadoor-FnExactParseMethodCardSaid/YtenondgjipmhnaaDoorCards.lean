/-
  DERIVED. GIVEN WITH THE SEED: THE CARDS: each row of YtenondgjipmhnaaDoorRows.lean that lists a variable, with what it lists TIED to the program's text (the seventh form; the later family's looks); each row that meets fmt, with fmt's text TOLD by the authors' own Lean function (tested against real Go, not proved from fmt's source: count such statements apart). THE CARD IS WHAT COUNTS. Prove the row's statement (the work); the ties are given (YtenondgjipmhnaaDoorTie.lean); close each card by the builder's one call (the guide's Derived/Test/ToyasCard.lean, 'card_holds'). Laid BY PROGRAM, IN A SANDBOX (cutbox-door.mjs). By AI agents, Wed Nov 11 2026. No macro, syntax, notation, axiom, sorry.
-/
import Derived.Test.YtenondgjipmhnaaDoorRows
import GoSem.ClaimSeven
namespace Go.Proofs.YtenondgjipmhnaaDoor
namespace Rows

/-- THE TIED CARD OF 'laws.FnExactFormatMethod'. -/
def fnExactFormatMethodCard : Claim7 := { stood := { row := fnExactFormatMethodRow, standIns := [], harness := (true, "7ed563899b542cad57b2cfc49ce8587cfa02821f012dc9565637ad23b7054f6b"), looks := false }, kinds := [], alts := [], laidByText := true, laidKinds := [.data, .data, .data], laidTests := true, laidLooks := .later }
def FnExactFormatMethodCardSaid : Prop := Claim7.holds Tryd.pinned (.plain (OpenSpec.ofChange fnExactFormatMethodSpec)) fnExactFormatMethodCard

/-- THE TIED CARD OF 'laws.FnExactParseMethod'. -/
def fnExactParseMethodCard : Claim7 := { stood := { row := fnExactParseMethodRow, standIns := [], harness := (true, "7ed563899b542cad57b2cfc49ce8587cfa02821f012dc9565637ad23b7054f6b"), looks := false }, kinds := [], alts := [], laidByText := true, laidKinds := [.data, .data, .data, .data, .pinned], laidTests := true, laidLooks := .later }
def FnExactParseMethodCardSaid : Prop := Claim7.holds Tryd.pinned (.plain (OpenSpec.ofChange fnExactParseMethodSpec)) fnExactParseMethodCard

/-- THE SECOND FORM's CARD OF 'laws.FnExactFormatMethod'. -/
def fnExactFormatMethodUptoCard : Claim7 := { stood := { row := fnExactFormatMethodUptoRow, standIns := [], harness := (true, "7ed563899b542cad57b2cfc49ce8587cfa02821f012dc9565637ad23b7054f6b"), looks := false }, kinds := [], alts := [], laidByText := true, laidKinds := [.data, .data, .data], laidTests := true, laidLooks := .later }
def FnExactFormatMethodUptoCardSaid : Prop := Claim7.holds Tryd.pinned (.plain (OpenSpec.upto fnExactFormatMethodSpec)) fnExactFormatMethodUptoCard

/-- THE SECOND FORM's CARD OF 'laws.FnExactParseMethod'. -/
def fnExactParseMethodUptoCard : Claim7 := { stood := { row := fnExactParseMethodUptoRow, standIns := [], harness := (true, "7ed563899b542cad57b2cfc49ce8587cfa02821f012dc9565637ad23b7054f6b"), looks := false }, kinds := [], alts := [], laidByText := true, laidKinds := [.data, .data, .data, .data, .pinned], laidTests := true, laidLooks := .later }
def FnExactParseMethodUptoCardSaid : Prop := Claim7.holds Tryd.pinned (.plain (OpenSpec.upto fnExactParseMethodSpec)) fnExactParseMethodUptoCard
end Rows
end Go.Proofs.YtenondgjipmhnaaDoor
