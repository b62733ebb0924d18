/-
  DERIVED. GIVEN WITH THE SEED: THE CARDS: each row of YtdmnboeepcipbaaDoorRows.lean that lists a variable, with what it lists TIED to the program's text (the seventh form; the later family's looks); each row that meets fmt, with fmt's text TOLD by the authors' own Lean function (tested against real Go, not proved from fmt's source: count such statements apart). THE CARD IS WHAT COUNTS. Prove the row's statement (the work); the ties are given (YtdmnboeepcipbaaDoorTie.lean); close each card by the builder's one call (the guide's Derived/Test/ToyasCard.lean, 'card_holds'). Laid BY PROGRAM, IN A SANDBOX (cutbox-door.mjs). By AI agents, Wed Nov 11 2026. No macro, syntax, notation, axiom, sorry.
-/
import Derived.Test.YtdmnboeepcipbaaDoorRows
import GoSem.ClaimSeven
namespace Go.Proofs.YtdmnboeepcipbaaDoor
namespace Rows

/-- THE TIED CARD OF 'laws.FnExactFormatOrder'. -/
def fnExactFormatOrderCard : Claim7 := { stood := { row := fnExactFormatOrderRow, standIns := [], harness := (true, "c6fa8397b7c6b99b8f8f2a75ac4812cb28c10dc92ab6ece43359baa8f609a9f2"), looks := false }, kinds := [], alts := [], laidByText := true, laidKinds := [.data, .data, .data], laidTests := true, laidLooks := .later }
def FnExactFormatOrderCardSaid : Prop := Claim7.holds Tryd.pinned (.plain (OpenSpec.ofChange fnExactFormatOrderSpec)) fnExactFormatOrderCard

/-- THE SECOND FORM's CARD OF 'laws.FnExactFormatOrder'. -/
def fnExactFormatOrderUptoCard : Claim7 := { stood := { row := fnExactFormatOrderUptoRow, standIns := [], harness := (true, "c6fa8397b7c6b99b8f8f2a75ac4812cb28c10dc92ab6ece43359baa8f609a9f2"), looks := false }, kinds := [], alts := [], laidByText := true, laidKinds := [.data, .data, .data], laidTests := true, laidLooks := .later }
def FnExactFormatOrderUptoCardSaid : Prop := Claim7.holds Tryd.pinned (.plain (OpenSpec.upto fnExactFormatOrderSpec)) fnExactFormatOrderUptoCard
end Rows
end Go.Proofs.YtdmnboeepcipbaaDoor
