/-
  DERIVED. GIVEN WITH THE SEED: THE CARDS: each row of YtjgjencgdmofnaaDoorRows.lean that lists a variable, with what it lists TIED to the program's text (the seventh form; the later family's looks); each row that meets fmt, with fmt's text TOLD by the authors' own Lean function (tested against real Go, not proved from fmt's source: count such statements apart). THE CARD IS WHAT COUNTS. Prove the row's statement (the work); the ties are given (YtjgjencgdmofnaaDoorTie.lean); close each card by the builder's one call (the guide's Derived/Test/ToyasCard.lean, 'card_holds'). Laid BY PROGRAM, IN A SANDBOX (cutbox-door.mjs). By AI agents, Wed Nov 11 2026. No macro, syntax, notation, axiom, sorry.
-/
import Derived.Test.YtjgjencgdmofnaaDoorRows
import GoSem.ClaimSeven
namespace Go.Proofs.YtjgjencgdmofnaaDoor
namespace Rows

/-- THE TIED CARD OF 'laws.FnExactFormatMethod'. -/
def fnExactFormatMethodCard : Claim7 := { stood := { row := fnExactFormatMethodRow, standIns := [], harness := (true, "0cec9dfe3bdfeb5868f34d5d9318d058c2ecd409c75e391d0aee572d35cd6465"), looks := false }, kinds := [], alts := [], laidByText := true, laidKinds := [.data, .data, .data], laidTests := true, laidLooks := .later }
def FnExactFormatMethodCardSaid : Prop := Claim7.holds Tryd.pinned (.plain (OpenSpec.ofChange fnExactFormatMethodSpec)) fnExactFormatMethodCard

/-- THE TIED CARD OF 'laws.FnExactParseMethod'. -/
def fnExactParseMethodCard : Claim7 := { stood := { row := fnExactParseMethodRow, standIns := [], harness := (true, "0cec9dfe3bdfeb5868f34d5d9318d058c2ecd409c75e391d0aee572d35cd6465"), looks := false }, kinds := [], alts := [], laidByText := true, laidKinds := [.data, .data, .data, .data, .pinned], laidTests := true, laidLooks := .later }
def FnExactParseMethodCardSaid : Prop := Claim7.holds Tryd.pinned (.plain (OpenSpec.ofChange fnExactParseMethodSpec)) fnExactParseMethodCard

/-- THE TIED CARD OF 'laws.FnExactFormatAccess'. -/
def fnExactFormatAccessCard : Claim7 := { stood := { row := fnExactFormatAccessRow, standIns := [], harness := (true, "0cec9dfe3bdfeb5868f34d5d9318d058c2ecd409c75e391d0aee572d35cd6465"), looks := false }, kinds := [], alts := [], laidByText := true, laidKinds := [.data, .data, .data], laidTests := true, laidLooks := .later }
def FnExactFormatAccessCardSaid : Prop := Claim7.holds Tryd.pinned (.plain (OpenSpec.ofChange fnExactFormatAccessSpec)) fnExactFormatAccessCard

/-- THE SECOND FORM's CARD OF 'laws.FnExactFormatMethod'. -/
def fnExactFormatMethodUptoCard : Claim7 := { stood := { row := fnExactFormatMethodUptoRow, standIns := [], harness := (true, "0cec9dfe3bdfeb5868f34d5d9318d058c2ecd409c75e391d0aee572d35cd6465"), looks := false }, kinds := [], alts := [], laidByText := true, laidKinds := [.data, .data, .data], laidTests := true, laidLooks := .later }
def FnExactFormatMethodUptoCardSaid : Prop := Claim7.holds Tryd.pinned (.plain (OpenSpec.upto fnExactFormatMethodSpec)) fnExactFormatMethodUptoCard

/-- THE SECOND FORM's CARD OF 'laws.FnExactParseMethod'. -/
def fnExactParseMethodUptoCard : Claim7 := { stood := { row := fnExactParseMethodUptoRow, standIns := [], harness := (true, "0cec9dfe3bdfeb5868f34d5d9318d058c2ecd409c75e391d0aee572d35cd6465"), looks := false }, kinds := [], alts := [], laidByText := true, laidKinds := [.data, .data, .data, .data, .pinned], laidTests := true, laidLooks := .later }
def FnExactParseMethodUptoCardSaid : Prop := Claim7.holds Tryd.pinned (.plain (OpenSpec.upto fnExactParseMethodSpec)) fnExactParseMethodUptoCard

/-- THE SECOND FORM's CARD OF 'laws.FnExactFormatAccess'. -/
def fnExactFormatAccessUptoCard : Claim7 := { stood := { row := fnExactFormatAccessUptoRow, standIns := [], harness := (true, "0cec9dfe3bdfeb5868f34d5d9318d058c2ecd409c75e391d0aee572d35cd6465"), looks := false }, kinds := [], alts := [], laidByText := true, laidKinds := [.data, .data, .data], laidTests := true, laidLooks := .later }
def FnExactFormatAccessUptoCardSaid : Prop := Claim7.holds Tryd.pinned (.plain (OpenSpec.upto fnExactFormatAccessSpec)) fnExactFormatAccessUptoCard
end Rows
end Go.Proofs.YtjgjencgdmofnaaDoor
