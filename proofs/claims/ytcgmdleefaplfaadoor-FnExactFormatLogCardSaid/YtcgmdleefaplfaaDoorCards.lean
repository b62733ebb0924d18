/-
  DERIVED. GIVEN WITH THE SEED: THE CARDS: each row of YtcgmdleefaplfaaDoorRows.lean that lists a variable, with what it lists TIED to the program's text (the seventh form; the later family's looks); each row that meets fmt, with fmt's text TOLD by the authors' own Lean function (tested against real Go, not proved from fmt's source: count such statements apart). THE CARD IS WHAT COUNTS. Prove the row's statement (the work); the ties are given (YtcgmdleefaplfaaDoorTie.lean); close each card by the builder's one call (the guide's Derived/Test/ToyasCard.lean, 'card_holds'). Laid BY PROGRAM, IN A SANDBOX (cutbox-door.mjs). By AI agents, Wed Nov 11 2026. No macro, syntax, notation, axiom, sorry.
-/
import Derived.Test.YtcgmdleefaplfaaDoorRows
import GoSem.ClaimSeven
namespace Go.Proofs.YtcgmdleefaplfaaDoor
namespace Rows

/-- THE TIED CARD OF 'laws.FnExactFormatLog'. -/
def fnExactFormatLogCard : Claim7 := { stood := { row := fnExactFormatLogRow, standIns := [], harness := (true, "91b7edd39f6a590117239267a24a3bc996e86c70bb9b9b225b5e217aab393808"), looks := false }, kinds := [], alts := [], laidByText := true, laidKinds := [.data, .data, .data], laidTests := true, laidLooks := .later }
def FnExactFormatLogCardSaid : Prop := Claim7.holds Tryd.pinned (.plain (OpenSpec.ofChange fnExactFormatLogSpec)) fnExactFormatLogCard

/-- THE TIED CARD OF 'laws.FnExactFormatAccess'. -/
def fnExactFormatAccessCard : Claim7 := { stood := { row := fnExactFormatAccessRow, standIns := [], harness := (true, "91b7edd39f6a590117239267a24a3bc996e86c70bb9b9b225b5e217aab393808"), looks := false }, kinds := [], alts := [], laidByText := true, laidKinds := [.data, .data, .data], laidTests := true, laidLooks := .later }
def FnExactFormatAccessCardSaid : Prop := Claim7.holds Tryd.pinned (.plain (OpenSpec.ofChange fnExactFormatAccessSpec)) fnExactFormatAccessCard

/-- THE SECOND FORM's CARD OF 'laws.FnExactFormatLog'. -/
def fnExactFormatLogUptoCard : Claim7 := { stood := { row := fnExactFormatLogUptoRow, standIns := [], harness := (true, "91b7edd39f6a590117239267a24a3bc996e86c70bb9b9b225b5e217aab393808"), looks := false }, kinds := [], alts := [], laidByText := true, laidKinds := [.data, .data, .data], laidTests := true, laidLooks := .later }
def FnExactFormatLogUptoCardSaid : Prop := Claim7.holds Tryd.pinned (.plain (OpenSpec.upto fnExactFormatLogSpec)) fnExactFormatLogUptoCard

/-- THE SECOND FORM's CARD OF 'laws.FnExactFormatAccess'. -/
def fnExactFormatAccessUptoCard : Claim7 := { stood := { row := fnExactFormatAccessUptoRow, standIns := [], harness := (true, "91b7edd39f6a590117239267a24a3bc996e86c70bb9b9b225b5e217aab393808"), looks := false }, kinds := [], alts := [], laidByText := true, laidKinds := [.data, .data, .data], laidTests := true, laidLooks := .later }
def FnExactFormatAccessUptoCardSaid : Prop := Claim7.holds Tryd.pinned (.plain (OpenSpec.upto fnExactFormatAccessSpec)) fnExactFormatAccessUptoCard
end Rows
end Go.Proofs.YtcgmdleefaplfaaDoor
