/-
  No cell of these rows narrows 'for every input' (looked for: loops, veiled, ifaces, maps, wideKeys, modest, calm, conditions, laid).
  DERIVED. THE GIVEN ROWS OF THIS SEAT. 10 by the template 'for every input the law returns true; each argument reads behind the call as it read before'; 0 by the template 'total and deterministic' (their statements: YtcgmdleefaplfaaTotals.lean).
  GIVEN WITH THE SEED: the statements are not yours to turn. If you find one false, say at which input.
  Laid BY PROGRAM, IN A SANDBOX (cutbox-rows.mjs): the forced cells as the released guide's own fill.sh prints them over the translation 6bfb0074ab163878… (all of the seat's roots in one cut). By AI agents, Wed Nov 11 2026. No macro, syntax, notation, axiom, sorry.
-/
import Derived.Test.YtcgmdleefaplfaaChecked
import GoSem.Claim
import GoSem.ClaimJoined
import GoSem.ClaimMapViews
import Derived.JoinedTies
import Derived.KernelRfl
namespace Go.Proofs.Ytcgmdleefaplfaa
/- THE CELL 'sum', in the pinned program and in every row, IS THE sha256 OF THE DUMP (.gsa) THAT YtcgmdleefaplfaaProg.lean LOADS. Nothing in Lean hashes anything: it is a label: what it is worth is what the hold of that sum in a sandbox is worth. -/
noncomputable def Try.pinned : Pinned := { name := "ytcgmdleefaplfaa", sum := "6bfb0074ab1638788da3de2c755e0b99c120d908a6a3b5798b77bb4029b7a8fd", checked := Try.checked }
namespace Rows
def none {H : Type} : Left H := { results := [], args := [] }

/-- 'laws.FnExactUsesOf': WHATEVER THE INPUT: true; the input reads as it did. -/
def fnExactUsesOfSpec : ChangeSpec := { name := "fnExactUsesOf", fn := fun _ => fun
  | [d1, d2] => { results := [.lit (.bool true)], args := [d1, d2] }
  | _ => none }
def fnExactUsesOfRow : OpenClaim := { program := "ytcgmdleefaplfaa", sum := "6bfb0074ab1638788da3de2c755e0b99c120d908a6a3b5798b77bb4029b7a8fd", func := "loop.example/g01989/laws.FnExactUsesOf", spec := "fnExactUsesOf", apart := false }
def FnExactUsesOfSaid : Prop := fnExactUsesOfRow.holds Try.pinned (OpenSpec.ofChange fnExactUsesOfSpec)

/-- ITS FALSE NEIGHBOUR: 'it returns false'. Refute it at one input. -/
def fnExactUsesOfWrong : ChangeSpec := { name := "fnExactUsesOf", fn := fun _ => fun
  | [d1, d2] => { results := [.lit (.bool false)], args := [d1, d2] }
  | _ => none }
def FnExactUsesOfWrongFalsely : Prop := fnExactUsesOfRow.holds Try.pinned (OpenSpec.ofChange fnExactUsesOfWrong)

/-- 'laws.FnExactLogCost': WHATEVER THE INPUT: true; the input reads as it did. -/
def fnExactLogCostSpec : ChangeSpec := { name := "fnExactLogCost", fn := fun _ => fun
  | [d1, d2] => { results := [.lit (.bool true)], args := [d1, d2] }
  | _ => none }
def fnExactLogCostRow : OpenClaim := { program := "ytcgmdleefaplfaa", sum := "6bfb0074ab1638788da3de2c755e0b99c120d908a6a3b5798b77bb4029b7a8fd", func := "loop.example/g01989/laws.FnExactLogCost", spec := "fnExactLogCost", apart := false }
def FnExactLogCostSaid : Prop := fnExactLogCostRow.holds Try.pinned (OpenSpec.ofChange fnExactLogCostSpec)

/-- ITS FALSE NEIGHBOUR: 'it returns false'. Refute it at one input. -/
def fnExactLogCostWrong : ChangeSpec := { name := "fnExactLogCost", fn := fun _ => fun
  | [d1, d2] => { results := [.lit (.bool false)], args := [d1, d2] }
  | _ => none }
def FnExactLogCostWrongFalsely : Prop := fnExactLogCostRow.holds Try.pinned (OpenSpec.ofChange fnExactLogCostWrong)

/-- 'laws.FnExactIsWithinQuota': WHATEVER THE INPUT: true; the input reads as it did. -/
def fnExactIsWithinQuotaSpec : ChangeSpec := { name := "fnExactIsWithinQuota", fn := fun _ => fun
  | [d1, d2] => { results := [.lit (.bool true)], args := [d1, d2] }
  | _ => none }
def fnExactIsWithinQuotaRow : OpenClaim := { program := "ytcgmdleefaplfaa", sum := "6bfb0074ab1638788da3de2c755e0b99c120d908a6a3b5798b77bb4029b7a8fd", func := "loop.example/g01989/laws.FnExactIsWithinQuota", spec := "fnExactIsWithinQuota", apart := false }
def FnExactIsWithinQuotaSaid : Prop := fnExactIsWithinQuotaRow.holds Try.pinned (OpenSpec.ofChange fnExactIsWithinQuotaSpec)

/-- ITS FALSE NEIGHBOUR: 'it returns false'. Refute it at one input. -/
def fnExactIsWithinQuotaWrong : ChangeSpec := { name := "fnExactIsWithinQuota", fn := fun _ => fun
  | [d1, d2] => { results := [.lit (.bool false)], args := [d1, d2] }
  | _ => none }
def FnExactIsWithinQuotaWrongFalsely : Prop := fnExactIsWithinQuotaRow.holds Try.pinned (OpenSpec.ofChange fnExactIsWithinQuotaWrong)

/-- 'laws.FnExactIsExact': WHATEVER THE INPUT: true; the input reads as it did. -/
def fnExactIsExactSpec : ChangeSpec := { name := "fnExactIsExact", fn := fun _ => fun
  | [d1, d2] => { results := [.lit (.bool true)], args := [d1, d2] }
  | _ => none }
def fnExactIsExactRow : OpenClaim := { program := "ytcgmdleefaplfaa", sum := "6bfb0074ab1638788da3de2c755e0b99c120d908a6a3b5798b77bb4029b7a8fd", func := "loop.example/g01989/laws.FnExactIsExact", spec := "fnExactIsExact", unfollowed := true, recurses := true, apart := false }
def FnExactIsExactSaid : Prop := fnExactIsExactRow.holds Try.pinned (OpenSpec.ofChange fnExactIsExactSpec)

/-- ITS FALSE NEIGHBOUR: 'it returns false'. Refute it at one input. -/
def fnExactIsExactWrong : ChangeSpec := { name := "fnExactIsExact", fn := fun _ => fun
  | [d1, d2] => { results := [.lit (.bool false)], args := [d1, d2] }
  | _ => none }
def FnExactIsExactWrongFalsely : Prop := fnExactIsExactRow.holds Try.pinned (OpenSpec.ofChange fnExactIsExactWrong)

/-- 'laws.FnExactOrderCost': WHATEVER THE INPUT: true; the input reads as it did. -/
def fnExactOrderCostSpec : ChangeSpec := { name := "fnExactOrderCost", fn := fun _ => fun
  | [d1, d2] => { results := [.lit (.bool true)], args := [d1, d2] }
  | _ => none }
def fnExactOrderCostRow : OpenClaim := { program := "ytcgmdleefaplfaa", sum := "6bfb0074ab1638788da3de2c755e0b99c120d908a6a3b5798b77bb4029b7a8fd", func := "loop.example/g01989/laws.FnExactOrderCost", spec := "fnExactOrderCost", apart := false }
def FnExactOrderCostSaid : Prop := fnExactOrderCostRow.holds Try.pinned (OpenSpec.ofChange fnExactOrderCostSpec)

/-- ITS FALSE NEIGHBOUR: 'it returns false'. Refute it at one input. -/
def fnExactOrderCostWrong : ChangeSpec := { name := "fnExactOrderCost", fn := fun _ => fun
  | [d1, d2] => { results := [.lit (.bool false)], args := [d1, d2] }
  | _ => none }
def FnExactOrderCostWrongFalsely : Prop := fnExactOrderCostRow.holds Try.pinned (OpenSpec.ofChange fnExactOrderCostWrong)

/-- 'laws.FnExactCheapestOrder': WHATEVER THE INPUT: true; the input reads as it did. -/
def fnExactCheapestOrderSpec : ChangeSpec := { name := "fnExactCheapestOrder", fn := fun _ => fun
  | [d1, d2, d3] => { results := [.lit (.bool true)], args := [d1, d2, d3] }
  | _ => none }
def fnExactCheapestOrderRow : OpenClaim := { program := "ytcgmdleefaplfaa", sum := "6bfb0074ab1638788da3de2c755e0b99c120d908a6a3b5798b77bb4029b7a8fd", func := "loop.example/g01989/laws.FnExactCheapestOrder", spec := "fnExactCheapestOrder", unfollowed := true, recurses := true, apart := false }
def FnExactCheapestOrderSaid : Prop := fnExactCheapestOrderRow.holds Try.pinned (OpenSpec.ofChange fnExactCheapestOrderSpec)

/-- ITS FALSE NEIGHBOUR: 'it returns false'. Refute it at one input. -/
def fnExactCheapestOrderWrong : ChangeSpec := { name := "fnExactCheapestOrder", fn := fun _ => fun
  | [d1, d2, d3] => { results := [.lit (.bool false)], args := [d1, d2, d3] }
  | _ => none }
def FnExactCheapestOrderWrongFalsely : Prop := fnExactCheapestOrderRow.holds Try.pinned (OpenSpec.ofChange fnExactCheapestOrderWrong)

/-- 'laws.FnExactIsAccess': WHATEVER THE INPUT: true; the input reads as it did. -/
def fnExactIsAccessSpec : ChangeSpec := { name := "fnExactIsAccess", fn := fun _ => fun
  | [d1, d2, d3] => { results := [.lit (.bool true)], args := [d1, d2, d3] }
  | _ => none }
def fnExactIsAccessRow : OpenClaim := { program := "ytcgmdleefaplfaa", sum := "6bfb0074ab1638788da3de2c755e0b99c120d908a6a3b5798b77bb4029b7a8fd", func := "loop.example/g01989/laws.FnExactIsAccess", spec := "fnExactIsAccess", unfollowed := true, recurses := true, apart := false }
def FnExactIsAccessSaid : Prop := fnExactIsAccessRow.holds Try.pinned (OpenSpec.ofChange fnExactIsAccessSpec)

/-- ITS FALSE NEIGHBOUR: 'it returns false'. Refute it at one input. -/
def fnExactIsAccessWrong : ChangeSpec := { name := "fnExactIsAccess", fn := fun _ => fun
  | [d1, d2, d3] => { results := [.lit (.bool false)], args := [d1, d2, d3] }
  | _ => none }
def FnExactIsAccessWrongFalsely : Prop := fnExactIsAccessRow.holds Try.pinned (OpenSpec.ofChange fnExactIsAccessWrong)

/-- 'laws.FnExactMatchesOf': WHATEVER THE INPUT: true; the input reads as it did. -/
def fnExactMatchesOfSpec : ChangeSpec := { name := "fnExactMatchesOf", fn := fun _ => fun
  | [d1, d2, d3, d4] => { results := [.lit (.bool true)], args := [d1, d2, d3, d4] }
  | _ => none }
def fnExactMatchesOfRow : OpenClaim := { program := "ytcgmdleefaplfaa", sum := "6bfb0074ab1638788da3de2c755e0b99c120d908a6a3b5798b77bb4029b7a8fd", func := "loop.example/g01989/laws.FnExactMatchesOf", spec := "fnExactMatchesOf", unfollowed := true, recurses := true, apart := false }
def FnExactMatchesOfSaid : Prop := fnExactMatchesOfRow.holds Try.pinned (OpenSpec.ofChange fnExactMatchesOfSpec)

/-- ITS FALSE NEIGHBOUR: 'it returns false'. Refute it at one input. -/
def fnExactMatchesOfWrong : ChangeSpec := { name := "fnExactMatchesOf", fn := fun _ => fun
  | [d1, d2, d3, d4] => { results := [.lit (.bool false)], args := [d1, d2, d3, d4] }
  | _ => none }
def FnExactMatchesOfWrongFalsely : Prop := fnExactMatchesOfRow.holds Try.pinned (OpenSpec.ofChange fnExactMatchesOfWrong)

/-- 'laws.FnExactIsResponse': WHATEVER THE INPUT: true; the input reads as it did. -/
def fnExactIsResponseSpec : ChangeSpec := { name := "fnExactIsResponse", fn := fun _ => fun
  | [d1, d2, d3, d4, d5] => { results := [.lit (.bool true)], args := [d1, d2, d3, d4, d5] }
  | _ => none }
def fnExactIsResponseRow : OpenClaim := { program := "ytcgmdleefaplfaa", sum := "6bfb0074ab1638788da3de2c755e0b99c120d908a6a3b5798b77bb4029b7a8fd", func := "loop.example/g01989/laws.FnExactIsResponse", spec := "fnExactIsResponse", unfollowed := true, recurses := true, apart := false }
def FnExactIsResponseSaid : Prop := fnExactIsResponseRow.holds Try.pinned (OpenSpec.ofChange fnExactIsResponseSpec)

/-- ITS FALSE NEIGHBOUR: 'it returns false'. Refute it at one input. -/
def fnExactIsResponseWrong : ChangeSpec := { name := "fnExactIsResponse", fn := fun _ => fun
  | [d1, d2, d3, d4, d5] => { results := [.lit (.bool false)], args := [d1, d2, d3, d4, d5] }
  | _ => none }
def FnExactIsResponseWrongFalsely : Prop := fnExactIsResponseRow.holds Try.pinned (OpenSpec.ofChange fnExactIsResponseWrong)

/-- 'laws.FnExactRespondTo': WHATEVER THE INPUT: true; the input reads as it did. -/
def fnExactRespondToSpec : ChangeSpec := { name := "fnExactRespondTo", fn := fun _ => fun
  | [d1, d2, d3, d4, d5] => { results := [.lit (.bool true)], args := [d1, d2, d3, d4, d5] }
  | _ => none }
def fnExactRespondToRow : OpenClaim := { program := "ytcgmdleefaplfaa", sum := "6bfb0074ab1638788da3de2c755e0b99c120d908a6a3b5798b77bb4029b7a8fd", func := "loop.example/g01989/laws.FnExactRespondTo", spec := "fnExactRespondTo", unfollowed := true, recurses := true, apart := false }
def FnExactRespondToSaid : Prop := fnExactRespondToRow.holds Try.pinned (OpenSpec.ofChange fnExactRespondToSpec)

/-- ITS FALSE NEIGHBOUR: 'it returns false'. Refute it at one input. -/
def fnExactRespondToWrong : ChangeSpec := { name := "fnExactRespondTo", fn := fun _ => fun
  | [d1, d2, d3, d4, d5] => { results := [.lit (.bool false)], args := [d1, d2, d3, d4, d5] }
  | _ => none }
def FnExactRespondToWrongFalsely : Prop := fnExactRespondToRow.holds Try.pinned (OpenSpec.ofChange fnExactRespondToWrong)

/- THE SECOND FORM. 'bulk': how many values and letters a reading holds, each counted each time it is reached (what is shared counts as often as it is met; a slice's spare places count too). A statement '..UptoSaid' is the law's where the arguments, and the package variables that the reading takes, are together of bulk at most 1048576: NARROWER than '..Said'. Prove '..Said' where nothing that the law and all that it calls make is longer than what came in: it says more and counts as full. Else prove '..UptoSaid'. A law counts once. -/
mutual
def uptoBulk {H : Type} : DataW H → Nat
  | .lit (.string bytes) => bytes.length + 1
  | .lit _ => 1
  | .nil => 1
  | .ptr d => uptoBulk d + 1
  | .slice elems spare => uptoBulkAll elems + uptoBulkAll spare + 1
  | .agg parts => uptoBulkAll parts + 1
  | .iface _ d => uptoBulk d + 1
  | .map entries => uptoBulkEntries entries + 1
  | .held _ => 1
def uptoBulkAll {H : Type} : List (DataW H) → Nat
  | [] => 0
  | d :: r => uptoBulk d + uptoBulkAll r
def uptoBulkEntries {H : Type} : List (Lit × DataW H) → Nat
  | [] => 0
  | x :: r => uptoBulkEntry x + uptoBulkEntries r
def uptoBulkEntry {H : Type} : Lit × DataW H → Nat
  | (.string bytes, d) => bytes.length + uptoBulk d + 1
  | (_, d) => uptoBulk d + 1
 end
def uptoSmall : (H : Type) → List (DataW H) → Bool := fun _ ds => decide (uptoBulkAll ds ≤ 1048576)
def OpenSpec.upto (s : _root_.Go.ChangeSpec) : _root_.Go.OpenSpec := { _root_.Go.OpenSpec.ofChange s with cond := some uptoSmall }

/-- 'laws.FnExactUsesOf', WHERE WHAT IT READS IS OF BULK AT MOST 1048576: true; the input reads as it did. -/
def fnExactUsesOfUptoRow : OpenClaim := { program := "ytcgmdleefaplfaa", sum := "6bfb0074ab1638788da3de2c755e0b99c120d908a6a3b5798b77bb4029b7a8fd", func := "loop.example/g01989/laws.FnExactUsesOf", spec := "fnExactUsesOf", apart := false, narrowed := true }
def FnExactUsesOfUptoSaid : Prop := fnExactUsesOfUptoRow.holds Try.pinned (OpenSpec.upto fnExactUsesOfSpec)

/-- 'laws.FnExactLogCost', WHERE WHAT IT READS IS OF BULK AT MOST 1048576: true; the input reads as it did. -/
def fnExactLogCostUptoRow : OpenClaim := { program := "ytcgmdleefaplfaa", sum := "6bfb0074ab1638788da3de2c755e0b99c120d908a6a3b5798b77bb4029b7a8fd", func := "loop.example/g01989/laws.FnExactLogCost", spec := "fnExactLogCost", apart := false, narrowed := true }
def FnExactLogCostUptoSaid : Prop := fnExactLogCostUptoRow.holds Try.pinned (OpenSpec.upto fnExactLogCostSpec)

/-- 'laws.FnExactIsWithinQuota', WHERE WHAT IT READS IS OF BULK AT MOST 1048576: true; the input reads as it did. -/
def fnExactIsWithinQuotaUptoRow : OpenClaim := { program := "ytcgmdleefaplfaa", sum := "6bfb0074ab1638788da3de2c755e0b99c120d908a6a3b5798b77bb4029b7a8fd", func := "loop.example/g01989/laws.FnExactIsWithinQuota", spec := "fnExactIsWithinQuota", apart := false, narrowed := true }
def FnExactIsWithinQuotaUptoSaid : Prop := fnExactIsWithinQuotaUptoRow.holds Try.pinned (OpenSpec.upto fnExactIsWithinQuotaSpec)

/-- 'laws.FnExactIsExact', WHERE WHAT IT READS IS OF BULK AT MOST 1048576: true; the input reads as it did. -/
def fnExactIsExactUptoRow : OpenClaim := { program := "ytcgmdleefaplfaa", sum := "6bfb0074ab1638788da3de2c755e0b99c120d908a6a3b5798b77bb4029b7a8fd", func := "loop.example/g01989/laws.FnExactIsExact", spec := "fnExactIsExact", unfollowed := true, recurses := true, apart := false, narrowed := true }
def FnExactIsExactUptoSaid : Prop := fnExactIsExactUptoRow.holds Try.pinned (OpenSpec.upto fnExactIsExactSpec)

/-- 'laws.FnExactOrderCost', WHERE WHAT IT READS IS OF BULK AT MOST 1048576: true; the input reads as it did. -/
def fnExactOrderCostUptoRow : OpenClaim := { program := "ytcgmdleefaplfaa", sum := "6bfb0074ab1638788da3de2c755e0b99c120d908a6a3b5798b77bb4029b7a8fd", func := "loop.example/g01989/laws.FnExactOrderCost", spec := "fnExactOrderCost", apart := false, narrowed := true }
def FnExactOrderCostUptoSaid : Prop := fnExactOrderCostUptoRow.holds Try.pinned (OpenSpec.upto fnExactOrderCostSpec)

/-- 'laws.FnExactCheapestOrder', WHERE WHAT IT READS IS OF BULK AT MOST 1048576: true; the input reads as it did. -/
def fnExactCheapestOrderUptoRow : OpenClaim := { program := "ytcgmdleefaplfaa", sum := "6bfb0074ab1638788da3de2c755e0b99c120d908a6a3b5798b77bb4029b7a8fd", func := "loop.example/g01989/laws.FnExactCheapestOrder", spec := "fnExactCheapestOrder", unfollowed := true, recurses := true, apart := false, narrowed := true }
def FnExactCheapestOrderUptoSaid : Prop := fnExactCheapestOrderUptoRow.holds Try.pinned (OpenSpec.upto fnExactCheapestOrderSpec)

/-- 'laws.FnExactIsAccess', WHERE WHAT IT READS IS OF BULK AT MOST 1048576: true; the input reads as it did. -/
def fnExactIsAccessUptoRow : OpenClaim := { program := "ytcgmdleefaplfaa", sum := "6bfb0074ab1638788da3de2c755e0b99c120d908a6a3b5798b77bb4029b7a8fd", func := "loop.example/g01989/laws.FnExactIsAccess", spec := "fnExactIsAccess", unfollowed := true, recurses := true, apart := false, narrowed := true }
def FnExactIsAccessUptoSaid : Prop := fnExactIsAccessUptoRow.holds Try.pinned (OpenSpec.upto fnExactIsAccessSpec)

/-- 'laws.FnExactMatchesOf', WHERE WHAT IT READS IS OF BULK AT MOST 1048576: true; the input reads as it did. -/
def fnExactMatchesOfUptoRow : OpenClaim := { program := "ytcgmdleefaplfaa", sum := "6bfb0074ab1638788da3de2c755e0b99c120d908a6a3b5798b77bb4029b7a8fd", func := "loop.example/g01989/laws.FnExactMatchesOf", spec := "fnExactMatchesOf", unfollowed := true, recurses := true, apart := false, narrowed := true }
def FnExactMatchesOfUptoSaid : Prop := fnExactMatchesOfUptoRow.holds Try.pinned (OpenSpec.upto fnExactMatchesOfSpec)

/-- 'laws.FnExactIsResponse', WHERE WHAT IT READS IS OF BULK AT MOST 1048576: true; the input reads as it did. -/
def fnExactIsResponseUptoRow : OpenClaim := { program := "ytcgmdleefaplfaa", sum := "6bfb0074ab1638788da3de2c755e0b99c120d908a6a3b5798b77bb4029b7a8fd", func := "loop.example/g01989/laws.FnExactIsResponse", spec := "fnExactIsResponse", unfollowed := true, recurses := true, apart := false, narrowed := true }
def FnExactIsResponseUptoSaid : Prop := fnExactIsResponseUptoRow.holds Try.pinned (OpenSpec.upto fnExactIsResponseSpec)

/-- 'laws.FnExactRespondTo', WHERE WHAT IT READS IS OF BULK AT MOST 1048576: true; the input reads as it did. -/
def fnExactRespondToUptoRow : OpenClaim := { program := "ytcgmdleefaplfaa", sum := "6bfb0074ab1638788da3de2c755e0b99c120d908a6a3b5798b77bb4029b7a8fd", func := "loop.example/g01989/laws.FnExactRespondTo", spec := "fnExactRespondTo", unfollowed := true, recurses := true, apart := false, narrowed := true }
def FnExactRespondToUptoSaid : Prop := fnExactRespondToUptoRow.holds Try.pinned (OpenSpec.upto fnExactRespondToSpec)

end Rows
end Go.Proofs.Ytcgmdleefaplfaa
