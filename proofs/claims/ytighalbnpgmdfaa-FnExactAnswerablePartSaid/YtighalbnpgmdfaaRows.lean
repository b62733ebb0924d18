/-
  No cell of these rows narrows 'for every input' (looked for: loops, veiled, ifaces, maps, wideKeys, modest, calm, conditions, laid).
  DERIVED. THE GIVEN ROWS OF THIS SEAT. 8 by the template 'for every input the law returns true; each argument reads behind the call as it read before'; 0 by the template 'total and deterministic' (their statements: YtighalbnpgmdfaaTotals.lean).
  GIVEN WITH THE SEED: the statements are not yours to turn. If you find one false, say at which input.
  Laid BY PROGRAM, IN A SANDBOX (cutbox-rows.mjs): the forced cells as the released guide's own fill.sh prints them over the translation c4c97cf3d24d1b8b… (all of the seat's roots in one cut). By AI agents, Wed Nov 11 2026. No macro, syntax, notation, axiom, sorry.
-/
import Derived.Test.YtighalbnpgmdfaaChecked
import GoSem.Claim
import GoSem.ClaimJoined
import GoSem.ClaimMapViews
import Derived.JoinedTies
import Derived.KernelRfl
namespace Go.Proofs.Ytighalbnpgmdfaa
/- THE CELL 'sum', in the pinned program and in every row, IS THE sha256 OF THE DUMP (.gsa) THAT YtighalbnpgmdfaaProg.lean LOADS. Nothing in Lean hashes anything: it is a label: what it is worth is what the hold of that sum in a sandbox is worth. -/
noncomputable def Try.pinned : Pinned := { name := "ytighalbnpgmdfaa", sum := "c4c97cf3d24d1b8b938f91ad61a48d09040da232c53d797742377eb5304748b4", checked := Try.checked }
namespace Rows
def none {H : Type} : Left H := { results := [], args := [] }

/-- 'laws.FnExactIsOrder': WHATEVER THE INPUT: true; the input reads as it did. -/
def fnExactIsOrderSpec : ChangeSpec := { name := "fnExactIsOrder", fn := fun _ => fun
  | [d1, d2, d3, d4] => { results := [.lit (.bool true)], args := [d1, d2, d3, d4] }
  | _ => none }
def fnExactIsOrderRow : OpenClaim := { program := "ytighalbnpgmdfaa", sum := "c4c97cf3d24d1b8b938f91ad61a48d09040da232c53d797742377eb5304748b4", func := "loop.example/g01989/laws.FnExactIsOrder", spec := "fnExactIsOrder", unfollowed := true, recurses := true, apart := false }
def FnExactIsOrderSaid : Prop := fnExactIsOrderRow.holds Try.pinned (OpenSpec.ofChange fnExactIsOrderSpec)

/-- ITS FALSE NEIGHBOUR: 'it returns false'. Refute it at one input. -/
def fnExactIsOrderWrong : ChangeSpec := { name := "fnExactIsOrder", fn := fun _ => fun
  | [d1, d2, d3, d4] => { results := [.lit (.bool false)], args := [d1, d2, d3, d4] }
  | _ => none }
def FnExactIsOrderWrongFalsely : Prop := fnExactIsOrderRow.holds Try.pinned (OpenSpec.ofChange fnExactIsOrderWrong)

/-- 'laws.FnExactFindOrder': WHATEVER THE INPUT: true; the input reads as it did. -/
def fnExactFindOrderSpec : ChangeSpec := { name := "fnExactFindOrder", fn := fun _ => fun
  | [d1, d2, d3] => { results := [.lit (.bool true)], args := [d1, d2, d3] }
  | _ => none }
def fnExactFindOrderRow : OpenClaim := { program := "ytighalbnpgmdfaa", sum := "c4c97cf3d24d1b8b938f91ad61a48d09040da232c53d797742377eb5304748b4", func := "loop.example/g01989/laws.FnExactFindOrder", spec := "fnExactFindOrder", unfollowed := true, recurses := true, apart := false }
def FnExactFindOrderSaid : Prop := fnExactFindOrderRow.holds Try.pinned (OpenSpec.ofChange fnExactFindOrderSpec)

/-- ITS FALSE NEIGHBOUR: 'it returns false'. Refute it at one input. -/
def fnExactFindOrderWrong : ChangeSpec := { name := "fnExactFindOrder", fn := fun _ => fun
  | [d1, d2, d3] => { results := [.lit (.bool false)], args := [d1, d2, d3] }
  | _ => none }
def FnExactFindOrderWrongFalsely : Prop := fnExactFindOrderRow.holds Try.pinned (OpenSpec.ofChange fnExactFindOrderWrong)

/-- 'laws.FnExactBlockedAtoms': WHATEVER THE INPUT: true; the input reads as it did. -/
def fnExactBlockedAtomsSpec : ChangeSpec := { name := "fnExactBlockedAtoms", fn := fun _ => fun
  | [d1, d2, d3] => { results := [.lit (.bool true)], args := [d1, d2, d3] }
  | _ => none }
def fnExactBlockedAtomsRow : OpenClaim := { program := "ytighalbnpgmdfaa", sum := "c4c97cf3d24d1b8b938f91ad61a48d09040da232c53d797742377eb5304748b4", func := "loop.example/g01989/laws.FnExactBlockedAtoms", spec := "fnExactBlockedAtoms", unfollowed := true, recurses := true, apart := false }
def FnExactBlockedAtomsSaid : Prop := fnExactBlockedAtomsRow.holds Try.pinned (OpenSpec.ofChange fnExactBlockedAtomsSpec)

/-- ITS FALSE NEIGHBOUR: 'it returns false'. Refute it at one input. -/
def fnExactBlockedAtomsWrong : ChangeSpec := { name := "fnExactBlockedAtoms", fn := fun _ => fun
  | [d1, d2, d3] => { results := [.lit (.bool false)], args := [d1, d2, d3] }
  | _ => none }
def FnExactBlockedAtomsWrongFalsely : Prop := fnExactBlockedAtomsRow.holds Try.pinned (OpenSpec.ofChange fnExactBlockedAtomsWrong)

/-- 'laws.FnExactCheapestOrder': WHATEVER THE INPUT: true; the input reads as it did. -/
def fnExactCheapestOrderSpec : ChangeSpec := { name := "fnExactCheapestOrder", fn := fun _ => fun
  | [d1, d2, d3] => { results := [.lit (.bool true)], args := [d1, d2, d3] }
  | _ => none }
def fnExactCheapestOrderRow : OpenClaim := { program := "ytighalbnpgmdfaa", sum := "c4c97cf3d24d1b8b938f91ad61a48d09040da232c53d797742377eb5304748b4", func := "loop.example/g01989/laws.FnExactCheapestOrder", spec := "fnExactCheapestOrder", unfollowed := true, recurses := true, apart := false }
def FnExactCheapestOrderSaid : Prop := fnExactCheapestOrderRow.holds Try.pinned (OpenSpec.ofChange fnExactCheapestOrderSpec)

/-- ITS FALSE NEIGHBOUR: 'it returns false'. Refute it at one input. -/
def fnExactCheapestOrderWrong : ChangeSpec := { name := "fnExactCheapestOrder", fn := fun _ => fun
  | [d1, d2, d3] => { results := [.lit (.bool false)], args := [d1, d2, d3] }
  | _ => none }
def FnExactCheapestOrderWrongFalsely : Prop := fnExactCheapestOrderRow.holds Try.pinned (OpenSpec.ofChange fnExactCheapestOrderWrong)

/-- 'laws.FnExactIsContained': WHATEVER THE INPUT: true; the input reads as it did. -/
def fnExactIsContainedSpec : ChangeSpec := { name := "fnExactIsContained", fn := fun _ => fun
  | [d1, d2, d3] => { results := [.lit (.bool true)], args := [d1, d2, d3] }
  | _ => none }
def fnExactIsContainedRow : OpenClaim := { program := "ytighalbnpgmdfaa", sum := "c4c97cf3d24d1b8b938f91ad61a48d09040da232c53d797742377eb5304748b4", func := "loop.example/g01989/laws.FnExactIsContained", spec := "fnExactIsContained", inPlace := ["slices.overlaps[loop.example/g01989/impl.Fact]"], unfollowed := true, recurses := true, apart := false }
def FnExactIsContainedSaid : Prop := fnExactIsContainedRow.holds Try.pinned (OpenSpec.ofChange fnExactIsContainedSpec)

/-- ITS FALSE NEIGHBOUR: 'it returns false'. Refute it at one input. -/
def fnExactIsContainedWrong : ChangeSpec := { name := "fnExactIsContained", fn := fun _ => fun
  | [d1, d2, d3] => { results := [.lit (.bool false)], args := [d1, d2, d3] }
  | _ => none }
def FnExactIsContainedWrongFalsely : Prop := fnExactIsContainedRow.holds Try.pinned (OpenSpec.ofChange fnExactIsContainedWrong)

/-- 'laws.FnExactIsEquivalent': WHATEVER THE INPUT: true; the input reads as it did. -/
def fnExactIsEquivalentSpec : ChangeSpec := { name := "fnExactIsEquivalent", fn := fun _ => fun
  | [d1, d2, d3] => { results := [.lit (.bool true)], args := [d1, d2, d3] }
  | _ => none }
def fnExactIsEquivalentRow : OpenClaim := { program := "ytighalbnpgmdfaa", sum := "c4c97cf3d24d1b8b938f91ad61a48d09040da232c53d797742377eb5304748b4", func := "loop.example/g01989/laws.FnExactIsEquivalent", spec := "fnExactIsEquivalent", inPlace := ["slices.overlaps[loop.example/g01989/impl.Fact]"], unfollowed := true, recurses := true, apart := false }
def FnExactIsEquivalentSaid : Prop := fnExactIsEquivalentRow.holds Try.pinned (OpenSpec.ofChange fnExactIsEquivalentSpec)

/-- ITS FALSE NEIGHBOUR: 'it returns false'. Refute it at one input. -/
def fnExactIsEquivalentWrong : ChangeSpec := { name := "fnExactIsEquivalent", fn := fun _ => fun
  | [d1, d2, d3] => { results := [.lit (.bool false)], args := [d1, d2, d3] }
  | _ => none }
def FnExactIsEquivalentWrongFalsely : Prop := fnExactIsEquivalentRow.holds Try.pinned (OpenSpec.ofChange fnExactIsEquivalentWrong)

/-- 'laws.FnExactAnswerablePart': WHATEVER THE INPUT: true; the input reads as it did. -/
def fnExactAnswerablePartSpec : ChangeSpec := { name := "fnExactAnswerablePart", fn := fun _ => fun
  | [d1, d2, d3] => { results := [.lit (.bool true)], args := [d1, d2, d3] }
  | _ => none }
def fnExactAnswerablePartRow : OpenClaim := { program := "ytighalbnpgmdfaa", sum := "c4c97cf3d24d1b8b938f91ad61a48d09040da232c53d797742377eb5304748b4", func := "loop.example/g01989/laws.FnExactAnswerablePart", spec := "fnExactAnswerablePart", unfollowed := true, recurses := true, apart := false }
def FnExactAnswerablePartSaid : Prop := fnExactAnswerablePartRow.holds Try.pinned (OpenSpec.ofChange fnExactAnswerablePartSpec)

/-- ITS FALSE NEIGHBOUR: 'it returns false'. Refute it at one input. -/
def fnExactAnswerablePartWrong : ChangeSpec := { name := "fnExactAnswerablePart", fn := fun _ => fun
  | [d1, d2, d3] => { results := [.lit (.bool false)], args := [d1, d2, d3] }
  | _ => none }
def FnExactAnswerablePartWrongFalsely : Prop := fnExactAnswerablePartRow.holds Try.pinned (OpenSpec.ofChange fnExactAnswerablePartWrong)

/-- 'laws.FnExactCountOrders': WHATEVER THE INPUT: true; the input reads as it did. -/
def fnExactCountOrdersSpec : ChangeSpec := { name := "fnExactCountOrders", fn := fun _ => fun
  | [d1, d2, d3] => { results := [.lit (.bool true)], args := [d1, d2, d3] }
  | _ => none }
def fnExactCountOrdersRow : OpenClaim := { program := "ytighalbnpgmdfaa", sum := "c4c97cf3d24d1b8b938f91ad61a48d09040da232c53d797742377eb5304748b4", func := "loop.example/g01989/laws.FnExactCountOrders", spec := "fnExactCountOrders", unfollowed := true, recurses := true, apart := false }
def FnExactCountOrdersSaid : Prop := fnExactCountOrdersRow.holds Try.pinned (OpenSpec.ofChange fnExactCountOrdersSpec)

/-- ITS FALSE NEIGHBOUR: 'it returns false'. Refute it at one input. -/
def fnExactCountOrdersWrong : ChangeSpec := { name := "fnExactCountOrders", fn := fun _ => fun
  | [d1, d2, d3] => { results := [.lit (.bool false)], args := [d1, d2, d3] }
  | _ => none }
def FnExactCountOrdersWrongFalsely : Prop := fnExactCountOrdersRow.holds Try.pinned (OpenSpec.ofChange fnExactCountOrdersWrong)

/- THE SECOND FORM. 'bulk': how many values and letters a reading holds, each counted each time it is reached (what is shared counts as often as it is met; a slice's spare places count too). A statement '..UptoSaid' is the law's where the arguments, and the package variables that the reading takes, are together of bulk at most 1048576: NARROWER than '..Said'. Prove '..Said' where nothing that the law and all that it calls make is longer than what came in: it says more and counts as full. Else prove '..UptoSaid'. A law counts once. -/
mutual
def uptoBulk {H : Type} : DataW H → Nat
  | .lit (.string bytes) => bytes.length + 1
  | .lit _ => 1
  | .nil => 1
  | .ptr d => uptoBulk d + 1
  | .slice elems spare => uptoBulkAll elems + uptoBulkAll spare + 1
  | .agg parts => uptoBulkAll parts + 1
  | .iface _ d => uptoBulk d + 1
  | .map entries => uptoBulkEntries entries + 1
  | .held _ => 1
def uptoBulkAll {H : Type} : List (DataW H) → Nat
  | [] => 0
  | d :: r => uptoBulk d + uptoBulkAll r
def uptoBulkEntries {H : Type} : List (Lit × DataW H) → Nat
  | [] => 0
  | x :: r => uptoBulkEntry x + uptoBulkEntries r
def uptoBulkEntry {H : Type} : Lit × DataW H → Nat
  | (.string bytes, d) => bytes.length + uptoBulk d + 1
  | (_, d) => uptoBulk d + 1
 end
def uptoSmall : (H : Type) → List (DataW H) → Bool := fun _ ds => decide (uptoBulkAll ds ≤ 1048576)
def OpenSpec.upto (s : _root_.Go.ChangeSpec) : _root_.Go.OpenSpec := { _root_.Go.OpenSpec.ofChange s with cond := some uptoSmall }

/-- 'laws.FnExactIsOrder', WHERE WHAT IT READS IS OF BULK AT MOST 1048576: true; the input reads as it did. -/
def fnExactIsOrderUptoRow : OpenClaim := { program := "ytighalbnpgmdfaa", sum := "c4c97cf3d24d1b8b938f91ad61a48d09040da232c53d797742377eb5304748b4", func := "loop.example/g01989/laws.FnExactIsOrder", spec := "fnExactIsOrder", unfollowed := true, recurses := true, apart := false, narrowed := true }
def FnExactIsOrderUptoSaid : Prop := fnExactIsOrderUptoRow.holds Try.pinned (OpenSpec.upto fnExactIsOrderSpec)

/-- 'laws.FnExactFindOrder', WHERE WHAT IT READS IS OF BULK AT MOST 1048576: true; the input reads as it did. -/
def fnExactFindOrderUptoRow : OpenClaim := { program := "ytighalbnpgmdfaa", sum := "c4c97cf3d24d1b8b938f91ad61a48d09040da232c53d797742377eb5304748b4", func := "loop.example/g01989/laws.FnExactFindOrder", spec := "fnExactFindOrder", unfollowed := true, recurses := true, apart := false, narrowed := true }
def FnExactFindOrderUptoSaid : Prop := fnExactFindOrderUptoRow.holds Try.pinned (OpenSpec.upto fnExactFindOrderSpec)

/-- 'laws.FnExactBlockedAtoms', WHERE WHAT IT READS IS OF BULK AT MOST 1048576: true; the input reads as it did. -/
def fnExactBlockedAtomsUptoRow : OpenClaim := { program := "ytighalbnpgmdfaa", sum := "c4c97cf3d24d1b8b938f91ad61a48d09040da232c53d797742377eb5304748b4", func := "loop.example/g01989/laws.FnExactBlockedAtoms", spec := "fnExactBlockedAtoms", unfollowed := true, recurses := true, apart := false, narrowed := true }
def FnExactBlockedAtomsUptoSaid : Prop := fnExactBlockedAtomsUptoRow.holds Try.pinned (OpenSpec.upto fnExactBlockedAtomsSpec)

/-- 'laws.FnExactCheapestOrder', WHERE WHAT IT READS IS OF BULK AT MOST 1048576: true; the input reads as it did. -/
def fnExactCheapestOrderUptoRow : OpenClaim := { program := "ytighalbnpgmdfaa", sum := "c4c97cf3d24d1b8b938f91ad61a48d09040da232c53d797742377eb5304748b4", func := "loop.example/g01989/laws.FnExactCheapestOrder", spec := "fnExactCheapestOrder", unfollowed := true, recurses := true, apart := false, narrowed := true }
def FnExactCheapestOrderUptoSaid : Prop := fnExactCheapestOrderUptoRow.holds Try.pinned (OpenSpec.upto fnExactCheapestOrderSpec)

/-- 'laws.FnExactIsContained', WHERE WHAT IT READS IS OF BULK AT MOST 1048576: true; the input reads as it did. -/
def fnExactIsContainedUptoRow : OpenClaim := { program := "ytighalbnpgmdfaa", sum := "c4c97cf3d24d1b8b938f91ad61a48d09040da232c53d797742377eb5304748b4", func := "loop.example/g01989/laws.FnExactIsContained", spec := "fnExactIsContained", inPlace := ["slices.overlaps[loop.example/g01989/impl.Fact]"], unfollowed := true, recurses := true, apart := false, narrowed := true }
def FnExactIsContainedUptoSaid : Prop := fnExactIsContainedUptoRow.holds Try.pinned (OpenSpec.upto fnExactIsContainedSpec)

/-- 'laws.FnExactIsEquivalent', WHERE WHAT IT READS IS OF BULK AT MOST 1048576: true; the input reads as it did. -/
def fnExactIsEquivalentUptoRow : OpenClaim := { program := "ytighalbnpgmdfaa", sum := "c4c97cf3d24d1b8b938f91ad61a48d09040da232c53d797742377eb5304748b4", func := "loop.example/g01989/laws.FnExactIsEquivalent", spec := "fnExactIsEquivalent", inPlace := ["slices.overlaps[loop.example/g01989/impl.Fact]"], unfollowed := true, recurses := true, apart := false, narrowed := true }
def FnExactIsEquivalentUptoSaid : Prop := fnExactIsEquivalentUptoRow.holds Try.pinned (OpenSpec.upto fnExactIsEquivalentSpec)

/-- 'laws.FnExactAnswerablePart', WHERE WHAT IT READS IS OF BULK AT MOST 1048576: true; the input reads as it did. -/
def fnExactAnswerablePartUptoRow : OpenClaim := { program := "ytighalbnpgmdfaa", sum := "c4c97cf3d24d1b8b938f91ad61a48d09040da232c53d797742377eb5304748b4", func := "loop.example/g01989/laws.FnExactAnswerablePart", spec := "fnExactAnswerablePart", unfollowed := true, recurses := true, apart := false, narrowed := true }
def FnExactAnswerablePartUptoSaid : Prop := fnExactAnswerablePartUptoRow.holds Try.pinned (OpenSpec.upto fnExactAnswerablePartSpec)

/-- 'laws.FnExactCountOrders', WHERE WHAT IT READS IS OF BULK AT MOST 1048576: true; the input reads as it did. -/
def fnExactCountOrdersUptoRow : OpenClaim := { program := "ytighalbnpgmdfaa", sum := "c4c97cf3d24d1b8b938f91ad61a48d09040da232c53d797742377eb5304748b4", func := "loop.example/g01989/laws.FnExactCountOrders", spec := "fnExactCountOrders", unfollowed := true, recurses := true, apart := false, narrowed := true }
def FnExactCountOrdersUptoSaid : Prop := fnExactCountOrdersUptoRow.holds Try.pinned (OpenSpec.upto fnExactCountOrdersSpec)

end Rows
end Go.Proofs.Ytighalbnpgmdfaa
