/-
  No cell of these rows narrows 'for every input' (looked for: loops, veiled, ifaces, maps, wideKeys, modest, calm, conditions, laid).
  DERIVED. THE GIVEN ROWS OF THIS SEAT. 4 by the template 'for every input the law returns true; each argument reads behind the call as it read before'; 0 by the template 'total and deterministic' (their statements: YtimlpdcambmcjaaTotals.lean).
  GIVEN WITH THE SEED: the statements are not yours to turn. If you find one false, say at which input.
  Laid BY PROGRAM, IN A SANDBOX (cutbox-rows.mjs): the forced cells as the released guide's own fill.sh prints them over the translation 47dabf82d58275dc… (all of the seat's roots in one cut). By AI agents, Wed Nov 11 2026. No macro, syntax, notation, axiom, sorry.
-/
import Derived.Test.YtimlpdcambmcjaaChecked
import GoSem.Claim
import GoSem.ClaimJoined
import GoSem.ClaimMapViews
import Derived.JoinedTies
import Derived.KernelRfl
namespace Go.Proofs.Ytimlpdcambmcjaa
/- THE CELL 'sum', in the pinned program and in every row, IS THE sha256 OF THE DUMP (.gsa) THAT YtimlpdcambmcjaaProg.lean LOADS. Nothing in Lean hashes anything: it is a label: what it is worth is what the hold of that sum in a sandbox is worth. -/
noncomputable def Try.pinned : Pinned := { name := "ytimlpdcambmcjaa", sum := "47dabf82d58275dce681bae03b92b6b278e17301bfdd98c85c6091fb7095da3c", checked := Try.checked }
namespace Rows
def none {H : Type} : Left H := { results := [], args := [] }

/-- 'laws.FnExactIsContained': WHATEVER THE INPUT: true; the input reads as it did. -/
def fnExactIsContainedSpec : ChangeSpec := { name := "fnExactIsContained", fn := fun _ => fun
  | [d1, d2, d3] => { results := [.lit (.bool true)], args := [d1, d2, d3] }
  | _ => none }
def fnExactIsContainedRow : OpenClaim := { program := "ytimlpdcambmcjaa", sum := "47dabf82d58275dce681bae03b92b6b278e17301bfdd98c85c6091fb7095da3c", func := "loop.example/g01989/laws.FnExactIsContained", spec := "fnExactIsContained", inPlace := ["slices.overlaps[loop.example/g01989/impl.Fact]"], unfollowed := true, recurses := true, apart := false }
def FnExactIsContainedSaid : Prop := fnExactIsContainedRow.holds Try.pinned (OpenSpec.ofChange fnExactIsContainedSpec)

/-- ITS FALSE NEIGHBOUR: 'it returns false'. Refute it at one input. -/
def fnExactIsContainedWrong : ChangeSpec := { name := "fnExactIsContained", fn := fun _ => fun
  | [d1, d2, d3] => { results := [.lit (.bool false)], args := [d1, d2, d3] }
  | _ => none }
def FnExactIsContainedWrongFalsely : Prop := fnExactIsContainedRow.holds Try.pinned (OpenSpec.ofChange fnExactIsContainedWrong)

/-- 'laws.FnExactIsEquivalent': WHATEVER THE INPUT: true; the input reads as it did. -/
def fnExactIsEquivalentSpec : ChangeSpec := { name := "fnExactIsEquivalent", fn := fun _ => fun
  | [d1, d2, d3] => { results := [.lit (.bool true)], args := [d1, d2, d3] }
  | _ => none }
def fnExactIsEquivalentRow : OpenClaim := { program := "ytimlpdcambmcjaa", sum := "47dabf82d58275dce681bae03b92b6b278e17301bfdd98c85c6091fb7095da3c", func := "loop.example/g01989/laws.FnExactIsEquivalent", spec := "fnExactIsEquivalent", inPlace := ["slices.overlaps[loop.example/g01989/impl.Fact]"], unfollowed := true, recurses := true, apart := false }
def FnExactIsEquivalentSaid : Prop := fnExactIsEquivalentRow.holds Try.pinned (OpenSpec.ofChange fnExactIsEquivalentSpec)

/-- ITS FALSE NEIGHBOUR: 'it returns false'. Refute it at one input. -/
def fnExactIsEquivalentWrong : ChangeSpec := { name := "fnExactIsEquivalent", fn := fun _ => fun
  | [d1, d2, d3] => { results := [.lit (.bool false)], args := [d1, d2, d3] }
  | _ => none }
def FnExactIsEquivalentWrongFalsely : Prop := fnExactIsEquivalentRow.holds Try.pinned (OpenSpec.ofChange fnExactIsEquivalentWrong)

/-- 'laws.FnExactIsUnion': WHATEVER THE INPUT: true; the input reads as it did. -/
def fnExactIsUnionSpec : ChangeSpec := { name := "fnExactIsUnion", fn := fun _ => fun
  | [d1, d2] => { results := [.lit (.bool true)], args := [d1, d2] }
  | _ => none }
def fnExactIsUnionRow : OpenClaim := { program := "ytimlpdcambmcjaa", sum := "47dabf82d58275dce681bae03b92b6b278e17301bfdd98c85c6091fb7095da3c", func := "loop.example/g01989/laws.FnExactIsUnion", spec := "fnExactIsUnion", unfollowed := true, recurses := true, apart := false }
def FnExactIsUnionSaid : Prop := fnExactIsUnionRow.holds Try.pinned (OpenSpec.ofChange fnExactIsUnionSpec)

/-- ITS FALSE NEIGHBOUR: 'it returns false'. Refute it at one input. -/
def fnExactIsUnionWrong : ChangeSpec := { name := "fnExactIsUnion", fn := fun _ => fun
  | [d1, d2] => { results := [.lit (.bool false)], args := [d1, d2] }
  | _ => none }
def FnExactIsUnionWrongFalsely : Prop := fnExactIsUnionRow.holds Try.pinned (OpenSpec.ofChange fnExactIsUnionWrong)

/-- 'laws.FnExactContainedIn': WHATEVER THE INPUT: true; the input reads as it did. -/
def fnExactContainedInSpec : ChangeSpec := { name := "fnExactContainedIn", fn := fun _ => fun
  | [d1, d2, d3] => { results := [.lit (.bool true)], args := [d1, d2, d3] }
  | _ => none }
def fnExactContainedInRow : OpenClaim := { program := "ytimlpdcambmcjaa", sum := "47dabf82d58275dce681bae03b92b6b278e17301bfdd98c85c6091fb7095da3c", func := "loop.example/g01989/laws.FnExactContainedIn", spec := "fnExactContainedIn", inPlace := ["slices.overlaps[loop.example/g01989/impl.Fact]"], unfollowed := true, recurses := true, apart := false }
def FnExactContainedInSaid : Prop := fnExactContainedInRow.holds Try.pinned (OpenSpec.ofChange fnExactContainedInSpec)

/-- ITS FALSE NEIGHBOUR: 'it returns false'. Refute it at one input. -/
def fnExactContainedInWrong : ChangeSpec := { name := "fnExactContainedIn", fn := fun _ => fun
  | [d1, d2, d3] => { results := [.lit (.bool false)], args := [d1, d2, d3] }
  | _ => none }
def FnExactContainedInWrongFalsely : Prop := fnExactContainedInRow.holds Try.pinned (OpenSpec.ofChange fnExactContainedInWrong)

/- THE SECOND FORM. 'bulk': how many values and letters a reading holds, each counted each time it is reached (what is shared counts as often as it is met; a slice's spare places count too). A statement '..UptoSaid' is the law's where the arguments, and the package variables that the reading takes, are together of bulk at most 1048576: NARROWER than '..Said'. Prove '..Said' where nothing that the law and all that it calls make is longer than what came in: it says more and counts as full. Else prove '..UptoSaid'. A law counts once. -/
mutual
def uptoBulk {H : Type} : DataW H → Nat
  | .lit (.string bytes) => bytes.length + 1
  | .lit _ => 1
  | .nil => 1
  | .ptr d => uptoBulk d + 1
  | .slice elems spare => uptoBulkAll elems + uptoBulkAll spare + 1
  | .agg parts => uptoBulkAll parts + 1
  | .iface _ d => uptoBulk d + 1
  | .map entries => uptoBulkEntries entries + 1
  | .held _ => 1
def uptoBulkAll {H : Type} : List (DataW H) → Nat
  | [] => 0
  | d :: r => uptoBulk d + uptoBulkAll r
def uptoBulkEntries {H : Type} : List (Lit × DataW H) → Nat
  | [] => 0
  | x :: r => uptoBulkEntry x + uptoBulkEntries r
def uptoBulkEntry {H : Type} : Lit × DataW H → Nat
  | (.string bytes, d) => bytes.length + uptoBulk d + 1
  | (_, d) => uptoBulk d + 1
 end
def uptoSmall : (H : Type) → List (DataW H) → Bool := fun _ ds => decide (uptoBulkAll ds ≤ 1048576)
def OpenSpec.upto (s : _root_.Go.ChangeSpec) : _root_.Go.OpenSpec := { _root_.Go.OpenSpec.ofChange s with cond := some uptoSmall }

/-- 'laws.FnExactIsContained', WHERE WHAT IT READS IS OF BULK AT MOST 1048576: true; the input reads as it did. -/
def fnExactIsContainedUptoRow : OpenClaim := { program := "ytimlpdcambmcjaa", sum := "47dabf82d58275dce681bae03b92b6b278e17301bfdd98c85c6091fb7095da3c", func := "loop.example/g01989/laws.FnExactIsContained", spec := "fnExactIsContained", inPlace := ["slices.overlaps[loop.example/g01989/impl.Fact]"], unfollowed := true, recurses := true, apart := false, narrowed := true }
def FnExactIsContainedUptoSaid : Prop := fnExactIsContainedUptoRow.holds Try.pinned (OpenSpec.upto fnExactIsContainedSpec)

/-- 'laws.FnExactIsEquivalent', WHERE WHAT IT READS IS OF BULK AT MOST 1048576: true; the input reads as it did. -/
def fnExactIsEquivalentUptoRow : OpenClaim := { program := "ytimlpdcambmcjaa", sum := "47dabf82d58275dce681bae03b92b6b278e17301bfdd98c85c6091fb7095da3c", func := "loop.example/g01989/laws.FnExactIsEquivalent", spec := "fnExactIsEquivalent", inPlace := ["slices.overlaps[loop.example/g01989/impl.Fact]"], unfollowed := true, recurses := true, apart := false, narrowed := true }
def FnExactIsEquivalentUptoSaid : Prop := fnExactIsEquivalentUptoRow.holds Try.pinned (OpenSpec.upto fnExactIsEquivalentSpec)

/-- 'laws.FnExactIsUnion', WHERE WHAT IT READS IS OF BULK AT MOST 1048576: true; the input reads as it did. -/
def fnExactIsUnionUptoRow : OpenClaim := { program := "ytimlpdcambmcjaa", sum := "47dabf82d58275dce681bae03b92b6b278e17301bfdd98c85c6091fb7095da3c", func := "loop.example/g01989/laws.FnExactIsUnion", spec := "fnExactIsUnion", unfollowed := true, recurses := true, apart := false, narrowed := true }
def FnExactIsUnionUptoSaid : Prop := fnExactIsUnionUptoRow.holds Try.pinned (OpenSpec.upto fnExactIsUnionSpec)

/-- 'laws.FnExactContainedIn', WHERE WHAT IT READS IS OF BULK AT MOST 1048576: true; the input reads as it did. -/
def fnExactContainedInUptoRow : OpenClaim := { program := "ytimlpdcambmcjaa", sum := "47dabf82d58275dce681bae03b92b6b278e17301bfdd98c85c6091fb7095da3c", func := "loop.example/g01989/laws.FnExactContainedIn", spec := "fnExactContainedIn", inPlace := ["slices.overlaps[loop.example/g01989/impl.Fact]"], unfollowed := true, recurses := true, apart := false, narrowed := true }
def FnExactContainedInUptoSaid : Prop := fnExactContainedInUptoRow.holds Try.pinned (OpenSpec.upto fnExactContainedInSpec)

end Rows
end Go.Proofs.Ytimlpdcambmcjaa
