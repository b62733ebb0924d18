/-
  No cell of these rows narrows 'for every input' (looked for: loops, veiled, ifaces, maps, wideKeys, modest, calm, conditions, laid).
  DERIVED. THE GIVEN ROWS OF THIS SEAT. 7 by the template 'for every input the law returns true; each argument reads behind the call as it read before'; 0 by the template 'total and deterministic' (their statements: YtpdmkdhnidgjoaaTotals.lean).
  GIVEN WITH THE SEED: the statements are not yours to turn. If you find one false, say at which input.
  Laid BY PROGRAM, IN A SANDBOX (cutbox-rows.mjs): the forced cells as the released guide's own fill.sh prints them over the translation 43165cdb0bbb1e27… (all of the seat's roots in one cut). By AI agents, Wed Nov 11 2026. No macro, syntax, notation, axiom, sorry.
-/
import Derived.Test.YtpdmkdhnidgjoaaChecked
import GoSem.Claim
import GoSem.ClaimJoined
import GoSem.ClaimMapViews
import Derived.JoinedTies
import Derived.KernelRfl
namespace Go.Proofs.Ytpdmkdhnidgjoaa
/- THE CELL 'sum', in the pinned program and in every row, IS THE sha256 OF THE DUMP (.gsa) THAT YtpdmkdhnidgjoaaProg.lean LOADS. Nothing in Lean hashes anything: it is a label: what it is worth is what the hold of that sum in a sandbox is worth. -/
noncomputable def Try.pinned : Pinned := { name := "ytpdmkdhnidgjoaa", sum := "43165cdb0bbb1e27de3c24d74c8587d393d65c182c59dbfb9e1d6234e0d9add1", checked := Try.checked }
namespace Rows
def none {H : Type} : Left H := { results := [], args := [] }

/-- 'laws.FnExactFreezeQuery': WHATEVER THE INPUT: true; the input reads as it did. -/
def fnExactFreezeQuerySpec : ChangeSpec := { name := "fnExactFreezeQuery", fn := fun _ => fun
  | [d] => { results := [.lit (.bool true)], args := [d] }
  | _ => none }
def fnExactFreezeQueryRow : OpenClaim := { program := "ytpdmkdhnidgjoaa", sum := "43165cdb0bbb1e27de3c24d74c8587d393d65c182c59dbfb9e1d6234e0d9add1", func := "loop.example/g01989/laws.FnExactFreezeQuery", spec := "fnExactFreezeQuery", inPlace := ["slices.overlaps[loop.example/g01989/impl.Fact]"], unfollowed := true, recurses := true, apart := false }
def FnExactFreezeQuerySaid : Prop := fnExactFreezeQueryRow.holds Try.pinned (OpenSpec.ofChange fnExactFreezeQuerySpec)

/-- ITS FALSE NEIGHBOUR: 'it returns false'. Refute it at one input. -/
def fnExactFreezeQueryWrong : ChangeSpec := { name := "fnExactFreezeQuery", fn := fun _ => fun
  | [d] => { results := [.lit (.bool false)], args := [d] }
  | _ => none }
def FnExactFreezeQueryWrongFalsely : Prop := fnExactFreezeQueryRow.holds Try.pinned (OpenSpec.ofChange fnExactFreezeQueryWrong)

/-- 'laws.FnExactTupleOf': WHATEVER THE INPUT: true; the input reads as it did. -/
def fnExactTupleOfSpec : ChangeSpec := { name := "fnExactTupleOf", fn := fun _ => fun
  | [d1, d2] => { results := [.lit (.bool true)], args := [d1, d2] }
  | _ => none }
def fnExactTupleOfRow : OpenClaim := { program := "ytpdmkdhnidgjoaa", sum := "43165cdb0bbb1e27de3c24d74c8587d393d65c182c59dbfb9e1d6234e0d9add1", func := "loop.example/g01989/laws.FnExactTupleOf", spec := "fnExactTupleOf", apart := false }
def FnExactTupleOfSaid : Prop := fnExactTupleOfRow.holds Try.pinned (OpenSpec.ofChange fnExactTupleOfSpec)

/-- ITS FALSE NEIGHBOUR: 'it returns false'. Refute it at one input. -/
def fnExactTupleOfWrong : ChangeSpec := { name := "fnExactTupleOf", fn := fun _ => fun
  | [d1, d2] => { results := [.lit (.bool false)], args := [d1, d2] }
  | _ => none }
def FnExactTupleOfWrongFalsely : Prop := fnExactTupleOfRow.holds Try.pinned (OpenSpec.ofChange fnExactTupleOfWrong)

/-- 'laws.FnExactFindMapping': WHATEVER THE INPUT: true; the input reads as it did. -/
def fnExactFindMappingSpec : ChangeSpec := { name := "fnExactFindMapping", fn := fun _ => fun
  | [d1, d2, d3] => { results := [.lit (.bool true)], args := [d1, d2, d3] }
  | _ => none }
def fnExactFindMappingRow : OpenClaim := { program := "ytpdmkdhnidgjoaa", sum := "43165cdb0bbb1e27de3c24d74c8587d393d65c182c59dbfb9e1d6234e0d9add1", func := "loop.example/g01989/laws.FnExactFindMapping", spec := "fnExactFindMapping", unfollowed := true, recurses := true, apart := false }
def FnExactFindMappingSaid : Prop := fnExactFindMappingRow.holds Try.pinned (OpenSpec.ofChange fnExactFindMappingSpec)

/-- ITS FALSE NEIGHBOUR: 'it returns false'. Refute it at one input. -/
def fnExactFindMappingWrong : ChangeSpec := { name := "fnExactFindMapping", fn := fun _ => fun
  | [d1, d2, d3] => { results := [.lit (.bool false)], args := [d1, d2, d3] }
  | _ => none }
def FnExactFindMappingWrongFalsely : Prop := fnExactFindMappingRow.holds Try.pinned (OpenSpec.ofChange fnExactFindMappingWrong)

/-- 'laws.FnExactIsMapping': WHATEVER THE INPUT: true; the input reads as it did. -/
def fnExactIsMappingSpec : ChangeSpec := { name := "fnExactIsMapping", fn := fun _ => fun
  | [d1, d2, d3, d4] => { results := [.lit (.bool true)], args := [d1, d2, d3, d4] }
  | _ => none }
def fnExactIsMappingRow : OpenClaim := { program := "ytpdmkdhnidgjoaa", sum := "43165cdb0bbb1e27de3c24d74c8587d393d65c182c59dbfb9e1d6234e0d9add1", func := "loop.example/g01989/laws.FnExactIsMapping", spec := "fnExactIsMapping", unfollowed := true, recurses := true, apart := false }
def FnExactIsMappingSaid : Prop := fnExactIsMappingRow.holds Try.pinned (OpenSpec.ofChange fnExactIsMappingSpec)

/-- ITS FALSE NEIGHBOUR: 'it returns false'. Refute it at one input. -/
def fnExactIsMappingWrong : ChangeSpec := { name := "fnExactIsMapping", fn := fun _ => fun
  | [d1, d2, d3, d4] => { results := [.lit (.bool false)], args := [d1, d2, d3, d4] }
  | _ => none }
def FnExactIsMappingWrongFalsely : Prop := fnExactIsMappingRow.holds Try.pinned (OpenSpec.ofChange fnExactIsMappingWrong)

/-- 'laws.FnExactIsContained': WHATEVER THE INPUT: true; the input reads as it did. -/
def fnExactIsContainedSpec : ChangeSpec := { name := "fnExactIsContained", fn := fun _ => fun
  | [d1, d2, d3] => { results := [.lit (.bool true)], args := [d1, d2, d3] }
  | _ => none }
def fnExactIsContainedRow : OpenClaim := { program := "ytpdmkdhnidgjoaa", sum := "43165cdb0bbb1e27de3c24d74c8587d393d65c182c59dbfb9e1d6234e0d9add1", func := "loop.example/g01989/laws.FnExactIsContained", spec := "fnExactIsContained", inPlace := ["slices.overlaps[loop.example/g01989/impl.Fact]"], unfollowed := true, recurses := true, apart := false }
def FnExactIsContainedSaid : Prop := fnExactIsContainedRow.holds Try.pinned (OpenSpec.ofChange fnExactIsContainedSpec)

/-- ITS FALSE NEIGHBOUR: 'it returns false'. Refute it at one input. -/
def fnExactIsContainedWrong : ChangeSpec := { name := "fnExactIsContained", fn := fun _ => fun
  | [d1, d2, d3] => { results := [.lit (.bool false)], args := [d1, d2, d3] }
  | _ => none }
def FnExactIsContainedWrongFalsely : Prop := fnExactIsContainedRow.holds Try.pinned (OpenSpec.ofChange fnExactIsContainedWrong)

/-- 'laws.FnExactIsEquivalent': WHATEVER THE INPUT: true; the input reads as it did. -/
def fnExactIsEquivalentSpec : ChangeSpec := { name := "fnExactIsEquivalent", fn := fun _ => fun
  | [d1, d2, d3] => { results := [.lit (.bool true)], args := [d1, d2, d3] }
  | _ => none }
def fnExactIsEquivalentRow : OpenClaim := { program := "ytpdmkdhnidgjoaa", sum := "43165cdb0bbb1e27de3c24d74c8587d393d65c182c59dbfb9e1d6234e0d9add1", func := "loop.example/g01989/laws.FnExactIsEquivalent", spec := "fnExactIsEquivalent", inPlace := ["slices.overlaps[loop.example/g01989/impl.Fact]"], unfollowed := true, recurses := true, apart := false }
def FnExactIsEquivalentSaid : Prop := fnExactIsEquivalentRow.holds Try.pinned (OpenSpec.ofChange fnExactIsEquivalentSpec)

/-- ITS FALSE NEIGHBOUR: 'it returns false'. Refute it at one input. -/
def fnExactIsEquivalentWrong : ChangeSpec := { name := "fnExactIsEquivalent", fn := fun _ => fun
  | [d1, d2, d3] => { results := [.lit (.bool false)], args := [d1, d2, d3] }
  | _ => none }
def FnExactIsEquivalentWrongFalsely : Prop := fnExactIsEquivalentRow.holds Try.pinned (OpenSpec.ofChange fnExactIsEquivalentWrong)

/-- 'laws.FnExactDropAtom': WHATEVER THE INPUT: true; the input reads as it did. -/
def fnExactDropAtomSpec : ChangeSpec := { name := "fnExactDropAtom", fn := fun _ => fun
  | [d1, d2] => { results := [.lit (.bool true)], args := [d1, d2] }
  | _ => none }
def fnExactDropAtomRow : OpenClaim := { program := "ytpdmkdhnidgjoaa", sum := "43165cdb0bbb1e27de3c24d74c8587d393d65c182c59dbfb9e1d6234e0d9add1", func := "loop.example/g01989/laws.FnExactDropAtom", spec := "fnExactDropAtom", unfollowed := true, recurses := true, apart := false }
def FnExactDropAtomSaid : Prop := fnExactDropAtomRow.holds Try.pinned (OpenSpec.ofChange fnExactDropAtomSpec)

/-- ITS FALSE NEIGHBOUR: 'it returns false'. Refute it at one input. -/
def fnExactDropAtomWrong : ChangeSpec := { name := "fnExactDropAtom", fn := fun _ => fun
  | [d1, d2] => { results := [.lit (.bool false)], args := [d1, d2] }
  | _ => none }
def FnExactDropAtomWrongFalsely : Prop := fnExactDropAtomRow.holds Try.pinned (OpenSpec.ofChange fnExactDropAtomWrong)

/- THE SECOND FORM. 'bulk': how many values and letters a reading holds, each counted each time it is reached (what is shared counts as often as it is met; a slice's spare places count too). A statement '..UptoSaid' is the law's where the arguments, and the package variables that the reading takes, are together of bulk at most 1048576: NARROWER than '..Said'. Prove '..Said' where nothing that the law and all that it calls make is longer than what came in: it says more and counts as full. Else prove '..UptoSaid'. A law counts once. -/
mutual
def uptoBulk {H : Type} : DataW H → Nat
  | .lit (.string bytes) => bytes.length + 1
  | .lit _ => 1
  | .nil => 1
  | .ptr d => uptoBulk d + 1
  | .slice elems spare => uptoBulkAll elems + uptoBulkAll spare + 1
  | .agg parts => uptoBulkAll parts + 1
  | .iface _ d => uptoBulk d + 1
  | .map entries => uptoBulkEntries entries + 1
  | .held _ => 1
def uptoBulkAll {H : Type} : List (DataW H) → Nat
  | [] => 0
  | d :: r => uptoBulk d + uptoBulkAll r
def uptoBulkEntries {H : Type} : List (Lit × DataW H) → Nat
  | [] => 0
  | x :: r => uptoBulkEntry x + uptoBulkEntries r
def uptoBulkEntry {H : Type} : Lit × DataW H → Nat
  | (.string bytes, d) => bytes.length + uptoBulk d + 1
  | (_, d) => uptoBulk d + 1
 end
def uptoSmall : (H : Type) → List (DataW H) → Bool := fun _ ds => decide (uptoBulkAll ds ≤ 1048576)
def OpenSpec.upto (s : _root_.Go.ChangeSpec) : _root_.Go.OpenSpec := { _root_.Go.OpenSpec.ofChange s with cond := some uptoSmall }

/-- 'laws.FnExactFreezeQuery', WHERE WHAT IT READS IS OF BULK AT MOST 1048576: true; the input reads as it did. -/
def fnExactFreezeQueryUptoRow : OpenClaim := { program := "ytpdmkdhnidgjoaa", sum := "43165cdb0bbb1e27de3c24d74c8587d393d65c182c59dbfb9e1d6234e0d9add1", func := "loop.example/g01989/laws.FnExactFreezeQuery", spec := "fnExactFreezeQuery", inPlace := ["slices.overlaps[loop.example/g01989/impl.Fact]"], unfollowed := true, recurses := true, apart := false, narrowed := true }
def FnExactFreezeQueryUptoSaid : Prop := fnExactFreezeQueryUptoRow.holds Try.pinned (OpenSpec.upto fnExactFreezeQuerySpec)

/-- 'laws.FnExactTupleOf', WHERE WHAT IT READS IS OF BULK AT MOST 1048576: true; the input reads as it did. -/
def fnExactTupleOfUptoRow : OpenClaim := { program := "ytpdmkdhnidgjoaa", sum := "43165cdb0bbb1e27de3c24d74c8587d393d65c182c59dbfb9e1d6234e0d9add1", func := "loop.example/g01989/laws.FnExactTupleOf", spec := "fnExactTupleOf", apart := false, narrowed := true }
def FnExactTupleOfUptoSaid : Prop := fnExactTupleOfUptoRow.holds Try.pinned (OpenSpec.upto fnExactTupleOfSpec)

/-- 'laws.FnExactFindMapping', WHERE WHAT IT READS IS OF BULK AT MOST 1048576: true; the input reads as it did. -/
def fnExactFindMappingUptoRow : OpenClaim := { program := "ytpdmkdhnidgjoaa", sum := "43165cdb0bbb1e27de3c24d74c8587d393d65c182c59dbfb9e1d6234e0d9add1", func := "loop.example/g01989/laws.FnExactFindMapping", spec := "fnExactFindMapping", unfollowed := true, recurses := true, apart := false, narrowed := true }
def FnExactFindMappingUptoSaid : Prop := fnExactFindMappingUptoRow.holds Try.pinned (OpenSpec.upto fnExactFindMappingSpec)

/-- 'laws.FnExactIsMapping', WHERE WHAT IT READS IS OF BULK AT MOST 1048576: true; the input reads as it did. -/
def fnExactIsMappingUptoRow : OpenClaim := { program := "ytpdmkdhnidgjoaa", sum := "43165cdb0bbb1e27de3c24d74c8587d393d65c182c59dbfb9e1d6234e0d9add1", func := "loop.example/g01989/laws.FnExactIsMapping", spec := "fnExactIsMapping", unfollowed := true, recurses := true, apart := false, narrowed := true }
def FnExactIsMappingUptoSaid : Prop := fnExactIsMappingUptoRow.holds Try.pinned (OpenSpec.upto fnExactIsMappingSpec)

/-- 'laws.FnExactIsContained', WHERE WHAT IT READS IS OF BULK AT MOST 1048576: true; the input reads as it did. -/
def fnExactIsContainedUptoRow : OpenClaim := { program := "ytpdmkdhnidgjoaa", sum := "43165cdb0bbb1e27de3c24d74c8587d393d65c182c59dbfb9e1d6234e0d9add1", func := "loop.example/g01989/laws.FnExactIsContained", spec := "fnExactIsContained", inPlace := ["slices.overlaps[loop.example/g01989/impl.Fact]"], unfollowed := true, recurses := true, apart := false, narrowed := true }
def FnExactIsContainedUptoSaid : Prop := fnExactIsContainedUptoRow.holds Try.pinned (OpenSpec.upto fnExactIsContainedSpec)

/-- 'laws.FnExactIsEquivalent', WHERE WHAT IT READS IS OF BULK AT MOST 1048576: true; the input reads as it did. -/
def fnExactIsEquivalentUptoRow : OpenClaim := { program := "ytpdmkdhnidgjoaa", sum := "43165cdb0bbb1e27de3c24d74c8587d393d65c182c59dbfb9e1d6234e0d9add1", func := "loop.example/g01989/laws.FnExactIsEquivalent", spec := "fnExactIsEquivalent", inPlace := ["slices.overlaps[loop.example/g01989/impl.Fact]"], unfollowed := true, recurses := true, apart := false, narrowed := true }
def FnExactIsEquivalentUptoSaid : Prop := fnExactIsEquivalentUptoRow.holds Try.pinned (OpenSpec.upto fnExactIsEquivalentSpec)

/-- 'laws.FnExactDropAtom', WHERE WHAT IT READS IS OF BULK AT MOST 1048576: true; the input reads as it did. -/
def fnExactDropAtomUptoRow : OpenClaim := { program := "ytpdmkdhnidgjoaa", sum := "43165cdb0bbb1e27de3c24d74c8587d393d65c182c59dbfb9e1d6234e0d9add1", func := "loop.example/g01989/laws.FnExactDropAtom", spec := "fnExactDropAtom", unfollowed := true, recurses := true, apart := false, narrowed := true }
def FnExactDropAtomUptoSaid : Prop := fnExactDropAtomUptoRow.holds Try.pinned (OpenSpec.upto fnExactDropAtomSpec)

end Rows
end Go.Proofs.Ytpdmkdhnidgjoaa
