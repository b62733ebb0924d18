/-
  No cell of these rows narrows 'for every input' (looked for: loops, veiled, ifaces, maps, wideKeys, modest, calm, conditions, laid).
  DERIVED. THE GIVEN ROWS OF THIS SEAT. 6 by the template 'for every input the law returns true; each argument reads behind the call as it read before'; 0 by the template 'total and deterministic' (their statements: YtdakfcgjnmmdgaaTotals.lean).
  GIVEN WITH THE SEED: the statements are not yours to turn. If you find one false, say at which input.
  Laid BY PROGRAM, IN A SANDBOX (cutbox-rows.mjs): the forced cells as the released guide's own fill.sh prints them over the translation ac085e3593e8a96c… (all of the seat's roots in one cut). By AI agents, Wed Nov 11 2026. No macro, syntax, notation, axiom, sorry.
-/
import Derived.Test.YtdakfcgjnmmdgaaChecked
import GoSem.Claim
import GoSem.ClaimJoined
import GoSem.ClaimMapViews
import Derived.JoinedTies
import Derived.KernelRfl
namespace Go.Proofs.Ytdakfcgjnmmdgaa
/- THE CELL 'sum', in the pinned program and in every row, IS THE sha256 OF THE DUMP (.gsa) THAT YtdakfcgjnmmdgaaProg.lean LOADS. Nothing in Lean hashes anything: it is a label: what it is worth is what the hold of that sum in a sandbox is worth. -/
noncomputable def Try.pinned : Pinned := { name := "ytdakfcgjnmmdgaa", sum := "ac085e3593e8a96c85f9283dab97239752b72d1df4dcf6b34ab10d807b1a6750", checked := Try.checked }
namespace Rows
def none {H : Type} : Left H := { results := [], args := [] }

/-- 'laws.FnExactAddFact': WHATEVER THE INPUT: true; the input reads as it did. -/
def fnExactAddFactSpec : ChangeSpec := { name := "fnExactAddFact", fn := fun _ => fun
  | [d1, d2] => { results := [.lit (.bool true)], args := [d1, d2] }
  | _ => none }
def fnExactAddFactRow : OpenClaim := { program := "ytdakfcgjnmmdgaa", sum := "ac085e3593e8a96c85f9283dab97239752b72d1df4dcf6b34ab10d807b1a6750", func := "loop.example/g01989/laws.FnExactAddFact", spec := "fnExactAddFact", inPlace := ["slices.overlaps[loop.example/g01989/impl.Fact]"], unfollowed := true, recurses := true, apart := false }
def FnExactAddFactSaid : Prop := fnExactAddFactRow.holds Try.pinned (OpenSpec.ofChange fnExactAddFactSpec)

/-- ITS FALSE NEIGHBOUR: 'it returns false'. Refute it at one input. -/
def fnExactAddFactWrong : ChangeSpec := { name := "fnExactAddFact", fn := fun _ => fun
  | [d1, d2] => { results := [.lit (.bool false)], args := [d1, d2] }
  | _ => none }
def FnExactAddFactWrongFalsely : Prop := fnExactAddFactRow.holds Try.pinned (OpenSpec.ofChange fnExactAddFactWrong)

/-- 'laws.FnExactValueOf': WHATEVER THE INPUT: true; the input reads as it did. -/
def fnExactValueOfSpec : ChangeSpec := { name := "fnExactValueOf", fn := fun _ => fun
  | [d1, d2] => { results := [.lit (.bool true)], args := [d1, d2] }
  | _ => none }
def fnExactValueOfRow : OpenClaim := { program := "ytdakfcgjnmmdgaa", sum := "ac085e3593e8a96c85f9283dab97239752b72d1df4dcf6b34ab10d807b1a6750", func := "loop.example/g01989/laws.FnExactValueOf", spec := "fnExactValueOf", apart := false }
def FnExactValueOfSaid : Prop := fnExactValueOfRow.holds Try.pinned (OpenSpec.ofChange fnExactValueOfSpec)

/-- ITS FALSE NEIGHBOUR: 'it returns false'. Refute it at one input. -/
def fnExactValueOfWrong : ChangeSpec := { name := "fnExactValueOf", fn := fun _ => fun
  | [d1, d2] => { results := [.lit (.bool false)], args := [d1, d2] }
  | _ => none }
def FnExactValueOfWrongFalsely : Prop := fnExactValueOfRow.holds Try.pinned (OpenSpec.ofChange fnExactValueOfWrong)

/-- 'laws.FnExactMatchAtom': WHATEVER THE INPUT: true; the input reads as it did. -/
def fnExactMatchAtomSpec : ChangeSpec := { name := "fnExactMatchAtom", fn := fun _ => fun
  | [d1, d2, d3] => { results := [.lit (.bool true)], args := [d1, d2, d3] }
  | _ => none }
def fnExactMatchAtomRow : OpenClaim := { program := "ytdakfcgjnmmdgaa", sum := "ac085e3593e8a96c85f9283dab97239752b72d1df4dcf6b34ab10d807b1a6750", func := "loop.example/g01989/laws.FnExactMatchAtom", spec := "fnExactMatchAtom", apart := false }
def FnExactMatchAtomSaid : Prop := fnExactMatchAtomRow.holds Try.pinned (OpenSpec.ofChange fnExactMatchAtomSpec)

/-- ITS FALSE NEIGHBOUR: 'it returns false'. Refute it at one input. -/
def fnExactMatchAtomWrong : ChangeSpec := { name := "fnExactMatchAtom", fn := fun _ => fun
  | [d1, d2, d3] => { results := [.lit (.bool false)], args := [d1, d2, d3] }
  | _ => none }
def FnExactMatchAtomWrongFalsely : Prop := fnExactMatchAtomRow.holds Try.pinned (OpenSpec.ofChange fnExactMatchAtomWrong)

/-- 'laws.FnExactBindingsOf': WHATEVER THE INPUT: true; the input reads as it did. -/
def fnExactBindingsOfSpec : ChangeSpec := { name := "fnExactBindingsOf", fn := fun _ => fun
  | [d1, d2] => { results := [.lit (.bool true)], args := [d1, d2] }
  | _ => none }
def fnExactBindingsOfRow : OpenClaim := { program := "ytdakfcgjnmmdgaa", sum := "ac085e3593e8a96c85f9283dab97239752b72d1df4dcf6b34ab10d807b1a6750", func := "loop.example/g01989/laws.FnExactBindingsOf", spec := "fnExactBindingsOf", unfollowed := true, recurses := true, apart := false }
def FnExactBindingsOfSaid : Prop := fnExactBindingsOfRow.holds Try.pinned (OpenSpec.ofChange fnExactBindingsOfSpec)

/-- ITS FALSE NEIGHBOUR: 'it returns false'. Refute it at one input. -/
def fnExactBindingsOfWrong : ChangeSpec := { name := "fnExactBindingsOf", fn := fun _ => fun
  | [d1, d2] => { results := [.lit (.bool false)], args := [d1, d2] }
  | _ => none }
def FnExactBindingsOfWrongFalsely : Prop := fnExactBindingsOfRow.holds Try.pinned (OpenSpec.ofChange fnExactBindingsOfWrong)

/-- 'laws.FnExactAddTuple': WHATEVER THE INPUT: true; the input reads as it did. -/
def fnExactAddTupleSpec : ChangeSpec := { name := "fnExactAddTuple", fn := fun _ => fun
  | [d1, d2] => { results := [.lit (.bool true)], args := [d1, d2] }
  | _ => none }
def fnExactAddTupleRow : OpenClaim := { program := "ytdakfcgjnmmdgaa", sum := "ac085e3593e8a96c85f9283dab97239752b72d1df4dcf6b34ab10d807b1a6750", func := "loop.example/g01989/laws.FnExactAddTuple", spec := "fnExactAddTuple", inPlace := ["slices.overlaps[[]int]"], unfollowed := true, recurses := true, apart := false }
def FnExactAddTupleSaid : Prop := fnExactAddTupleRow.holds Try.pinned (OpenSpec.ofChange fnExactAddTupleSpec)

/-- ITS FALSE NEIGHBOUR: 'it returns false'. Refute it at one input. -/
def fnExactAddTupleWrong : ChangeSpec := { name := "fnExactAddTuple", fn := fun _ => fun
  | [d1, d2] => { results := [.lit (.bool false)], args := [d1, d2] }
  | _ => none }
def FnExactAddTupleWrongFalsely : Prop := fnExactAddTupleRow.holds Try.pinned (OpenSpec.ofChange fnExactAddTupleWrong)

/-- 'laws.FnExactSameTuples': WHATEVER THE INPUT: true; the input reads as it did. -/
def fnExactSameTuplesSpec : ChangeSpec := { name := "fnExactSameTuples", fn := fun _ => fun
  | [d1, d2] => { results := [.lit (.bool true)], args := [d1, d2] }
  | _ => none }
def fnExactSameTuplesRow : OpenClaim := { program := "ytdakfcgjnmmdgaa", sum := "ac085e3593e8a96c85f9283dab97239752b72d1df4dcf6b34ab10d807b1a6750", func := "loop.example/g01989/laws.FnExactSameTuples", spec := "fnExactSameTuples", unfollowed := true, recurses := true, apart := false }
def FnExactSameTuplesSaid : Prop := fnExactSameTuplesRow.holds Try.pinned (OpenSpec.ofChange fnExactSameTuplesSpec)

/-- ITS FALSE NEIGHBOUR: 'it returns false'. Refute it at one input. -/
def fnExactSameTuplesWrong : ChangeSpec := { name := "fnExactSameTuples", fn := fun _ => fun
  | [d1, d2] => { results := [.lit (.bool false)], args := [d1, d2] }
  | _ => none }
def FnExactSameTuplesWrongFalsely : Prop := fnExactSameTuplesRow.holds Try.pinned (OpenSpec.ofChange fnExactSameTuplesWrong)

/- THE SECOND FORM. 'bulk': how many values and letters a reading holds, each counted each time it is reached (what is shared counts as often as it is met; a slice's spare places count too). A statement '..UptoSaid' is the law's where the arguments, and the package variables that the reading takes, are together of bulk at most 1048576: NARROWER than '..Said'. Prove '..Said' where nothing that the law and all that it calls make is longer than what came in: it says more and counts as full. Else prove '..UptoSaid'. A law counts once. -/
mutual
def uptoBulk {H : Type} : DataW H → Nat
  | .lit (.string bytes) => bytes.length + 1
  | .lit _ => 1
  | .nil => 1
  | .ptr d => uptoBulk d + 1
  | .slice elems spare => uptoBulkAll elems + uptoBulkAll spare + 1
  | .agg parts => uptoBulkAll parts + 1
  | .iface _ d => uptoBulk d + 1
  | .map entries => uptoBulkEntries entries + 1
  | .held _ => 1
def uptoBulkAll {H : Type} : List (DataW H) → Nat
  | [] => 0
  | d :: r => uptoBulk d + uptoBulkAll r
def uptoBulkEntries {H : Type} : List (Lit × DataW H) → Nat
  | [] => 0
  | x :: r => uptoBulkEntry x + uptoBulkEntries r
def uptoBulkEntry {H : Type} : Lit × DataW H → Nat
  | (.string bytes, d) => bytes.length + uptoBulk d + 1
  | (_, d) => uptoBulk d + 1
 end
def uptoSmall : (H : Type) → List (DataW H) → Bool := fun _ ds => decide (uptoBulkAll ds ≤ 1048576)
def OpenSpec.upto (s : _root_.Go.ChangeSpec) : _root_.Go.OpenSpec := { _root_.Go.OpenSpec.ofChange s with cond := some uptoSmall }

/-- 'laws.FnExactAddFact', WHERE WHAT IT READS IS OF BULK AT MOST 1048576: true; the input reads as it did. -/
def fnExactAddFactUptoRow : OpenClaim := { program := "ytdakfcgjnmmdgaa", sum := "ac085e3593e8a96c85f9283dab97239752b72d1df4dcf6b34ab10d807b1a6750", func := "loop.example/g01989/laws.FnExactAddFact", spec := "fnExactAddFact", inPlace := ["slices.overlaps[loop.example/g01989/impl.Fact]"], unfollowed := true, recurses := true, apart := false, narrowed := true }
def FnExactAddFactUptoSaid : Prop := fnExactAddFactUptoRow.holds Try.pinned (OpenSpec.upto fnExactAddFactSpec)

/-- 'laws.FnExactValueOf', WHERE WHAT IT READS IS OF BULK AT MOST 1048576: true; the input reads as it did. -/
def fnExactValueOfUptoRow : OpenClaim := { program := "ytdakfcgjnmmdgaa", sum := "ac085e3593e8a96c85f9283dab97239752b72d1df4dcf6b34ab10d807b1a6750", func := "loop.example/g01989/laws.FnExactValueOf", spec := "fnExactValueOf", apart := false, narrowed := true }
def FnExactValueOfUptoSaid : Prop := fnExactValueOfUptoRow.holds Try.pinned (OpenSpec.upto fnExactValueOfSpec)

/-- 'laws.FnExactMatchAtom', WHERE WHAT IT READS IS OF BULK AT MOST 1048576: true; the input reads as it did. -/
def fnExactMatchAtomUptoRow : OpenClaim := { program := "ytdakfcgjnmmdgaa", sum := "ac085e3593e8a96c85f9283dab97239752b72d1df4dcf6b34ab10d807b1a6750", func := "loop.example/g01989/laws.FnExactMatchAtom", spec := "fnExactMatchAtom", apart := false, narrowed := true }
def FnExactMatchAtomUptoSaid : Prop := fnExactMatchAtomUptoRow.holds Try.pinned (OpenSpec.upto fnExactMatchAtomSpec)

/-- 'laws.FnExactBindingsOf', WHERE WHAT IT READS IS OF BULK AT MOST 1048576: true; the input reads as it did. -/
def fnExactBindingsOfUptoRow : OpenClaim := { program := "ytdakfcgjnmmdgaa", sum := "ac085e3593e8a96c85f9283dab97239752b72d1df4dcf6b34ab10d807b1a6750", func := "loop.example/g01989/laws.FnExactBindingsOf", spec := "fnExactBindingsOf", unfollowed := true, recurses := true, apart := false, narrowed := true }
def FnExactBindingsOfUptoSaid : Prop := fnExactBindingsOfUptoRow.holds Try.pinned (OpenSpec.upto fnExactBindingsOfSpec)

/-- 'laws.FnExactAddTuple', WHERE WHAT IT READS IS OF BULK AT MOST 1048576: true; the input reads as it did. -/
def fnExactAddTupleUptoRow : OpenClaim := { program := "ytdakfcgjnmmdgaa", sum := "ac085e3593e8a96c85f9283dab97239752b72d1df4dcf6b34ab10d807b1a6750", func := "loop.example/g01989/laws.FnExactAddTuple", spec := "fnExactAddTuple", inPlace := ["slices.overlaps[[]int]"], unfollowed := true, recurses := true, apart := false, narrowed := true }
def FnExactAddTupleUptoSaid : Prop := fnExactAddTupleUptoRow.holds Try.pinned (OpenSpec.upto fnExactAddTupleSpec)

/-- 'laws.FnExactSameTuples', WHERE WHAT IT READS IS OF BULK AT MOST 1048576: true; the input reads as it did. -/
def fnExactSameTuplesUptoRow : OpenClaim := { program := "ytdakfcgjnmmdgaa", sum := "ac085e3593e8a96c85f9283dab97239752b72d1df4dcf6b34ab10d807b1a6750", func := "loop.example/g01989/laws.FnExactSameTuples", spec := "fnExactSameTuples", unfollowed := true, recurses := true, apart := false, narrowed := true }
def FnExactSameTuplesUptoSaid : Prop := fnExactSameTuplesUptoRow.holds Try.pinned (OpenSpec.upto fnExactSameTuplesSpec)

end Rows
end Go.Proofs.Ytdakfcgjnmmdgaa
