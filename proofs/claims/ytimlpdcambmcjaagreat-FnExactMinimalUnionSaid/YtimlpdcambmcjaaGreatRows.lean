/-
  No cell of these rows narrows 'for every input' (looked for: loops, veiled, ifaces, maps, wideKeys, modest, calm, conditions, laid).
  DERIVED. THE GIVEN ROWS OF THIS SEAT. 4 by the template 'for every input the law returns true; each argument reads behind the call as it read before'; 0 by the template 'total and deterministic' (their statements: YtimlpdcambmcjaaGreatTotals.lean).
  GIVEN WITH THE SEED: the statements are not yours to turn. If you find one false, say at which input.
  Laid BY PROGRAM, IN A SANDBOX (cutbox-rows.mjs): the forced cells as the released guide's own fill.sh prints them over the translation 07ec930833f75256… (all of the seat's roots in one cut). By AI agents, Wed Nov 11 2026. No macro, syntax, notation, axiom, sorry.
-/
import Derived.Test.YtimlpdcambmcjaaGreatChecked
import GoSem.Claim
import GoSem.ClaimJoined
import GoSem.ClaimMapViews
import Derived.JoinedTies
import Derived.KernelRfl
namespace Go.Proofs.YtimlpdcambmcjaaGreat
/- THE CELL 'sum', in the pinned program and in every row, IS THE sha256 OF THE DUMP (.gsa) THAT YtimlpdcambmcjaaGreatProg.lean LOADS. Nothing in Lean hashes anything: it is a label: what it is worth is what the hold of that sum in a sandbox is worth. -/
noncomputable def Tryz.pinned : Pinned := { name := "ytimlpdcambmcjaagreat", sum := "07ec930833f7525670f3da353439e30ac512d76002d5b375565bd640ed2bef68", checked := Tryz.checked }
namespace Rows
def none {H : Type} : Left H := { results := [], args := [] }

/-- 'laws.FnExactCoreOf': WHATEVER THE INPUT: true; the input reads as it did. -/
def fnExactCoreOfSpec : ChangeSpec := { name := "fnExactCoreOf", fn := fun _ => fun
  | [d1, d2] => { results := [.lit (.bool true)], args := [d1, d2] }
  | _ => none }
def fnExactCoreOfRow : OpenClaim := { program := "ytimlpdcambmcjaagreat", sum := "07ec930833f7525670f3da353439e30ac512d76002d5b375565bd640ed2bef68", func := "loop.example/g01989/laws.FnExactCoreOf", spec := "fnExactCoreOf", inPlace := ["slices.overlaps[loop.example/g01989/impl.Fact]"], unfollowed := true, recurses := true, plainKeys := false, apart := false }
def FnExactCoreOfSaid : Prop := fnExactCoreOfRow.holds Tryz.pinned (OpenSpec.ofChange fnExactCoreOfSpec)

/-- ITS FALSE NEIGHBOUR: 'it returns false'. Refute it at one input. -/
def fnExactCoreOfWrong : ChangeSpec := { name := "fnExactCoreOf", fn := fun _ => fun
  | [d1, d2] => { results := [.lit (.bool false)], args := [d1, d2] }
  | _ => none }
def FnExactCoreOfWrongFalsely : Prop := fnExactCoreOfRow.holds Tryz.pinned (OpenSpec.ofChange fnExactCoreOfWrong)

/-- 'laws.FnExactUnionAnswers': WHATEVER THE INPUT: true; the input reads as it did. -/
def fnExactUnionAnswersSpec : ChangeSpec := { name := "fnExactUnionAnswers", fn := fun _ => fun
  | [d1, d2, d3] => { results := [.lit (.bool true)], args := [d1, d2, d3] }
  | _ => none }
def fnExactUnionAnswersRow : OpenClaim := { program := "ytimlpdcambmcjaagreat", sum := "07ec930833f7525670f3da353439e30ac512d76002d5b375565bd640ed2bef68", func := "loop.example/g01989/laws.FnExactUnionAnswers", spec := "fnExactUnionAnswers", unfollowed := true, recurses := true, plainKeys := false, apart := false }
def FnExactUnionAnswersSaid : Prop := fnExactUnionAnswersRow.holds Tryz.pinned (OpenSpec.ofChange fnExactUnionAnswersSpec)

/-- ITS FALSE NEIGHBOUR: 'it returns false'. Refute it at one input. -/
def fnExactUnionAnswersWrong : ChangeSpec := { name := "fnExactUnionAnswers", fn := fun _ => fun
  | [d1, d2, d3] => { results := [.lit (.bool false)], args := [d1, d2, d3] }
  | _ => none }
def FnExactUnionAnswersWrongFalsely : Prop := fnExactUnionAnswersRow.holds Tryz.pinned (OpenSpec.ofChange fnExactUnionAnswersWrong)

/-- 'laws.FnExactSameUnions': WHATEVER THE INPUT: true; the input reads as it did. -/
def fnExactSameUnionsSpec : ChangeSpec := { name := "fnExactSameUnions", fn := fun _ => fun
  | [d1, d2, d3] => { results := [.lit (.bool true)], args := [d1, d2, d3] }
  | _ => none }
def fnExactSameUnionsRow : OpenClaim := { program := "ytimlpdcambmcjaagreat", sum := "07ec930833f7525670f3da353439e30ac512d76002d5b375565bd640ed2bef68", func := "loop.example/g01989/laws.FnExactSameUnions", spec := "fnExactSameUnions", inPlace := ["slices.overlaps[loop.example/g01989/impl.Fact]"], unfollowed := true, recurses := true, plainKeys := false, apart := false }
def FnExactSameUnionsSaid : Prop := fnExactSameUnionsRow.holds Tryz.pinned (OpenSpec.ofChange fnExactSameUnionsSpec)

/-- ITS FALSE NEIGHBOUR: 'it returns false'. Refute it at one input. -/
def fnExactSameUnionsWrong : ChangeSpec := { name := "fnExactSameUnions", fn := fun _ => fun
  | [d1, d2, d3] => { results := [.lit (.bool false)], args := [d1, d2, d3] }
  | _ => none }
def FnExactSameUnionsWrongFalsely : Prop := fnExactSameUnionsRow.holds Tryz.pinned (OpenSpec.ofChange fnExactSameUnionsWrong)

/-- 'laws.FnExactMinimalUnion': WHATEVER THE INPUT: true; the input reads as it did. -/
def fnExactMinimalUnionSpec : ChangeSpec := { name := "fnExactMinimalUnion", fn := fun _ => fun
  | [d1, d2] => { results := [.lit (.bool true)], args := [d1, d2] }
  | _ => none }
def fnExactMinimalUnionRow : OpenClaim := { program := "ytimlpdcambmcjaagreat", sum := "07ec930833f7525670f3da353439e30ac512d76002d5b375565bd640ed2bef68", func := "loop.example/g01989/laws.FnExactMinimalUnion", spec := "fnExactMinimalUnion", inPlace := ["slices.overlaps[loop.example/g01989/impl.Fact]"], unfollowed := true, recurses := true, plainKeys := false, apart := false }
def FnExactMinimalUnionSaid : Prop := fnExactMinimalUnionRow.holds Tryz.pinned (OpenSpec.ofChange fnExactMinimalUnionSpec)

/-- ITS FALSE NEIGHBOUR: 'it returns false'. Refute it at one input. -/
def fnExactMinimalUnionWrong : ChangeSpec := { name := "fnExactMinimalUnion", fn := fun _ => fun
  | [d1, d2] => { results := [.lit (.bool false)], args := [d1, d2] }
  | _ => none }
def FnExactMinimalUnionWrongFalsely : Prop := fnExactMinimalUnionRow.holds Tryz.pinned (OpenSpec.ofChange fnExactMinimalUnionWrong)

/- THE SECOND FORM. 'bulk': how many values and letters a reading holds, each counted each time it is reached (what is shared counts as often as it is met; a slice's spare places count too). A statement '..UptoSaid' is the law's where the arguments, and the package variables that the reading takes, are together of bulk at most 1048576: NARROWER than '..Said'. Prove '..Said' where nothing that the law and all that it calls make is longer than what came in: it says more and counts as full. Else prove '..UptoSaid'. A law counts once. -/
mutual
def uptoBulk {H : Type} : DataW H → Nat
  | .lit (.string bytes) => bytes.length + 1
  | .lit _ => 1
  | .nil => 1
  | .ptr d => uptoBulk d + 1
  | .slice elems spare => uptoBulkAll elems + uptoBulkAll spare + 1
  | .agg parts => uptoBulkAll parts + 1
  | .iface _ d => uptoBulk d + 1
  | .map entries => uptoBulkEntries entries + 1
  | .held _ => 1
def uptoBulkAll {H : Type} : List (DataW H) → Nat
  | [] => 0
  | d :: r => uptoBulk d + uptoBulkAll r
def uptoBulkEntries {H : Type} : List (Lit × DataW H) → Nat
  | [] => 0
  | x :: r => uptoBulkEntry x + uptoBulkEntries r
def uptoBulkEntry {H : Type} : Lit × DataW H → Nat
  | (.string bytes, d) => bytes.length + uptoBulk d + 1
  | (_, d) => uptoBulk d + 1
 end
def uptoSmall : (H : Type) → List (DataW H) → Bool := fun _ ds => decide (uptoBulkAll ds ≤ 1048576)
def OpenSpec.upto (s : _root_.Go.ChangeSpec) : _root_.Go.OpenSpec := { _root_.Go.OpenSpec.ofChange s with cond := some uptoSmall }

/-- 'laws.FnExactCoreOf', WHERE WHAT IT READS IS OF BULK AT MOST 1048576: true; the input reads as it did. -/
def fnExactCoreOfUptoRow : OpenClaim := { program := "ytimlpdcambmcjaagreat", sum := "07ec930833f7525670f3da353439e30ac512d76002d5b375565bd640ed2bef68", func := "loop.example/g01989/laws.FnExactCoreOf", spec := "fnExactCoreOf", inPlace := ["slices.overlaps[loop.example/g01989/impl.Fact]"], unfollowed := true, recurses := true, plainKeys := false, apart := false, narrowed := true }
def FnExactCoreOfUptoSaid : Prop := fnExactCoreOfUptoRow.holds Tryz.pinned (OpenSpec.upto fnExactCoreOfSpec)

/-- 'laws.FnExactUnionAnswers', WHERE WHAT IT READS IS OF BULK AT MOST 1048576: true; the input reads as it did. -/
def fnExactUnionAnswersUptoRow : OpenClaim := { program := "ytimlpdcambmcjaagreat", sum := "07ec930833f7525670f3da353439e30ac512d76002d5b375565bd640ed2bef68", func := "loop.example/g01989/laws.FnExactUnionAnswers", spec := "fnExactUnionAnswers", unfollowed := true, recurses := true, plainKeys := false, apart := false, narrowed := true }
def FnExactUnionAnswersUptoSaid : Prop := fnExactUnionAnswersUptoRow.holds Tryz.pinned (OpenSpec.upto fnExactUnionAnswersSpec)

/-- 'laws.FnExactSameUnions', WHERE WHAT IT READS IS OF BULK AT MOST 1048576: true; the input reads as it did. -/
def fnExactSameUnionsUptoRow : OpenClaim := { program := "ytimlpdcambmcjaagreat", sum := "07ec930833f7525670f3da353439e30ac512d76002d5b375565bd640ed2bef68", func := "loop.example/g01989/laws.FnExactSameUnions", spec := "fnExactSameUnions", inPlace := ["slices.overlaps[loop.example/g01989/impl.Fact]"], unfollowed := true, recurses := true, plainKeys := false, apart := false, narrowed := true }
def FnExactSameUnionsUptoSaid : Prop := fnExactSameUnionsUptoRow.holds Tryz.pinned (OpenSpec.upto fnExactSameUnionsSpec)

/-- 'laws.FnExactMinimalUnion', WHERE WHAT IT READS IS OF BULK AT MOST 1048576: true; the input reads as it did. -/
def fnExactMinimalUnionUptoRow : OpenClaim := { program := "ytimlpdcambmcjaagreat", sum := "07ec930833f7525670f3da353439e30ac512d76002d5b375565bd640ed2bef68", func := "loop.example/g01989/laws.FnExactMinimalUnion", spec := "fnExactMinimalUnion", inPlace := ["slices.overlaps[loop.example/g01989/impl.Fact]"], unfollowed := true, recurses := true, plainKeys := false, apart := false, narrowed := true }
def FnExactMinimalUnionUptoSaid : Prop := fnExactMinimalUnionUptoRow.holds Tryz.pinned (OpenSpec.upto fnExactMinimalUnionSpec)

end Rows
end Go.Proofs.YtimlpdcambmcjaaGreat
