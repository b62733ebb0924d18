/-
  No cell of these rows narrows 'for every input' (looked for: loops, veiled, ifaces, maps, wideKeys, modest, calm, conditions, laid).
  DERIVED. THE GIVEN ROWS OF THIS SEAT. 8 by the template 'for every input the law returns true; each argument reads behind the call as it read before'; 0 by the template 'total and deterministic' (their statements: YtdmnboeepcipbaaTotals.lean).
  GIVEN WITH THE SEED: the statements are not yours to turn. If you find one false, say at which input.
  Laid BY PROGRAM, IN A SANDBOX (cutbox-rows.mjs): the forced cells as the released guide's own fill.sh prints them over the translation 03fffa0d3bb84265… (all of the seat's roots in one cut). By AI agents, Wed Nov 11 2026. No macro, syntax, notation, axiom, sorry.
-/
import Derived.Test.YtdmnboeepcipbaaChecked
import GoSem.Claim
import GoSem.ClaimJoined
import GoSem.ClaimMapViews
import Derived.JoinedTies
import Derived.KernelRfl
namespace Go.Proofs.Ytdmnboeepcipbaa
/- THE CELL 'sum', in the pinned program and in every row, IS THE sha256 OF THE DUMP (.gsa) THAT YtdmnboeepcipbaaProg.lean LOADS. Nothing in Lean hashes anything: it is a label: what it is worth is what the hold of that sum in a sandbox is worth. -/
noncomputable def Try.pinned : Pinned := { name := "ytdmnboeepcipbaa", sum := "03fffa0d3bb84265cbdddbf007a487f30395cbf99d27eee0c7795ace7fe73662", checked := Try.checked }
namespace Rows
def none {H : Type} : Left H := { results := [], args := [] }

/-- 'laws.FnExactRespondTo': WHATEVER THE INPUT: true; the input reads as it did. -/
def fnExactRespondToSpec : ChangeSpec := { name := "fnExactRespondTo", fn := fun _ => fun
  | [d1, d2, d3, d4, d5] => { results := [.lit (.bool true)], args := [d1, d2, d3, d4, d5] }
  | _ => none }
def fnExactRespondToRow : OpenClaim := { program := "ytdmnboeepcipbaa", sum := "03fffa0d3bb84265cbdddbf007a487f30395cbf99d27eee0c7795ace7fe73662", func := "loop.example/g01989/laws.FnExactRespondTo", spec := "fnExactRespondTo", unfollowed := true, recurses := true, apart := false }
def FnExactRespondToSaid : Prop := fnExactRespondToRow.holds Try.pinned (OpenSpec.ofChange fnExactRespondToSpec)

/-- ITS FALSE NEIGHBOUR: 'it returns false'. Refute it at one input. -/
def fnExactRespondToWrong : ChangeSpec := { name := "fnExactRespondTo", fn := fun _ => fun
  | [d1, d2, d3, d4, d5] => { results := [.lit (.bool false)], args := [d1, d2, d3, d4, d5] }
  | _ => none }
def FnExactRespondToWrongFalsely : Prop := fnExactRespondToRow.holds Try.pinned (OpenSpec.ofChange fnExactRespondToWrong)

/-- 'laws.FnExactCanCall': WHATEVER THE INPUT: true; the input reads as it did. -/
def fnExactCanCallSpec : ChangeSpec := { name := "fnExactCanCall", fn := fun _ => fun
  | [d1, d2, d3] => { results := [.lit (.bool true)], args := [d1, d2, d3] }
  | _ => none }
def fnExactCanCallRow : OpenClaim := { program := "ytdmnboeepcipbaa", sum := "03fffa0d3bb84265cbdddbf007a487f30395cbf99d27eee0c7795ace7fe73662", func := "loop.example/g01989/laws.FnExactCanCall", spec := "fnExactCanCall", unfollowed := true, recurses := true, apart := false }
def FnExactCanCallSaid : Prop := fnExactCanCallRow.holds Try.pinned (OpenSpec.ofChange fnExactCanCallSpec)

/-- ITS FALSE NEIGHBOUR: 'it returns false'. Refute it at one input. -/
def fnExactCanCallWrong : ChangeSpec := { name := "fnExactCanCall", fn := fun _ => fun
  | [d1, d2, d3] => { results := [.lit (.bool false)], args := [d1, d2, d3] }
  | _ => none }
def FnExactCanCallWrongFalsely : Prop := fnExactCanCallRow.holds Try.pinned (OpenSpec.ofChange fnExactCanCallWrong)

/-- 'laws.FnExactIsOrder': WHATEVER THE INPUT: true; the input reads as it did. -/
def fnExactIsOrderSpec : ChangeSpec := { name := "fnExactIsOrder", fn := fun _ => fun
  | [d1, d2, d3, d4] => { results := [.lit (.bool true)], args := [d1, d2, d3, d4] }
  | _ => none }
def fnExactIsOrderRow : OpenClaim := { program := "ytdmnboeepcipbaa", sum := "03fffa0d3bb84265cbdddbf007a487f30395cbf99d27eee0c7795ace7fe73662", func := "loop.example/g01989/laws.FnExactIsOrder", spec := "fnExactIsOrder", unfollowed := true, recurses := true, apart := false }
def FnExactIsOrderSaid : Prop := fnExactIsOrderRow.holds Try.pinned (OpenSpec.ofChange fnExactIsOrderSpec)

/-- ITS FALSE NEIGHBOUR: 'it returns false'. Refute it at one input. -/
def fnExactIsOrderWrong : ChangeSpec := { name := "fnExactIsOrder", fn := fun _ => fun
  | [d1, d2, d3, d4] => { results := [.lit (.bool false)], args := [d1, d2, d3, d4] }
  | _ => none }
def FnExactIsOrderWrongFalsely : Prop := fnExactIsOrderRow.holds Try.pinned (OpenSpec.ofChange fnExactIsOrderWrong)

/-- 'laws.FnExactFindOrder': WHATEVER THE INPUT: true; the input reads as it did. -/
def fnExactFindOrderSpec : ChangeSpec := { name := "fnExactFindOrder", fn := fun _ => fun
  | [d1, d2, d3] => { results := [.lit (.bool true)], args := [d1, d2, d3] }
  | _ => none }
def fnExactFindOrderRow : OpenClaim := { program := "ytdmnboeepcipbaa", sum := "03fffa0d3bb84265cbdddbf007a487f30395cbf99d27eee0c7795ace7fe73662", func := "loop.example/g01989/laws.FnExactFindOrder", spec := "fnExactFindOrder", unfollowed := true, recurses := true, apart := false }
def FnExactFindOrderSaid : Prop := fnExactFindOrderRow.holds Try.pinned (OpenSpec.ofChange fnExactFindOrderSpec)

/-- ITS FALSE NEIGHBOUR: 'it returns false'. Refute it at one input. -/
def fnExactFindOrderWrong : ChangeSpec := { name := "fnExactFindOrder", fn := fun _ => fun
  | [d1, d2, d3] => { results := [.lit (.bool false)], args := [d1, d2, d3] }
  | _ => none }
def FnExactFindOrderWrongFalsely : Prop := fnExactFindOrderRow.holds Try.pinned (OpenSpec.ofChange fnExactFindOrderWrong)

/-- 'laws.FnExactBlockedAtoms': WHATEVER THE INPUT: true; the input reads as it did. -/
def fnExactBlockedAtomsSpec : ChangeSpec := { name := "fnExactBlockedAtoms", fn := fun _ => fun
  | [d1, d2, d3] => { results := [.lit (.bool true)], args := [d1, d2, d3] }
  | _ => none }
def fnExactBlockedAtomsRow : OpenClaim := { program := "ytdmnboeepcipbaa", sum := "03fffa0d3bb84265cbdddbf007a487f30395cbf99d27eee0c7795ace7fe73662", func := "loop.example/g01989/laws.FnExactBlockedAtoms", spec := "fnExactBlockedAtoms", unfollowed := true, recurses := true, apart := false }
def FnExactBlockedAtomsSaid : Prop := fnExactBlockedAtomsRow.holds Try.pinned (OpenSpec.ofChange fnExactBlockedAtomsSpec)

/-- ITS FALSE NEIGHBOUR: 'it returns false'. Refute it at one input. -/
def fnExactBlockedAtomsWrong : ChangeSpec := { name := "fnExactBlockedAtoms", fn := fun _ => fun
  | [d1, d2, d3] => { results := [.lit (.bool false)], args := [d1, d2, d3] }
  | _ => none }
def FnExactBlockedAtomsWrongFalsely : Prop := fnExactBlockedAtomsRow.holds Try.pinned (OpenSpec.ofChange fnExactBlockedAtomsWrong)

/-- 'laws.FnExactOrderCost': WHATEVER THE INPUT: true; the input reads as it did. -/
def fnExactOrderCostSpec : ChangeSpec := { name := "fnExactOrderCost", fn := fun _ => fun
  | [d1, d2] => { results := [.lit (.bool true)], args := [d1, d2] }
  | _ => none }
def fnExactOrderCostRow : OpenClaim := { program := "ytdmnboeepcipbaa", sum := "03fffa0d3bb84265cbdddbf007a487f30395cbf99d27eee0c7795ace7fe73662", func := "loop.example/g01989/laws.FnExactOrderCost", spec := "fnExactOrderCost", apart := false }
def FnExactOrderCostSaid : Prop := fnExactOrderCostRow.holds Try.pinned (OpenSpec.ofChange fnExactOrderCostSpec)

/-- ITS FALSE NEIGHBOUR: 'it returns false'. Refute it at one input. -/
def fnExactOrderCostWrong : ChangeSpec := { name := "fnExactOrderCost", fn := fun _ => fun
  | [d1, d2] => { results := [.lit (.bool false)], args := [d1, d2] }
  | _ => none }
def FnExactOrderCostWrongFalsely : Prop := fnExactOrderCostRow.holds Try.pinned (OpenSpec.ofChange fnExactOrderCostWrong)

/-- 'laws.FnExactCheapestOrder': WHATEVER THE INPUT: true; the input reads as it did. -/
def fnExactCheapestOrderSpec : ChangeSpec := { name := "fnExactCheapestOrder", fn := fun _ => fun
  | [d1, d2, d3] => { results := [.lit (.bool true)], args := [d1, d2, d3] }
  | _ => none }
def fnExactCheapestOrderRow : OpenClaim := { program := "ytdmnboeepcipbaa", sum := "03fffa0d3bb84265cbdddbf007a487f30395cbf99d27eee0c7795ace7fe73662", func := "loop.example/g01989/laws.FnExactCheapestOrder", spec := "fnExactCheapestOrder", unfollowed := true, recurses := true, apart := false }
def FnExactCheapestOrderSaid : Prop := fnExactCheapestOrderRow.holds Try.pinned (OpenSpec.ofChange fnExactCheapestOrderSpec)

/-- ITS FALSE NEIGHBOUR: 'it returns false'. Refute it at one input. -/
def fnExactCheapestOrderWrong : ChangeSpec := { name := "fnExactCheapestOrder", fn := fun _ => fun
  | [d1, d2, d3] => { results := [.lit (.bool false)], args := [d1, d2, d3] }
  | _ => none }
def FnExactCheapestOrderWrongFalsely : Prop := fnExactCheapestOrderRow.holds Try.pinned (OpenSpec.ofChange fnExactCheapestOrderWrong)

/-- 'laws.FnExactSameSteps': WHATEVER THE INPUT: true; the input reads as it did. -/
def fnExactSameStepsSpec : ChangeSpec := { name := "fnExactSameSteps", fn := fun _ => fun
  | [d1, d2] => { results := [.lit (.bool true)], args := [d1, d2] }
  | _ => none }
def fnExactSameStepsRow : OpenClaim := { program := "ytdmnboeepcipbaa", sum := "03fffa0d3bb84265cbdddbf007a487f30395cbf99d27eee0c7795ace7fe73662", func := "loop.example/g01989/laws.FnExactSameSteps", spec := "fnExactSameSteps", apart := false }
def FnExactSameStepsSaid : Prop := fnExactSameStepsRow.holds Try.pinned (OpenSpec.ofChange fnExactSameStepsSpec)

/-- ITS FALSE NEIGHBOUR: 'it returns false'. Refute it at one input. -/
def fnExactSameStepsWrong : ChangeSpec := { name := "fnExactSameSteps", fn := fun _ => fun
  | [d1, d2] => { results := [.lit (.bool false)], args := [d1, d2] }
  | _ => none }
def FnExactSameStepsWrongFalsely : Prop := fnExactSameStepsRow.holds Try.pinned (OpenSpec.ofChange fnExactSameStepsWrong)

/- THE SECOND FORM. 'bulk': how many values and letters a reading holds, each counted each time it is reached (what is shared counts as often as it is met; a slice's spare places count too). A statement '..UptoSaid' is the law's where the arguments, and the package variables that the reading takes, are together of bulk at most 1048576: NARROWER than '..Said'. Prove '..Said' where nothing that the law and all that it calls make is longer than what came in: it says more and counts as full. Else prove '..UptoSaid'. A law counts once. -/
mutual
def uptoBulk {H : Type} : DataW H → Nat
  | .lit (.string bytes) => bytes.length + 1
  | .lit _ => 1
  | .nil => 1
  | .ptr d => uptoBulk d + 1
  | .slice elems spare => uptoBulkAll elems + uptoBulkAll spare + 1
  | .agg parts => uptoBulkAll parts + 1
  | .iface _ d => uptoBulk d + 1
  | .map entries => uptoBulkEntries entries + 1
  | .held _ => 1
def uptoBulkAll {H : Type} : List (DataW H) → Nat
  | [] => 0
  | d :: r => uptoBulk d + uptoBulkAll r
def uptoBulkEntries {H : Type} : List (Lit × DataW H) → Nat
  | [] => 0
  | x :: r => uptoBulkEntry x + uptoBulkEntries r
def uptoBulkEntry {H : Type} : Lit × DataW H → Nat
  | (.string bytes, d) => bytes.length + uptoBulk d + 1
  | (_, d) => uptoBulk d + 1
 end
def uptoSmall : (H : Type) → List (DataW H) → Bool := fun _ ds => decide (uptoBulkAll ds ≤ 1048576)
def OpenSpec.upto (s : _root_.Go.ChangeSpec) : _root_.Go.OpenSpec := { _root_.Go.OpenSpec.ofChange s with cond := some uptoSmall }

/-- 'laws.FnExactRespondTo', WHERE WHAT IT READS IS OF BULK AT MOST 1048576: true; the input reads as it did. -/
def fnExactRespondToUptoRow : OpenClaim := { program := "ytdmnboeepcipbaa", sum := "03fffa0d3bb84265cbdddbf007a487f30395cbf99d27eee0c7795ace7fe73662", func := "loop.example/g01989/laws.FnExactRespondTo", spec := "fnExactRespondTo", unfollowed := true, recurses := true, apart := false, narrowed := true }
def FnExactRespondToUptoSaid : Prop := fnExactRespondToUptoRow.holds Try.pinned (OpenSpec.upto fnExactRespondToSpec)

/-- 'laws.FnExactCanCall', WHERE WHAT IT READS IS OF BULK AT MOST 1048576: true; the input reads as it did. -/
def fnExactCanCallUptoRow : OpenClaim := { program := "ytdmnboeepcipbaa", sum := "03fffa0d3bb84265cbdddbf007a487f30395cbf99d27eee0c7795ace7fe73662", func := "loop.example/g01989/laws.FnExactCanCall", spec := "fnExactCanCall", unfollowed := true, recurses := true, apart := false, narrowed := true }
def FnExactCanCallUptoSaid : Prop := fnExactCanCallUptoRow.holds Try.pinned (OpenSpec.upto fnExactCanCallSpec)

/-- 'laws.FnExactIsOrder', WHERE WHAT IT READS IS OF BULK AT MOST 1048576: true; the input reads as it did. -/
def fnExactIsOrderUptoRow : OpenClaim := { program := "ytdmnboeepcipbaa", sum := "03fffa0d3bb84265cbdddbf007a487f30395cbf99d27eee0c7795ace7fe73662", func := "loop.example/g01989/laws.FnExactIsOrder", spec := "fnExactIsOrder", unfollowed := true, recurses := true, apart := false, narrowed := true }
def FnExactIsOrderUptoSaid : Prop := fnExactIsOrderUptoRow.holds Try.pinned (OpenSpec.upto fnExactIsOrderSpec)

/-- 'laws.FnExactFindOrder', WHERE WHAT IT READS IS OF BULK AT MOST 1048576: true; the input reads as it did. -/
def fnExactFindOrderUptoRow : OpenClaim := { program := "ytdmnboeepcipbaa", sum := "03fffa0d3bb84265cbdddbf007a487f30395cbf99d27eee0c7795ace7fe73662", func := "loop.example/g01989/laws.FnExactFindOrder", spec := "fnExactFindOrder", unfollowed := true, recurses := true, apart := false, narrowed := true }
def FnExactFindOrderUptoSaid : Prop := fnExactFindOrderUptoRow.holds Try.pinned (OpenSpec.upto fnExactFindOrderSpec)

/-- 'laws.FnExactBlockedAtoms', WHERE WHAT IT READS IS OF BULK AT MOST 1048576: true; the input reads as it did. -/
def fnExactBlockedAtomsUptoRow : OpenClaim := { program := "ytdmnboeepcipbaa", sum := "03fffa0d3bb84265cbdddbf007a487f30395cbf99d27eee0c7795ace7fe73662", func := "loop.example/g01989/laws.FnExactBlockedAtoms", spec := "fnExactBlockedAtoms", unfollowed := true, recurses := true, apart := false, narrowed := true }
def FnExactBlockedAtomsUptoSaid : Prop := fnExactBlockedAtomsUptoRow.holds Try.pinned (OpenSpec.upto fnExactBlockedAtomsSpec)

/-- 'laws.FnExactOrderCost', WHERE WHAT IT READS IS OF BULK AT MOST 1048576: true; the input reads as it did. -/
def fnExactOrderCostUptoRow : OpenClaim := { program := "ytdmnboeepcipbaa", sum := "03fffa0d3bb84265cbdddbf007a487f30395cbf99d27eee0c7795ace7fe73662", func := "loop.example/g01989/laws.FnExactOrderCost", spec := "fnExactOrderCost", apart := false, narrowed := true }
def FnExactOrderCostUptoSaid : Prop := fnExactOrderCostUptoRow.holds Try.pinned (OpenSpec.upto fnExactOrderCostSpec)

/-- 'laws.FnExactCheapestOrder', WHERE WHAT IT READS IS OF BULK AT MOST 1048576: true; the input reads as it did. -/
def fnExactCheapestOrderUptoRow : OpenClaim := { program := "ytdmnboeepcipbaa", sum := "03fffa0d3bb84265cbdddbf007a487f30395cbf99d27eee0c7795ace7fe73662", func := "loop.example/g01989/laws.FnExactCheapestOrder", spec := "fnExactCheapestOrder", unfollowed := true, recurses := true, apart := false, narrowed := true }
def FnExactCheapestOrderUptoSaid : Prop := fnExactCheapestOrderUptoRow.holds Try.pinned (OpenSpec.upto fnExactCheapestOrderSpec)

/-- 'laws.FnExactSameSteps', WHERE WHAT IT READS IS OF BULK AT MOST 1048576: true; the input reads as it did. -/
def fnExactSameStepsUptoRow : OpenClaim := { program := "ytdmnboeepcipbaa", sum := "03fffa0d3bb84265cbdddbf007a487f30395cbf99d27eee0c7795ace7fe73662", func := "loop.example/g01989/laws.FnExactSameSteps", spec := "fnExactSameSteps", apart := false, narrowed := true }
def FnExactSameStepsUptoSaid : Prop := fnExactSameStepsUptoRow.holds Try.pinned (OpenSpec.upto fnExactSameStepsSpec)

end Rows
end Go.Proofs.Ytdmnboeepcipbaa
