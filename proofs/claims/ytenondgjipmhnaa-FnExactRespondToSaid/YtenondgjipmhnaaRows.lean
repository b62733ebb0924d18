/-
  No cell of these rows narrows 'for every input' (looked for: loops, veiled, ifaces, maps, wideKeys, modest, calm, conditions, laid).
  DERIVED. THE GIVEN ROWS OF THIS SEAT. 10 by the template 'for every input the law returns true; each argument reads behind the call as it read before'; 0 by the template 'total and deterministic' (their statements: YtenondgjipmhnaaTotals.lean).
  GIVEN WITH THE SEED: the statements are not yours to turn. If you find one false, say at which input.
  Laid BY PROGRAM, IN A SANDBOX (cutbox-rows.mjs): the forced cells as the released guide's own fill.sh prints them over the translation 2a79a49810db5954… (all of the seat's roots in one cut). By AI agents, Wed Nov 11 2026. No macro, syntax, notation, axiom, sorry.
-/
import Derived.Test.YtenondgjipmhnaaChecked
import GoSem.Claim
import GoSem.ClaimJoined
import GoSem.ClaimMapViews
import Derived.JoinedTies
import Derived.KernelRfl
namespace Go.Proofs.Ytenondgjipmhnaa
/- THE CELL 'sum', in the pinned program and in every row, IS THE sha256 OF THE DUMP (.gsa) THAT YtenondgjipmhnaaProg.lean LOADS. Nothing in Lean hashes anything: it is a label: what it is worth is what the hold of that sum in a sandbox is worth. -/
noncomputable def Try.pinned : Pinned := { name := "ytenondgjipmhnaa", sum := "2a79a49810db5954044c96deb60ea79f186f6e02ba3b26a2bbb31e34a1711c92", checked := Try.checked }
namespace Rows
def none {H : Type} : Left H := { results := [], args := [] }

/-- 'laws.FnExactIsMethod': WHATEVER THE INPUT: true; the input reads as it did. -/
def fnExactIsMethodSpec : ChangeSpec := { name := "fnExactIsMethod", fn := fun _ => fun
  | [d1, d2] => { results := [.lit (.bool true)], args := [d1, d2] }
  | _ => none }
def fnExactIsMethodRow : OpenClaim := { program := "ytenondgjipmhnaa", sum := "2a79a49810db5954044c96deb60ea79f186f6e02ba3b26a2bbb31e34a1711c92", func := "loop.example/g01989/laws.FnExactIsMethod", spec := "fnExactIsMethod", unfollowed := true, recurses := true, apart := false }
def FnExactIsMethodSaid : Prop := fnExactIsMethodRow.holds Try.pinned (OpenSpec.ofChange fnExactIsMethodSpec)

/-- ITS FALSE NEIGHBOUR: 'it returns false'. Refute it at one input. -/
def fnExactIsMethodWrong : ChangeSpec := { name := "fnExactIsMethod", fn := fun _ => fun
  | [d1, d2] => { results := [.lit (.bool false)], args := [d1, d2] }
  | _ => none }
def FnExactIsMethodWrongFalsely : Prop := fnExactIsMethodRow.holds Try.pinned (OpenSpec.ofChange fnExactIsMethodWrong)

/-- 'laws.FnExactAreMethods': WHATEVER THE INPUT: true; the input reads as it did. -/
def fnExactAreMethodsSpec : ChangeSpec := { name := "fnExactAreMethods", fn := fun _ => fun
  | [d1, d2] => { results := [.lit (.bool true)], args := [d1, d2] }
  | _ => none }
def fnExactAreMethodsRow : OpenClaim := { program := "ytenondgjipmhnaa", sum := "2a79a49810db5954044c96deb60ea79f186f6e02ba3b26a2bbb31e34a1711c92", func := "loop.example/g01989/laws.FnExactAreMethods", spec := "fnExactAreMethods", unfollowed := true, recurses := true, apart := false }
def FnExactAreMethodsSaid : Prop := fnExactAreMethodsRow.holds Try.pinned (OpenSpec.ofChange fnExactAreMethodsSpec)

/-- ITS FALSE NEIGHBOUR: 'it returns false'. Refute it at one input. -/
def fnExactAreMethodsWrong : ChangeSpec := { name := "fnExactAreMethods", fn := fun _ => fun
  | [d1, d2] => { results := [.lit (.bool false)], args := [d1, d2] }
  | _ => none }
def FnExactAreMethodsWrongFalsely : Prop := fnExactAreMethodsRow.holds Try.pinned (OpenSpec.ofChange fnExactAreMethodsWrong)

/-- 'laws.FnExactIsAccess': WHATEVER THE INPUT: true; the input reads as it did. -/
def fnExactIsAccessSpec : ChangeSpec := { name := "fnExactIsAccess", fn := fun _ => fun
  | [d1, d2, d3] => { results := [.lit (.bool true)], args := [d1, d2, d3] }
  | _ => none }
def fnExactIsAccessRow : OpenClaim := { program := "ytenondgjipmhnaa", sum := "2a79a49810db5954044c96deb60ea79f186f6e02ba3b26a2bbb31e34a1711c92", func := "loop.example/g01989/laws.FnExactIsAccess", spec := "fnExactIsAccess", unfollowed := true, recurses := true, apart := false }
def FnExactIsAccessSaid : Prop := fnExactIsAccessRow.holds Try.pinned (OpenSpec.ofChange fnExactIsAccessSpec)

/-- ITS FALSE NEIGHBOUR: 'it returns false'. Refute it at one input. -/
def fnExactIsAccessWrong : ChangeSpec := { name := "fnExactIsAccess", fn := fun _ => fun
  | [d1, d2, d3] => { results := [.lit (.bool false)], args := [d1, d2, d3] }
  | _ => none }
def FnExactIsAccessWrongFalsely : Prop := fnExactIsAccessRow.holds Try.pinned (OpenSpec.ofChange fnExactIsAccessWrong)

/-- 'laws.FnExactMatchesOf': WHATEVER THE INPUT: true; the input reads as it did. -/
def fnExactMatchesOfSpec : ChangeSpec := { name := "fnExactMatchesOf", fn := fun _ => fun
  | [d1, d2, d3, d4] => { results := [.lit (.bool true)], args := [d1, d2, d3, d4] }
  | _ => none }
def fnExactMatchesOfRow : OpenClaim := { program := "ytenondgjipmhnaa", sum := "2a79a49810db5954044c96deb60ea79f186f6e02ba3b26a2bbb31e34a1711c92", func := "loop.example/g01989/laws.FnExactMatchesOf", spec := "fnExactMatchesOf", unfollowed := true, recurses := true, apart := false }
def FnExactMatchesOfSaid : Prop := fnExactMatchesOfRow.holds Try.pinned (OpenSpec.ofChange fnExactMatchesOfSpec)

/-- ITS FALSE NEIGHBOUR: 'it returns false'. Refute it at one input. -/
def fnExactMatchesOfWrong : ChangeSpec := { name := "fnExactMatchesOf", fn := fun _ => fun
  | [d1, d2, d3, d4] => { results := [.lit (.bool false)], args := [d1, d2, d3, d4] }
  | _ => none }
def FnExactMatchesOfWrongFalsely : Prop := fnExactMatchesOfRow.holds Try.pinned (OpenSpec.ofChange fnExactMatchesOfWrong)

/-- 'laws.FnExactRespondTo': WHATEVER THE INPUT: true; the input reads as it did. -/
def fnExactRespondToSpec : ChangeSpec := { name := "fnExactRespondTo", fn := fun _ => fun
  | [d1, d2, d3, d4, d5] => { results := [.lit (.bool true)], args := [d1, d2, d3, d4, d5] }
  | _ => none }
def fnExactRespondToRow : OpenClaim := { program := "ytenondgjipmhnaa", sum := "2a79a49810db5954044c96deb60ea79f186f6e02ba3b26a2bbb31e34a1711c92", func := "loop.example/g01989/laws.FnExactRespondTo", spec := "fnExactRespondTo", unfollowed := true, recurses := true, apart := false }
def FnExactRespondToSaid : Prop := fnExactRespondToRow.holds Try.pinned (OpenSpec.ofChange fnExactRespondToSpec)

/-- ITS FALSE NEIGHBOUR: 'it returns false'. Refute it at one input. -/
def fnExactRespondToWrong : ChangeSpec := { name := "fnExactRespondTo", fn := fun _ => fun
  | [d1, d2, d3, d4, d5] => { results := [.lit (.bool false)], args := [d1, d2, d3, d4, d5] }
  | _ => none }
def FnExactRespondToWrongFalsely : Prop := fnExactRespondToRow.holds Try.pinned (OpenSpec.ofChange fnExactRespondToWrong)

/-- 'laws.FnExactIsResponse': WHATEVER THE INPUT: true; the input reads as it did. -/
def fnExactIsResponseSpec : ChangeSpec := { name := "fnExactIsResponse", fn := fun _ => fun
  | [d1, d2, d3, d4, d5] => { results := [.lit (.bool true)], args := [d1, d2, d3, d4, d5] }
  | _ => none }
def fnExactIsResponseRow : OpenClaim := { program := "ytenondgjipmhnaa", sum := "2a79a49810db5954044c96deb60ea79f186f6e02ba3b26a2bbb31e34a1711c92", func := "loop.example/g01989/laws.FnExactIsResponse", spec := "fnExactIsResponse", unfollowed := true, recurses := true, apart := false }
def FnExactIsResponseSaid : Prop := fnExactIsResponseRow.holds Try.pinned (OpenSpec.ofChange fnExactIsResponseSpec)

/-- ITS FALSE NEIGHBOUR: 'it returns false'. Refute it at one input. -/
def fnExactIsResponseWrong : ChangeSpec := { name := "fnExactIsResponse", fn := fun _ => fun
  | [d1, d2, d3, d4, d5] => { results := [.lit (.bool false)], args := [d1, d2, d3, d4, d5] }
  | _ => none }
def FnExactIsResponseWrongFalsely : Prop := fnExactIsResponseRow.holds Try.pinned (OpenSpec.ofChange fnExactIsResponseWrong)

/-- 'laws.FnExactIsOrder': WHATEVER THE INPUT: true; the input reads as it did. -/
def fnExactIsOrderSpec : ChangeSpec := { name := "fnExactIsOrder", fn := fun _ => fun
  | [d1, d2, d3, d4] => { results := [.lit (.bool true)], args := [d1, d2, d3, d4] }
  | _ => none }
def fnExactIsOrderRow : OpenClaim := { program := "ytenondgjipmhnaa", sum := "2a79a49810db5954044c96deb60ea79f186f6e02ba3b26a2bbb31e34a1711c92", func := "loop.example/g01989/laws.FnExactIsOrder", spec := "fnExactIsOrder", unfollowed := true, recurses := true, apart := false }
def FnExactIsOrderSaid : Prop := fnExactIsOrderRow.holds Try.pinned (OpenSpec.ofChange fnExactIsOrderSpec)

/-- ITS FALSE NEIGHBOUR: 'it returns false'. Refute it at one input. -/
def fnExactIsOrderWrong : ChangeSpec := { name := "fnExactIsOrder", fn := fun _ => fun
  | [d1, d2, d3, d4] => { results := [.lit (.bool false)], args := [d1, d2, d3, d4] }
  | _ => none }
def FnExactIsOrderWrongFalsely : Prop := fnExactIsOrderRow.holds Try.pinned (OpenSpec.ofChange fnExactIsOrderWrong)

/-- 'laws.FnExactFindOrder': WHATEVER THE INPUT: true; the input reads as it did. -/
def fnExactFindOrderSpec : ChangeSpec := { name := "fnExactFindOrder", fn := fun _ => fun
  | [d1, d2, d3] => { results := [.lit (.bool true)], args := [d1, d2, d3] }
  | _ => none }
def fnExactFindOrderRow : OpenClaim := { program := "ytenondgjipmhnaa", sum := "2a79a49810db5954044c96deb60ea79f186f6e02ba3b26a2bbb31e34a1711c92", func := "loop.example/g01989/laws.FnExactFindOrder", spec := "fnExactFindOrder", unfollowed := true, recurses := true, apart := false }
def FnExactFindOrderSaid : Prop := fnExactFindOrderRow.holds Try.pinned (OpenSpec.ofChange fnExactFindOrderSpec)

/-- ITS FALSE NEIGHBOUR: 'it returns false'. Refute it at one input. -/
def fnExactFindOrderWrong : ChangeSpec := { name := "fnExactFindOrder", fn := fun _ => fun
  | [d1, d2, d3] => { results := [.lit (.bool false)], args := [d1, d2, d3] }
  | _ => none }
def FnExactFindOrderWrongFalsely : Prop := fnExactFindOrderRow.holds Try.pinned (OpenSpec.ofChange fnExactFindOrderWrong)

/-- 'laws.FnExactBlockedAtoms': WHATEVER THE INPUT: true; the input reads as it did. -/
def fnExactBlockedAtomsSpec : ChangeSpec := { name := "fnExactBlockedAtoms", fn := fun _ => fun
  | [d1, d2, d3] => { results := [.lit (.bool true)], args := [d1, d2, d3] }
  | _ => none }
def fnExactBlockedAtomsRow : OpenClaim := { program := "ytenondgjipmhnaa", sum := "2a79a49810db5954044c96deb60ea79f186f6e02ba3b26a2bbb31e34a1711c92", func := "loop.example/g01989/laws.FnExactBlockedAtoms", spec := "fnExactBlockedAtoms", unfollowed := true, recurses := true, apart := false }
def FnExactBlockedAtomsSaid : Prop := fnExactBlockedAtomsRow.holds Try.pinned (OpenSpec.ofChange fnExactBlockedAtomsSpec)

/-- ITS FALSE NEIGHBOUR: 'it returns false'. Refute it at one input. -/
def fnExactBlockedAtomsWrong : ChangeSpec := { name := "fnExactBlockedAtoms", fn := fun _ => fun
  | [d1, d2, d3] => { results := [.lit (.bool false)], args := [d1, d2, d3] }
  | _ => none }
def FnExactBlockedAtomsWrongFalsely : Prop := fnExactBlockedAtomsRow.holds Try.pinned (OpenSpec.ofChange fnExactBlockedAtomsWrong)

/-- 'laws.FnExactCheapestOrder': WHATEVER THE INPUT: true; the input reads as it did. -/
def fnExactCheapestOrderSpec : ChangeSpec := { name := "fnExactCheapestOrder", fn := fun _ => fun
  | [d1, d2, d3] => { results := [.lit (.bool true)], args := [d1, d2, d3] }
  | _ => none }
def fnExactCheapestOrderRow : OpenClaim := { program := "ytenondgjipmhnaa", sum := "2a79a49810db5954044c96deb60ea79f186f6e02ba3b26a2bbb31e34a1711c92", func := "loop.example/g01989/laws.FnExactCheapestOrder", spec := "fnExactCheapestOrder", unfollowed := true, recurses := true, apart := false }
def FnExactCheapestOrderSaid : Prop := fnExactCheapestOrderRow.holds Try.pinned (OpenSpec.ofChange fnExactCheapestOrderSpec)

/-- ITS FALSE NEIGHBOUR: 'it returns false'. Refute it at one input. -/
def fnExactCheapestOrderWrong : ChangeSpec := { name := "fnExactCheapestOrder", fn := fun _ => fun
  | [d1, d2, d3] => { results := [.lit (.bool false)], args := [d1, d2, d3] }
  | _ => none }
def FnExactCheapestOrderWrongFalsely : Prop := fnExactCheapestOrderRow.holds Try.pinned (OpenSpec.ofChange fnExactCheapestOrderWrong)

/- THE SECOND FORM. 'bulk': how many values and letters a reading holds, each counted each time it is reached (what is shared counts as often as it is met; a slice's spare places count too). A statement '..UptoSaid' is the law's where the arguments, and the package variables that the reading takes, are together of bulk at most 1048576: NARROWER than '..Said'. Prove '..Said' where nothing that the law and all that it calls make is longer than what came in: it says more and counts as full. Else prove '..UptoSaid'. A law counts once. -/
mutual
def uptoBulk {H : Type} : DataW H → Nat
  | .lit (.string bytes) => bytes.length + 1
  | .lit _ => 1
  | .nil => 1
  | .ptr d => uptoBulk d + 1
  | .slice elems spare => uptoBulkAll elems + uptoBulkAll spare + 1
  | .agg parts => uptoBulkAll parts + 1
  | .iface _ d => uptoBulk d + 1
  | .map entries => uptoBulkEntries entries + 1
  | .held _ => 1
def uptoBulkAll {H : Type} : List (DataW H) → Nat
  | [] => 0
  | d :: r => uptoBulk d + uptoBulkAll r
def uptoBulkEntries {H : Type} : List (Lit × DataW H) → Nat
  | [] => 0
  | x :: r => uptoBulkEntry x + uptoBulkEntries r
def uptoBulkEntry {H : Type} : Lit × DataW H → Nat
  | (.string bytes, d) => bytes.length + uptoBulk d + 1
  | (_, d) => uptoBulk d + 1
 end
def uptoSmall : (H : Type) → List (DataW H) → Bool := fun _ ds => decide (uptoBulkAll ds ≤ 1048576)
def OpenSpec.upto (s : _root_.Go.ChangeSpec) : _root_.Go.OpenSpec := { _root_.Go.OpenSpec.ofChange s with cond := some uptoSmall }

/-- 'laws.FnExactIsMethod', WHERE WHAT IT READS IS OF BULK AT MOST 1048576: true; the input reads as it did. -/
def fnExactIsMethodUptoRow : OpenClaim := { program := "ytenondgjipmhnaa", sum := "2a79a49810db5954044c96deb60ea79f186f6e02ba3b26a2bbb31e34a1711c92", func := "loop.example/g01989/laws.FnExactIsMethod", spec := "fnExactIsMethod", unfollowed := true, recurses := true, apart := false, narrowed := true }
def FnExactIsMethodUptoSaid : Prop := fnExactIsMethodUptoRow.holds Try.pinned (OpenSpec.upto fnExactIsMethodSpec)

/-- 'laws.FnExactAreMethods', WHERE WHAT IT READS IS OF BULK AT MOST 1048576: true; the input reads as it did. -/
def fnExactAreMethodsUptoRow : OpenClaim := { program := "ytenondgjipmhnaa", sum := "2a79a49810db5954044c96deb60ea79f186f6e02ba3b26a2bbb31e34a1711c92", func := "loop.example/g01989/laws.FnExactAreMethods", spec := "fnExactAreMethods", unfollowed := true, recurses := true, apart := false, narrowed := true }
def FnExactAreMethodsUptoSaid : Prop := fnExactAreMethodsUptoRow.holds Try.pinned (OpenSpec.upto fnExactAreMethodsSpec)

/-- 'laws.FnExactIsAccess', WHERE WHAT IT READS IS OF BULK AT MOST 1048576: true; the input reads as it did. -/
def fnExactIsAccessUptoRow : OpenClaim := { program := "ytenondgjipmhnaa", sum := "2a79a49810db5954044c96deb60ea79f186f6e02ba3b26a2bbb31e34a1711c92", func := "loop.example/g01989/laws.FnExactIsAccess", spec := "fnExactIsAccess", unfollowed := true, recurses := true, apart := false, narrowed := true }
def FnExactIsAccessUptoSaid : Prop := fnExactIsAccessUptoRow.holds Try.pinned (OpenSpec.upto fnExactIsAccessSpec)

/-- 'laws.FnExactMatchesOf', WHERE WHAT IT READS IS OF BULK AT MOST 1048576: true; the input reads as it did. -/
def fnExactMatchesOfUptoRow : OpenClaim := { program := "ytenondgjipmhnaa", sum := "2a79a49810db5954044c96deb60ea79f186f6e02ba3b26a2bbb31e34a1711c92", func := "loop.example/g01989/laws.FnExactMatchesOf", spec := "fnExactMatchesOf", unfollowed := true, recurses := true, apart := false, narrowed := true }
def FnExactMatchesOfUptoSaid : Prop := fnExactMatchesOfUptoRow.holds Try.pinned (OpenSpec.upto fnExactMatchesOfSpec)

/-- 'laws.FnExactRespondTo', WHERE WHAT IT READS IS OF BULK AT MOST 1048576: true; the input reads as it did. -/
def fnExactRespondToUptoRow : OpenClaim := { program := "ytenondgjipmhnaa", sum := "2a79a49810db5954044c96deb60ea79f186f6e02ba3b26a2bbb31e34a1711c92", func := "loop.example/g01989/laws.FnExactRespondTo", spec := "fnExactRespondTo", unfollowed := true, recurses := true, apart := false, narrowed := true }
def FnExactRespondToUptoSaid : Prop := fnExactRespondToUptoRow.holds Try.pinned (OpenSpec.upto fnExactRespondToSpec)

/-- 'laws.FnExactIsResponse', WHERE WHAT IT READS IS OF BULK AT MOST 1048576: true; the input reads as it did. -/
def fnExactIsResponseUptoRow : OpenClaim := { program := "ytenondgjipmhnaa", sum := "2a79a49810db5954044c96deb60ea79f186f6e02ba3b26a2bbb31e34a1711c92", func := "loop.example/g01989/laws.FnExactIsResponse", spec := "fnExactIsResponse", unfollowed := true, recurses := true, apart := false, narrowed := true }
def FnExactIsResponseUptoSaid : Prop := fnExactIsResponseUptoRow.holds Try.pinned (OpenSpec.upto fnExactIsResponseSpec)

/-- 'laws.FnExactIsOrder', WHERE WHAT IT READS IS OF BULK AT MOST 1048576: true; the input reads as it did. -/
def fnExactIsOrderUptoRow : OpenClaim := { program := "ytenondgjipmhnaa", sum := "2a79a49810db5954044c96deb60ea79f186f6e02ba3b26a2bbb31e34a1711c92", func := "loop.example/g01989/laws.FnExactIsOrder", spec := "fnExactIsOrder", unfollowed := true, recurses := true, apart := false, narrowed := true }
def FnExactIsOrderUptoSaid : Prop := fnExactIsOrderUptoRow.holds Try.pinned (OpenSpec.upto fnExactIsOrderSpec)

/-- 'laws.FnExactFindOrder', WHERE WHAT IT READS IS OF BULK AT MOST 1048576: true; the input reads as it did. -/
def fnExactFindOrderUptoRow : OpenClaim := { program := "ytenondgjipmhnaa", sum := "2a79a49810db5954044c96deb60ea79f186f6e02ba3b26a2bbb31e34a1711c92", func := "loop.example/g01989/laws.FnExactFindOrder", spec := "fnExactFindOrder", unfollowed := true, recurses := true, apart := false, narrowed := true }
def FnExactFindOrderUptoSaid : Prop := fnExactFindOrderUptoRow.holds Try.pinned (OpenSpec.upto fnExactFindOrderSpec)

/-- 'laws.FnExactBlockedAtoms', WHERE WHAT IT READS IS OF BULK AT MOST 1048576: true; the input reads as it did. -/
def fnExactBlockedAtomsUptoRow : OpenClaim := { program := "ytenondgjipmhnaa", sum := "2a79a49810db5954044c96deb60ea79f186f6e02ba3b26a2bbb31e34a1711c92", func := "loop.example/g01989/laws.FnExactBlockedAtoms", spec := "fnExactBlockedAtoms", unfollowed := true, recurses := true, apart := false, narrowed := true }
def FnExactBlockedAtomsUptoSaid : Prop := fnExactBlockedAtomsUptoRow.holds Try.pinned (OpenSpec.upto fnExactBlockedAtomsSpec)

/-- 'laws.FnExactCheapestOrder', WHERE WHAT IT READS IS OF BULK AT MOST 1048576: true; the input reads as it did. -/
def fnExactCheapestOrderUptoRow : OpenClaim := { program := "ytenondgjipmhnaa", sum := "2a79a49810db5954044c96deb60ea79f186f6e02ba3b26a2bbb31e34a1711c92", func := "loop.example/g01989/laws.FnExactCheapestOrder", spec := "fnExactCheapestOrder", unfollowed := true, recurses := true, apart := false, narrowed := true }
def FnExactCheapestOrderUptoSaid : Prop := fnExactCheapestOrderUptoRow.holds Try.pinned (OpenSpec.upto fnExactCheapestOrderSpec)

end Rows
end Go.Proofs.Ytenondgjipmhnaa
