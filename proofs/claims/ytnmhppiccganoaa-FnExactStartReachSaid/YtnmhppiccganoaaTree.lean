/- Trees of numbers in memory: what adding a number does. Conditions: none beyond each theorem's own. -/
import Derived.Test.YtnmhppiccganoaaPush
import Derived.Test.YtnmhppiccganoaaCmp
import Derived.Deep.Trees
import Derived.Deep.RegionHeld3
namespace Go.Proofs.Ytnmhppiccganoaa
open Go.ChangeShapes Go.WideShapes Go.ChangeAt Go.RowKit Go.Sort
open Go.Deep (BT)
set_option linter.unusedVariables false
set_option linter.unusedSimpArgs false

/-- The numbers of a tree in their order. -/
def tl : BT Int → List Int
  | .nil => []
  | .node _ _ x l r => tl l ++ x :: tl r
/-- The blocks of its nodes. -/
def tb : BT Int → List Nat
  | .nil => []
  | .node a _ _ l r => a :: (tb l ++ tb r)
theorem ptr_form (t : BT Int) : ∃ p, t.ptr = .pointer p := by cases t <;> exact ⟨_, rfl⟩

/-- The numbers behind an addition. -/
def putT : BT Int → Int → List Int
  | .nil, x => [x]
  | .node _ _ y l r, x => if x < y then putT l x ++ y :: tl r else if y < x then tl l ++ y :: putT r x else tl l ++ y :: tl r

theorem nodup_node {a o : Nat} {x : Int} {l r : BT Int} (h : (tb (.node a o x l r)).Nodup) : a ∉ tb l ∧ a ∉ tb r ∧ (tb l).Nodup ∧ (tb r).Nodup ∧ ∀ b, b ∈ tb l → b ∉ tb r := by
  simp only [tb, List.nodup_cons, List.mem_append, List.nodup_append, not_or] at h
  obtain ⟨⟨h1, h2⟩, h3, h4, h5⟩ := h
  exact ⟨h1, h2, h3, h4, fun b hb hb' => h5 b hb b hb' rfl⟩
theorem node_nodup {a o : Nat} {x : Int} {l r : BT Int} (h1 : a ∉ tb l) (h2 : a ∉ tb r) (h3 : (tb l).Nodup) (h4 : (tb r).Nodup) (h5 : ∀ b, b ∈ tb l → b ∉ tb r) : (tb (.node a o x l r)).Nodup := by
  simp only [tb, List.nodup_cons, List.mem_append, List.nodup_append, not_or]
  exact ⟨⟨h1, h2⟩, h3, h4, fun b hb b' hb' e => h5 b hb (e ▸ hb')⟩

end Go.Proofs.Ytnmhppiccganoaa
