/- Marks on lists of facts. Conditions: none beyond each theorem's own. -/
import Derived.Test.YtimlpdcambmcjaaDoorAddM
namespace Go.Proofs.YtimlpdcambmcjaaDoor
open Go.ChangeShapes Go.WideShapes Go.ChangeAt Go.RowKit Go.Sort
set_option linter.unusedVariables false
set_option linter.unusedSimpArgs false

/-- The first mark of fact k. -/
def offs (q : Int) (fs : FL) (k : Nat) : Int := q + k + (sumN (fs.take k) : Int)
theorem offs_succ (q : Int) (fs : FL) (k : Nat) (hk : k < fs.length) : offs q fs (k + 1) = offs q fs k + 1 + ((fs.getD k (0, [])).2.length : Int) := by
  unfold offs
  rw [sumN_take fs k hk]
  omega
theorem offs_end (q : Int) (fs : FL) : offs q fs fs.length = q + szF fs := by
  unfold offs szF
  rw [take_all]
  omega
theorem offs_rng (q : Int) (fs : FL) (k : Nat) (hk : k ≤ fs.length) : q ≤ offs q fs k ∧ offs q fs k ≤ q + szF fs := by
  have := sumN_le fs k
  unfold offs szF
  omega
/-- The fact of place j, marked. -/
def mkE (q : Int) (fs : FL) (j : Nat) : Int × List Int := (offs q fs j, marks (offs q fs j + 1) (fs.getD j (0, [])).2.length)
/-- The first k facts are marked. -/
def mkK (q : Int) (fs : FL) (k : Nat) : FL := (List.range fs.length).map fun j => if j < k then mkE q fs j else fs.getD j (0, [])
theorem mkK_length (q : Int) (fs : FL) (k : Nat) : (mkK q fs k).length = fs.length := by simp [mkK]
theorem mkK_getD (q : Int) (fs : FL) (k j : Nat) (hj : j < fs.length) : (mkK q fs k).getD j (0, []) = if j < k then mkE q fs j else fs.getD j (0, []) := by
  simp [mkK, List.getD_eq_getElem?_getD, hj]

/-- Marks are found again. -/
theorem held_ints {w : World} {lo hi : Nat} {A : Option Addr} {k : Int} {n : Nat} {xs : List Int} (h : Ints w lo hi A xs) (e : xs = marks k n) : Ints w lo hi A (marks k n) := e ▸ h

end Go.Proofs.YtimlpdcambmcjaaDoor
