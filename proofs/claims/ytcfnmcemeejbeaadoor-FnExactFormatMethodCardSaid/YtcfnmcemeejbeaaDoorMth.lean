/- What the model's IsMethod answers. Conditions: none beyond each theorem's own. -/
import Derived.Test.YtcfnmcemeejbeaaDoorMethL
namespace Go.Proofs.YtcfnmcemeejbeaaDoor
open Go.ChangeShapes Go.WideShapes Go.ChangeAt Go.RowKit Go.Sort
set_option linter.unusedVariables false
set_option linter.unusedSimpArgs false

/-- Is number k of the list a position below a, and greater than the one before? -/
def inpAt (a : Int) (xs : List Int) (k : Nat) : Bool := inB (xs.getD k 0) 0 (a - 1) && (decide (k = 0) || decide (xs.getD (k - 1) 0 < xs.getD k 0))
def inpN (a : Int) (xs : List Int) (n : Nat) : Bool := (List.range n).all (inpAt a xs)
theorem inpN_succ (a : Int) (xs : List Int) (k : Nat) : inpN a xs (k + 1) = (inpN a xs k && inpAt a xs k) := by
  unfold inpN
  rw [List.range_succ, List.all_append]
  simp
theorem inpN_not (a : Int) (xs : List Int) (k n : Nat) (hk : k < n) (h : inpAt a xs k = false) : inpN a xs n = false := by
  unfold inpN
  rw [List.all_eq_false]
  exact ⟨k, by simpa using hk, by simp [h]⟩
def inpB (a : Int) (xs : List Int) : Bool := inpN a xs xs.length
/-- Are limit, cost and quota in range? -/
def numB (li co qu : Int) : Bool := inB li 0 9 && inB co 0 99 && inB qu 1 99
/-- Is it a method of the schema? -/
def methB (s : List Int) (r : Int) (xs : List Int) (li co qu : Int) : Bool := schB s && inB r 0 ((s.length : Int) - 1) && numB li co qu && inpB (s.getD r.toNat 0) xs

theorem schB_at {s : List Int} (h : schB s = true) {k : Nat} (hk : k < s.length) : 1 ≤ s.getD k 0 ∧ s.getD k 0 ≤ 3 := by
  unfold schB at h
  simp only [Bool.and_eq_true] at h
  have h1 := h.1
  unfold allB at h1
  rw [List.all_eq_true] at h1
  have h2 := h1 (s.getD k 0) (by
    rw [List.getD_eq_getElem?_getD, List.getElem?_eq_getElem hk]
    exact List.getElem_mem hk)
  simpa [inB] using h2

end Go.Proofs.YtcfnmcemeejbeaaDoor
