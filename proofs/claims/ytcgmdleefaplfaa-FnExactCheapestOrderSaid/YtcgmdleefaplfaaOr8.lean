/- What the functions FindOrder and BlockedAtoms answer. Conditions: none beyond each theorem's own. -/
import Derived.Test.YtcgmdleefaplfaaOr7
namespace Go.Proofs.Ytcgmdleefaplfaa
open Go.ChangeShapes Go.WideShapes Go.ChangeAt Go.RowKit Go.Sort
set_option linter.unusedVariables false
set_option linter.unusedSimpArgs false

def findB (s : List Int) (ms : ML) (hs : List Int) (l : FL) : Bool := fineB s ms hs l && decide (l.length ≤ (firstS ms l).length)
def findS (s : List Int) (ms : ML) (hs : List Int) (l : FL) : SL := if findB s ms hs l then firstS ms l else []
/-- Steps of the call's own, and whether. -/
def FndO (w : World) (x : SL) (b : Bool) (e : Ending) (w' : World) : Prop := ∃ A c, e = .returned (.tuple #[.slice A x.length c, .bool b]) ∧ ZS w' w.heap.size (.slice A x.length c) x ∧ Below w.heap.size w w'
theorem find_no {s : List Int} {ms : ML} {hs : List Int} {l : FL} (h : fineB s ms hs l = false) : findB s ms hs l = false ∧ findS s ms hs l = [] := by simp [findB, findS, h]
theorem find_yes {s : List Int} {ms : ML} {hs : List Int} {l : FL} (h : fineB s ms hs l = true) (h2 : ¬ (firstS ms l).length < l.length) : findB s ms hs l = true ∧ findS s ms hs l = firstS ms l := by
  have : findB s ms hs l = true := by unfold findB; rw [h, decide_eq_true (by omega)]; rfl
  exact ⟨this, by unfold findS; rw [if_pos this]⟩
theorem find_no2 {s : List Int} {ms : ML} {hs : List Int} {l : FL} (h2 : (firstS ms l).length < l.length) : findB s ms hs l = false ∧ findS s ms hs l = [] := by
  have : findB s ms hs l = false := by unfold findB; rw [decide_eq_false (by omega)]; simp
  exact ⟨this, by unfold findS; rw [if_neg (by rw [this]; decide)]⟩

def blkI (s : List Int) (ms : ML) (hs : List Int) (l : FL) : List Int := if fineB s ms hs l then missI l.length (firstS ms l) else []
end Go.Proofs.Ytcgmdleefaplfaa
