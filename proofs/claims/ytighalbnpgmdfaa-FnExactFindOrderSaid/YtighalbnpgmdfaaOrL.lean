/- What the laws of FindOrder and BlockedAtoms carry. Conditions: none beyond each theorem's own. -/
import Derived.Test.YtighalbnpgmdfaaOr9
import Derived.Test.YtighalbnpgmdfaaMrkZ
namespace Go.Proofs.Ytighalbnpgmdfaa
open Go.ChangeShapes Go.WideShapes Go.ChangeAt Go.RowKit Go.Sort
set_option linter.unusedVariables false
set_option linter.unusedSimpArgs false

theorem FndO.toP {w : World} {x : SL} {b : Bool} {e : Ending} {w' : World} (h : FndO w x b e w') : ∃ A c, e = .returned (.tuple #[.slice A x.length c, .bool b]) ∧ PZ w' w.heap.size w'.heap.size A x ∧ Below w.heap.size w w' := by
  obtain ⟨A, c, he, hz, hb⟩ := h
  exact ⟨A, c, he, hz.pz hb.size, hb⟩
theorem FindOrder_len (s : List Int) (ms : ML) (hs : List Int) (l : FL) : (findS s ms hs l).length ≤ 1048576 := by
  unfold findS
  split
  · rename_i h
    unfold findB at h
    rw [Bool.and_eq_true] at h
    have h1 := (fine_of h.1).2.1.1
    have h2 := gr_len ms l l.length
    unfold firstS
    omega
  · simp
theorem BlockedAtoms_len (s : List Int) (ms : ML) (hs : List Int) (l : FL) : (blkI s ms hs l).length ≤ 1048576 := by
  unfold blkI
  split
  · rename_i h
    have h1 := (fine_of h).2.1.1
    have h2 := missI_len l.length (firstS ms l)
    omega
  · simp
end Go.Proofs.Ytighalbnpgmdfaa
