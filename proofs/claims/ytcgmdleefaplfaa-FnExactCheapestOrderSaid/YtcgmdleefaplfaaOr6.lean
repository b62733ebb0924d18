/- The greedy order, of both. Conditions: none beyond each theorem's own. -/
import Derived.Test.YtcgmdleefaplfaaOr5
namespace Go.Proofs.Ytcgmdleefaplfaa
open Go.ChangeShapes Go.WideShapes Go.ChangeAt Go.RowKit Go.Sort
set_option linter.unusedVariables false
set_option linter.unusedSimpArgs false

theorem firstsOf_pre (ms : ML) (a : Int × List Int) (bd : List Int) (m : Nat) : ∀ j, ∃ r, firstsOf ms a bd (m + j) = firstsOf ms a bd m ++ r
  | 0 => ⟨[], by simp⟩
  | j + 1 => by
    obtain ⟨r, hr⟩ := firstsOf_pre ms a bd m j
    by_cases h : canM (ms.getD (m + j) noM) a bd = true
    · exact ⟨r ++ [m + j], by rw [← Nat.add_assoc, firstsOf_yes h, hr, List.append_assoc]⟩
    · exact ⟨r, by rw [← Nat.add_assoc, firstsOf_no (by simpa using h), hr]⟩
/-- The first method by which the atom can be called, or -1. -/
def firstI (ms : ML) (a : Int × List Int) (bd : List Int) : Int := match firstsOf ms a bd ms.length with | [] => -1 | j :: _ => (j : Int)
theorem firstI_yes {ms : ML} {a : Int × List Int} {bd : List Int} {k : Nat} (hk : k < ms.length) (h0 : firstsOf ms a bd k = []) (h : canM (ms.getD k noM) a bd = true) : firstI ms a bd = (k : Int) := by
  obtain ⟨r, hr⟩ := firstsOf_pre ms a bd (k + 1) (ms.length - (k + 1))
  rw [show k + 1 + (ms.length - (k + 1)) = ms.length by omega, firstsOf_yes h, h0] at hr
  unfold firstI
  rw [hr]
  rfl
theorem firstI_no {ms : ML} {a : Int × List Int} {bd : List Int} (h0 : firstsOf ms a bd ms.length = []) : firstI ms a bd = -1 := by
  unfold firstI
  rw [h0]

end Go.Proofs.Ytcgmdleefaplfaa
