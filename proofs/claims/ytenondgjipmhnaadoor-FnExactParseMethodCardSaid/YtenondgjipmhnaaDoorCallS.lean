/- What the model's l2Call answers. Conditions: none beyond each theorem's own. -/
import Derived.Test.YtenondgjipmhnaaDoorCutS
namespace Go.Proofs.YtenondgjipmhnaaDoor
open Go.ChangeShapes Go.WideShapes Go.ChangeAt Go.RowKit Go.Sort
set_option linter.unusedVariables false
set_option linter.unusedSimpArgs false

def isCall (s : ByteArray) (i : Nat) : Prop := i < s.size ∧ bn s i = 40 ∧ bn s (s.size - 1) = 41
def CallIs (s H : ByteArray) (ws : List ByteArray) : Prop :=
  (∃ i, isCall s i ∧ (∀ j, j < i → ¬ isCall s j) ∧ H = s.extract 0 i ∧ ws = cutW (s.extract (i + 1) (s.size - 1))) ∨ ((∀ i, ¬ isCall s i) ∧ H = ⟨#[]⟩ ∧ ws = [])
theorem CallIs.le {s H : ByteArray} {ws : List ByteArray} (h : CallIs s H ws) : H.size ≤ s.size ∧ ws.length ≤ s.size + 1 ∧ ∀ x ∈ ws, x.size ≤ s.size := by
  rcases h with ⟨i, h1, h2, rfl, rfl⟩ | ⟨h1, rfl, rfl⟩
  · have e : (s.extract (i + 1) (s.size - 1)).size ≤ s.size := by rw [ByteArray.size_extract]; omega
    refine ⟨by rw [ByteArray.size_extract]; omega, by have := cutW_len (s.extract (i + 1) (s.size - 1)); omega, fun x hx => by have := cutW_size hx; omega⟩
  · exact ⟨by show 0 ≤ _; omega, by simp, fun x h => by simp at h⟩

def CallOut (w : World) (s : ByteArray) (e : Ending) (w' : World) : Prop := ∃ H ws A c, e = .returned (.tuple #[.string H, .slice A ws.length c]) ∧ StrsAt w' A ws ∧ Below w.heap.size w w' ∧ CallIs s H ws

end Go.Proofs.YtenondgjipmhnaaDoor
