/- Rows of one-cell elements that grow by append, and texts in memory. Conditions: none beyond each theorem's own. -/
import Derived.Test.YtenondgjipmhnaaDoorPush
import Derived.Test.YtenondgjipmhnaaDoorShelf
import Derived.Lib.SplitLaws
import Derived.Lib.CutLaws
import Derived.Lib.IndexBytes
namespace Go.Proofs.YtenondgjipmhnaaDoor
open Go.ChangeShapes Go.WideShapes Go.ChangeAt Go.RowKit Go.Sort
set_option linter.unusedVariables false
set_option linter.unusedSimpArgs false

/-- The words between the commas. -/
def wordsI (s : ByteArray) : List ByteArray := Lib.splitB ⟨#[44]⟩ 0 (Lib.countB s ⟨#[44]⟩) s
theorem words_len (s : ByteArray) : (wordsI s).length = Lib.countB s ⟨#[44]⟩ + 1 := Lib.splitB_all _ (by decide) 0 _ _ rfl
theorem words_le (s : ByteArray) : (wordsI s).length ≤ s.size + 1 := by
  rw [words_len]
  have := Lib.countB_le ⟨#[44]⟩ (by decide) s.size s (Nat.le_refl _)
  omega
theorem splitB_mem (sep : ByteArray) : ∀ (k : Nat) (s x : ByteArray), x ∈ Lib.splitB sep 0 k s → x.size ≤ s.size
  | 0, s, x, h => by
    rw [Lib.splitB_zero] at h
    simp at h
    subst h
    exact Nat.le_refl _
  | k + 1, s, x, h => by
    unfold Lib.splitB at h
    split at h
    · simp at h
      subst h
      exact Nat.le_refl _
    · rcases List.mem_cons.1 h with h | h
      · subst h
        rw [ByteArray.size_extract]; omega
      · have := splitB_mem sep k _ x h
        rw [ByteArray.size_extract] at this
        omega
theorem words_size {s x : ByteArray} (h : x ∈ wordsI s) : x.size ≤ s.size := splitB_mem _ _ _ _ h

/-- Texts at an address. -/
def RS (w : World) (g : Nat) (ws : List ByteArray) : Prop := w.heap[g]? = some (.cells (ws.map Value.string).toArray 9 (0, 0))
theorem RS.cell {w : World} {g : Nat} {ws : List ByteArray} (h : RS w g ws) {k : Nat} (hk : k < ws.length) : w.cell? ⟨g, k, none⟩ = some (.string (ws.getD k ⟨#[]⟩)) := by
  rw [cell_of_row w g k _ _ (0, 0) h]
  simp [List.getD_eq_getElem?_getD, hk]
end Go.Proofs.YtenondgjipmhnaaDoor
