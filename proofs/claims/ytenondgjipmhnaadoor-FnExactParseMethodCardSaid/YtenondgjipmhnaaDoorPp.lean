/- What parseParts answers with ParseInt. Conditions: none beyond each theorem's own. -/
import Derived.Test.YtenondgjipmhnaaDoorPn
import Derived.Test.YtenondgjipmhnaaDoorFmtG
namespace Go.Proofs.YtenondgjipmhnaaDoor
open Go.ChangeShapes Go.WideShapes Go.ChangeAt Go.RowKit Go.Sort
set_option linter.unusedVariables false
set_option linter.unusedSimpArgs false

/-- The text up to the parenthesis, and behind it; the number, and the numbers' text. -/
def hdI (s : ByteArray) : ByteArray := ⟨(Lib.cut s.data.toList [40]).1.toArray⟩
def tlI (s : ByteArray) : ByteArray := ⟨(Lib.cut s.data.toList [40]).2.1.toArray⟩
def cbI (s : ByteArray) : Bool := (Lib.cut s.data.toList [40]).2.2
def numI (s : ByteArray) : ByteArray := ⟨(Lib.trimPrefix (hdI s).data.toList [114]).toArray⟩
def bodyI (s : ByteArray) : ByteArray := ⟨(Lib.trimSuffix (tlI s).data.toList [41]).toArray⟩
theorem hdI_size (s : ByteArray) : (hdI s).size ≤ s.size ∧ (tlI s).size ≤ s.size := by
  unfold hdI tlI Lib.cut
  split
  · simp only [size_eq', List.length_take, List.length_drop]; omega
  · simp only [size_eq']; simp
theorem numI_size (s : ByteArray) : (numI s).size ≤ s.size := by
  refine Nat.le_trans ?_ (hdI_size s).1
  unfold numI Lib.trimPrefix
  split
  · simp only [size_eq', List.length_drop]; omega
  · exact Nat.le_refl _
theorem bodyI_size (s : ByteArray) : (bodyI s).size ≤ s.size := by
  refine Nat.le_trans ?_ (hdI_size s).2
  unfold bodyI Lib.trimSuffix
  split
  · simp only [size_eq', List.length_take]; omega
  · exact Nat.le_refl _
theorem trimP_at (s : ByteArray) (W : World) :
    Calls Tryd.prog 51 #[.string (hdI s), .string ⟨#[114]⟩] W fun e w' => e = .returned (.string (numI s)) ∧ W = w' := by
  refine (Tryd.strings_TrimPrefix (hdI s) ⟨#[114]⟩ W).mono ?_
  rintro e w' ⟨rfl, rfl⟩
  exact ⟨rfl, rfl⟩
/-- Is the text that of a fact of the schema? -/
def okPI (S : List Int) (s : ByteArray) : Prop :=
  parB (numI s) = true ∧ allN (wordsI (bodyI s)) ∧ factB S (parN (numI s)) (nums (wordsI (bodyI s))) = true ∧ fmtF (parN (numI s)) (nums (wordsI (bodyI s))) = s
noncomputable instance (S : List Int) (s : ByteArray) : Decidable (okPI S s) := Classical.propDecidable _
noncomputable def prs (S : List Int) (s : ByteArray) : Int × List Int × Bool := if okPI S s then (parN (numI s), nums (wordsI (bodyI s)), true) else (0, [], false)
theorem prs_no {S : List Int} {s : ByteArray} (h : ¬ okPI S s) : prs S s = (0, [], false) := if_neg h
theorem prs_yes {S : List Int} {s : ByteArray} (h : okPI S s) : prs S s = (parN (numI s), nums (wordsI (bodyI s)), true) := if_pos h
def PfOut (w : World) (r : Int) (xs : List Int) (ok : Bool) (e : Ending) (w' : World) : Prop :=
  ∃ A c q, e = .returned (.tuple #[.agg #[.int .i64 r, .slice A xs.length c], .bool ok]) ∧ OwnV w' w.heap.size w'.heap.size (.slice A xs.length c) q xs ∧ Below w.heap.size w w'
def PfIs (w : World) (p : Int × List Int × Bool) (e : Ending) (w' : World) : Prop := PfOut w p.1 p.2.1 p.2.2 e w'
theorem factB_len {S : List Int} {r : Int} {xs : List Int} (h : factB S r xs = true) : xs.length ≤ 3 ∧ fmtOk r xs = true := by
  unfold factB schB at h
  simp only [Bool.and_eq_true, decide_eq_true_eq] at h
  obtain ⟨⟨⟨⟨h1, h2⟩, h3⟩, h4⟩, h5⟩ := h
  have h2' : 1 ≤ (S.length : Int) ∧ (S.length : Int) ≤ 3 := by simpa [inB] using h2
  have h3' : 0 ≤ r ∧ r ≤ (S.length : Int) - 1 := by simpa [inB] using h3
  have h6 := allB_get h1 (show r.toNat < S.length by omega)
  rw [← h4] at h6
  refine ⟨by omega, ?_⟩
  unfold fmtOk
  rw [h5]
  simp [inB]
  omega

/-- What parseParts answers. -/
def PpOut (w : World) (s : ByteArray) (e : Ending) (w' : World) : Prop :=
  ∃ A c ok q xs, e = .returned (.tuple #[.int .i64 (parN (numI s)), .slice A xs.length c, .bool ok]) ∧ OwnV w' w.heap.size w'.heap.size (.slice A xs.length c) q xs ∧ Below w.heap.size w w' ∧ xs.length ≤ s.size + 1 ∧ (ok = true ↔ parB (numI s) = true ∧ allN (wordsI (bodyI s))) ∧ (ok = true → xs = nums (wordsI (bodyI s)))
end Go.Proofs.YtenondgjipmhnaaDoor
