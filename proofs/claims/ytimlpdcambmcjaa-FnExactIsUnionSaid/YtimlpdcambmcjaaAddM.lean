/- Where a fact is inserted. Conditions: none beyond each theorem's own. -/
import Derived.Test.YtimlpdcambmcjaaAddL
namespace Go.Proofs.Ytimlpdcambmcjaa
open Go.ChangeShapes Go.WideShapes Go.ChangeAt Go.RowKit Go.Sort
set_option linter.unusedVariables false
set_option linter.unusedSimpArgs false

theorem cmpL_anti : ∀ xs ys : List Int, cmpL xs ys = -cmpL ys xs
  | [], [] => rfl
  | [], _ :: _ => rfl
  | _ :: _, [] => rfl
  | x :: xs, y :: ys => by
    have ih := cmpL_anti xs ys
    simp only [cmpL]
    by_cases h1 : x < y
    · rw [if_pos h1, if_neg (by omega), if_pos h1]
    · by_cases h2 : y < x
      · rw [if_neg h1, if_pos h2, if_pos h2]; rfl
      · rw [if_neg h1, if_neg h2, if_neg h2, if_neg h1, ih]
theorem cmpF_anti (r : Int) (xs : List Int) (r' : Int) (ys : List Int) : cmpF r xs r' ys = -cmpF r' ys r xs := by
  unfold cmpF
  by_cases h1 : r < r'
  · rw [if_pos h1, if_neg (by omega), if_pos h1]
  · by_cases h2 : r' < r
    · rw [if_neg h1, if_pos h2, if_pos h2]; rfl
    · rw [if_neg h1, if_neg h2, if_neg h2, if_neg h1, cmpL_anti]

/-- The fact before the first one that is not less. -/
def addI : FL → Int → List Int → FL
  | [], r, xs => [(r, xs)]
  | g :: t, r, xs => if cmpF g.1 g.2 r xs < 0 then g :: addI t r xs else (r, xs) :: g :: t
def addF (l : FL) (r : Int) (xs : List Int) : FL := if hasB l r xs = true then l else addI l r xs
theorem addF_yes {l : FL} {r : Int} {xs : List Int} (h : hasB l r xs = true) : addF l r xs = l := if_pos h
theorem addF_no {l : FL} {r : Int} {xs : List Int} (h : hasB l r xs = false) : addF l r xs = addI l r xs := if_neg (by simp [h])
def ltAt (l : FL) (r : Int) (xs : List Int) (k : Nat) : Prop := cmpF (l.getD k (0, [])).1 (l.getD k (0, [])).2 r xs < 0
theorem addI_at : ∀ (l : FL) (r : Int) (xs : List Int) (k : Nat), k ≤ l.length → (∀ j, j < k → ltAt l r xs j) → (k < l.length → ¬ ltAt l r xs k) → addI l r xs = l.take k ++ (r, xs) :: l.drop k
  | [], r, xs, k, hk, _, _ => by
    have : k = 0 := by simpa using hk
    subst this
    rfl
  | g :: t, r, xs, 0, _, _, h2 => by
    have h := h2 (by simp)
    simp only [ltAt, List.getD_cons_zero] at h
    rw [addI, if_neg h]
    rfl
  | g :: t, r, xs, k + 1, hk, h1, h2 => by
    have h := h1 0 (by omega)
    simp only [ltAt, List.getD_cons_zero] at h
    have ih := addI_at t r xs k (by simpa using hk) (fun j hj => by have := h1 (j + 1) (by omega); simpa [ltAt] using this) (fun hlt => by have := h2 (by simpa using hlt); simpa [ltAt] using this)
    rw [addI, if_pos h, ih]
    rfl
theorem hasB_none {l : FL} {r : Int} {xs : List Int} (h : hasB l r xs = false) {k : Nat} (hk : k < l.length) : cmpF (l.getD k (0, [])).1 (l.getD k (0, [])).2 r xs ≠ 0 := by
  intro e
  have hs := cmp_same (l.getD k (0, [])).1 (l.getD k (0, [])).2 r xs
  rw [e] at hs
  have := hasB_found l r xs k hk (by rw [← hs]; rfl)
  rw [h] at this
  cases this
/-- The model's test is the other way round. -/
theorem ltAt_anti {l : FL} {r : Int} {xs : List Int} (h : hasB l r xs = false) {k : Nat} (hk : k < l.length) : ltAt l r xs k ↔ ¬ cmpF r xs (l.getD k (0, [])).1 (l.getD k (0, [])).2 < 0 := by
  have h0 := hasB_none h hk
  have h1 := cmpF_anti r xs (l.getD k (0, [])).1 (l.getD k (0, [])).2
  unfold ltAt
  omega
theorem sumN_append (l l' : FL) : sumN (l ++ l') = sumN l + sumN l' := by simp [sumN]
theorem szF_take (l : FL) (k : Nat) : szF (l.take k) ≤ szF l := by
  have := sumN_le l k
  have h2 : (l.take k).length ≤ l.length := by rw [List.length_take]; omega
  unfold szF
  omega
theorem szF_drop (l : FL) (k : Nat) : szF (l.drop k) ≤ szF l := by
  have : sumN l = sumN (l.take k) + sumN (l.drop k) := by rw [← sumN_append, List.take_append_drop]
  have h2 : (l.drop k).length ≤ l.length := by rw [List.length_drop]; omega
  unfold szF
  omega
theorem szF_addI : ∀ (l : FL) (r : Int) (xs : List Int), szF (addI l r xs) = szF l + 1 + xs.length
  | [], r, xs => by simp [addI, szF, sumN] <;> omega
  | g :: t, r, xs => by
    have ih := szF_addI t r xs
    rw [addI]
    split
    · simp [szF, sumN] at ih ⊢; omega
    · simp [szF, sumN]; omega
theorem szF_addF (l : FL) (r : Int) (xs : List Int) : szF (addF l r xs) ≤ szF l + 1 + xs.length := by
  unfold addF
  split
  · omega
  · rw [szF_addI]; omega

theorem RF.take {w : World} {A : Option Addr} {fs : FL} (h : RF w A fs) (k : Nat) : RF w A (fs.take k) := fun hne => by
  obtain ⟨b, off, h1, h2, h3, h4⟩ := h (by rintro rfl; simp at hne)
  refine ⟨b, off, h1, h2, h3, fun j hj => ?_⟩
  rw [List.length_take] at hj
  have e : (fs.take k).getD j (0, []) = fs.getD j (0, []) := by simp [List.getD_eq_getElem?_getD, List.getElem?_take_of_lt (show j < k by omega)]
  rw [e]
  exact h4 j (by omega)
theorem RF.drop {w : World} {b off : Nat} {fs : FL} (h : RF w (some ⟨b, off, none⟩) fs) (k : Nat) : RF w (some ⟨b, off + k * 2, none⟩) (fs.drop k) := fun hne => by
  obtain ⟨b', off', h1, h2, h3, h4⟩ := h (by rintro rfl; simp at hne)
  injection h1 with h1
  injection h1 with e1 e2
  subst e1 e2
  refine ⟨b, off + k * 2, rfl, h2, h3, fun j hj => ?_⟩
  rw [List.length_drop] at hj
  have e : (fs.drop k).getD j (0, []) = fs.getD (k + j) (0, []) := by simp [List.getD_eq_getElem?_getD]
  rw [e, show off + k * 2 + j * 2 = off + (k + j) * 2 by omega]
  exact h4 (k + j) (by omega)
theorem RF.empty (w : World) (A : Option Addr) : RF w A [] := fun h => absurd rfl h

def CopyN (w : World) (fs : FL) (n : Nat) (e : Ending) (w' : World) : Prop :=
  e = .returned (.slice (some ⟨w.heap.size, 0, none⟩) n n) ∧ (∃ cs bs, OwnC w' w.heap.size w'.heap.size (.slice (some ⟨w.heap.size, 0, none⟩) n n) fs cs bs) ∧ Below w.heap.size w w'
/-- A list of facts of the call's own is returned. -/
def AddOut (w : World) (res : FL) (e : Ending) (w' : World) : Prop :=
  ∃ A c cs bs, e = .returned (.slice A res.length c) ∧ OwnC w' w.heap.size w'.heap.size (.slice A res.length c) res cs bs ∧ Below w.heap.size w w'
end Go.Proofs.Ytimlpdcambmcjaa
