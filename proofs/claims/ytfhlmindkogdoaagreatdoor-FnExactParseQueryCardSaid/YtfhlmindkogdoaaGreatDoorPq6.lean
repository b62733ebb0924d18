/- Where a fact is inserted. Conditions: none beyond each theorem's own. Where one more item stands: plain lists, and what owns them. Conditions: none beyond each theorem's own. What impl.insertOnce answers at facts. Conditions: none beyond each theorem's own. Lists of lists of numbers in memory: their size, their copy, their comparison by the law. Conditions: none beyond each theorem's own. What impl.insertOnce answers at lists of numbers. Conditions: none beyond each theorem's own. slices.Insert of one element into a row without room. Conditions: none beyond each theorem's own. slices.Insert of one element into a row without room. Conditions: none beyond each theorem's own. What impl.AddFact answers, over insertOnce. Conditions: none beyond each theorem's own. What impl.AddFact answers. Conditions: none beyond each theorem's own. What spec.AddFact answers. Conditions: none beyond each theorem's own. Marks on lists of facts. Conditions: none beyond each theorem's own. What the law of AddFact carries from call to call. Conditions: none beyond each theorem's own. -/
import Derived.Test.YtfhlmindkogdoaaGreatDoorPq2
import Derived.Laws.IdiomCopy
import Derived.Lib.AppendZerosOnto
import Derived.Lib.LazyBuf
import Derived.Lib.AppendStr
import Derived.Shelf.Spec.SlicesInsert
import Derived.Laws.NewBlocks

namespace Go.Proofs.YtfhlmindkogdoaaGreatDoor
open Go.ChangeShapes Go.WideShapes Go.ChangeAt Go.RowKit Go.Sort
set_option linter.unusedVariables false
set_option linter.unusedSimpArgs false

theorem cmpL_anti : ∀ xs ys : List Int, cmpL xs ys = -cmpL ys xs
  | [], [] => rfl
  | [], _ :: _ => rfl
  | _ :: _, [] => rfl
  | x :: xs, y :: ys => by
    have ih := cmpL_anti xs ys
    simp only [cmpL]
    by_cases h1 : x < y
    · rw [if_pos h1, if_neg (by omega), if_pos h1]
    · by_cases h2 : y < x
      · rw [if_neg h1, if_pos h2, if_pos h2]; rfl
      · rw [if_neg h1, if_neg h2, if_neg h2, if_neg h1, ih]
theorem cmpF_anti (r : Int) (xs : List Int) (r' : Int) (ys : List Int) : cmpF r xs r' ys = -cmpF r' ys r xs := by
  unfold cmpF
  by_cases h1 : r < r'
  · rw [if_pos h1, if_neg (by omega), if_pos h1]
  · by_cases h2 : r' < r
    · rw [if_neg h1, if_pos h2, if_pos h2]; rfl
    · rw [if_neg h1, if_neg h2, if_neg h2, if_neg h1, cmpL_anti]

/-- The fact before the first one that is not less. -/
def addI : FL → Int → List Int → FL
  | [], r, xs => [(r, xs)]
  | g :: t, r, xs => if cmpF g.1 g.2 r xs < 0 then g :: addI t r xs else (r, xs) :: g :: t
def addF (l : FL) (r : Int) (xs : List Int) : FL := if hasB l r xs = true then l else addI l r xs
theorem addF_yes {l : FL} {r : Int} {xs : List Int} (h : hasB l r xs = true) : addF l r xs = l := if_pos h
theorem addF_no {l : FL} {r : Int} {xs : List Int} (h : hasB l r xs = false) : addF l r xs = addI l r xs := if_neg (by simp [h])
def ltAt (l : FL) (r : Int) (xs : List Int) (k : Nat) : Prop := cmpF (l.getD k (0, [])).1 (l.getD k (0, [])).2 r xs < 0
theorem addI_at : ∀ (l : FL) (r : Int) (xs : List Int) (k : Nat), k ≤ l.length → (∀ j, j < k → ltAt l r xs j) → (k < l.length → ¬ ltAt l r xs k) → addI l r xs = l.take k ++ (r, xs) :: l.drop k
  | [], r, xs, k, hk, _, _ => by
    have : k = 0 := by simpa using hk
    subst this
    rfl
  | g :: t, r, xs, 0, _, _, h2 => by
    have h := h2 (by simp)
    simp only [ltAt, List.getD_cons_zero] at h
    rw [addI, if_neg h]
    rfl
  | g :: t, r, xs, k + 1, hk, h1, h2 => by
    have h := h1 0 (by omega)
    simp only [ltAt, List.getD_cons_zero] at h
    have ih := addI_at t r xs k (by simpa using hk) (fun j hj => by have := h1 (j + 1) (by omega); simpa [ltAt] using this) (fun hlt => by have := h2 (by simpa using hlt); simpa [ltAt] using this)
    rw [addI, if_pos h, ih]
    rfl
theorem hasB_none {l : FL} {r : Int} {xs : List Int} (h : hasB l r xs = false) {k : Nat} (hk : k < l.length) : cmpF (l.getD k (0, [])).1 (l.getD k (0, [])).2 r xs ≠ 0 := by
  intro e
  have hs := cmp_same (l.getD k (0, [])).1 (l.getD k (0, [])).2 r xs
  rw [e] at hs
  have := hasB_found l r xs k hk (by rw [← hs]; rfl)
  rw [h] at this
  cases this
/-- The model's test is the other way round. -/
theorem ltAt_anti {l : FL} {r : Int} {xs : List Int} (h : hasB l r xs = false) {k : Nat} (hk : k < l.length) : ltAt l r xs k ↔ ¬ cmpF r xs (l.getD k (0, [])).1 (l.getD k (0, [])).2 < 0 := by
  have h0 := hasB_none h hk
  have h1 := cmpF_anti r xs (l.getD k (0, [])).1 (l.getD k (0, [])).2
  unfold ltAt
  omega
theorem sumN_append (l l' : FL) : sumN (l ++ l') = sumN l + sumN l' := by simp [sumN]
theorem szF_take (l : FL) (k : Nat) : szF (l.take k) ≤ szF l := by
  have := sumN_le l k
  have h2 : (l.take k).length ≤ l.length := by rw [List.length_take]; omega
  unfold szF
  omega
theorem szF_drop (l : FL) (k : Nat) : szF (l.drop k) ≤ szF l := by
  have : sumN l = sumN (l.take k) + sumN (l.drop k) := by rw [← sumN_append, List.take_append_drop]
  have h2 : (l.drop k).length ≤ l.length := by rw [List.length_drop]; omega
  unfold szF
  omega
theorem szF_addI : ∀ (l : FL) (r : Int) (xs : List Int), szF (addI l r xs) = szF l + 1 + xs.length
  | [], r, xs => by simp [addI, szF, sumN] <;> omega
  | g :: t, r, xs => by
    have ih := szF_addI t r xs
    rw [addI]
    split
    · simp [szF, sumN] at ih ⊢; omega
    · simp [szF, sumN]; omega
theorem szF_addF (l : FL) (r : Int) (xs : List Int) : szF (addF l r xs) ≤ szF l + 1 + xs.length := by
  unfold addF
  split
  · omega
  · rw [szF_addI]; omega

theorem RF.take {w : World} {A : Option Addr} {fs : FL} (h : RF w A fs) (k : Nat) : RF w A (fs.take k) := fun hne => by
  obtain ⟨b, off, h1, h2, h3, h4⟩ := h (by rintro rfl; simp at hne)
  refine ⟨b, off, h1, h2, h3, fun j hj => ?_⟩
  rw [List.length_take] at hj
  have e : (fs.take k).getD j (0, []) = fs.getD j (0, []) := by simp [List.getD_eq_getElem?_getD, List.getElem?_take_of_lt (show j < k by omega)]
  rw [e]
  exact h4 j (by omega)
theorem RF.drop {w : World} {b off : Nat} {fs : FL} (h : RF w (some ⟨b, off, none⟩) fs) (k : Nat) : RF w (some ⟨b, off + k * 2, none⟩) (fs.drop k) := fun hne => by
  obtain ⟨b', off', h1, h2, h3, h4⟩ := h (by rintro rfl; simp at hne)
  injection h1 with h1
  injection h1 with e1 e2
  subst e1 e2
  refine ⟨b, off + k * 2, rfl, h2, h3, fun j hj => ?_⟩
  rw [List.length_drop] at hj
  have e : (fs.drop k).getD j (0, []) = fs.getD (k + j) (0, []) := by simp [List.getD_eq_getElem?_getD]
  rw [e, show off + k * 2 + j * 2 = off + (k + j) * 2 by omega]
  exact h4 (k + j) (by omega)
theorem RF.empty (w : World) (A : Option Addr) : RF w A [] := fun h => absurd rfl h

end Go.Proofs.YtfhlmindkogdoaaGreatDoor

namespace Go.Proofs.YtfhlmindkogdoaaGreatDoor
open Go.ChangeShapes Go.WideShapes Go.ChangeAt Go.RowKit Go.Sort
set_option linter.unusedVariables false
set_option linter.unusedSimpArgs false

theorem ins_get {α : Type} (fs : List α) (x : α) (k : Nat) (hk : k ≤ fs.length) (j : Nat) : (fs.take k ++ x :: fs.drop k)[j]? = if j < k then fs[j]? else if j = k then some x else fs[j - 1]? := by
  by_cases h1 : j < k
  · rw [if_pos h1, List.getElem?_append_left (by rw [List.length_take]; omega), List.getElem?_take_of_lt h1]
  · rw [if_neg h1, List.getElem?_append_right (by rw [List.length_take]; omega), List.length_take, show j - min k fs.length = j - k by omega]
    by_cases h2 : j = k
    · subst h2; simp
    · rw [if_neg h2, show j - k = (j - 1 - k) + 1 by omega, List.getElem?_cons_succ, List.getElem?_drop, show k + (j - 1 - k) = j - 1 by omega]
theorem ins_getD {α : Type} (d : α) (fs : List α) (x : α) (k : Nat) (hk : k ≤ fs.length) (j : Nat) : (fs.take k ++ x :: fs.drop k).getD j d = if j < k then fs.getD j d else if j = k then x else fs.getD (j - 1) d := by
  simp only [List.getD_eq_getElem?_getD, ins_get fs x k hk j]
  split
  · rfl
  · split <;> rfl
theorem ins_len {α : Type} (fs : List α) (x : α) (k : Nat) (hk : k ≤ fs.length) : (fs.take k ++ x :: fs.drop k).length = fs.length + 1 := by
  simp only [List.length_append, List.length_take, List.length_cons, List.length_drop]; omega
theorem ins2_get (cs : List Value) (a b : Value) (m : Nat) (hm : m ≤ cs.length) (i : Nat) : (cs.take m ++ [a, b] ++ cs.drop m)[i]? = if i < m then cs[i]? else if i = m then some a else if i = m + 1 then some b else cs[i - 2]? := by
  rw [List.append_assoc]
  by_cases h1 : i < m
  · rw [if_pos h1, List.getElem?_append_left (by rw [List.length_take]; omega), List.getElem?_take_of_lt h1]
  · rw [if_neg h1, List.getElem?_append_right (by rw [List.length_take]; omega), List.length_take, show i - min m cs.length = i - m by omega]
    by_cases h2 : i = m
    · subst h2; simp
    · rw [if_neg h2, show i - m = (i - m - 1) + 1 by omega, List.cons_append, List.getElem?_cons_succ]
      by_cases h3 : i = m + 1
      · subst h3; simp
      · rw [if_neg h3, show i - m - 1 = (i - m - 2) + 1 by omega, List.cons_append, List.getElem?_cons_succ, List.nil_append, List.getElem?_drop, show m + (i - m - 2) = i - 2 by omega]

theorem Items.insert {w : World} {lo mid hi : Nat} {fs : FL} {cs : List Value} {bs : Nat → Nat} (h : Items w lo mid fs cs bs) {q : Nat} {r : Int} {xs : List Int} {v : Value} (hv : OwnV w mid hi v q xs) (a : lo ≤ mid) (b : mid ≤ hi) (k : Nat) (hk : k ≤ fs.length) :
    Items w lo hi (fs.take k ++ (r, xs) :: fs.drop k) (cs.take (k * 2) ++ [.int .i64 r, v] ++ cs.drop (k * 2)) (fun j => if j < k then bs j else if j = k then q else bs (j - 1)) := by
  have H := h
  obtain ⟨h1, h2, h3⟩ := h
  have hm : k * 2 ≤ cs.length := by omega
  refine ⟨?_, fun j hj => ?_, fun i j hij hj hi0 hj0 => ?_⟩
  · rw [ins_len _ _ _ hk]
    simp only [List.length_append, List.length_take, List.length_drop, List.length_cons, List.length_nil]; omega
  · rw [ins_len _ _ _ hk] at hj
    rw [ins_getD _ _ _ _ hk, ins2_get _ _ _ _ hm, ins2_get _ _ _ _ hm]
    by_cases e1 : j < k
    · simp only [if_pos e1, if_pos (show j * 2 < k * 2 by omega), if_pos (show j * 2 + 1 < k * 2 by omega)]
      obtain ⟨e0, v1, e2, hv1⟩ := h2 j (by omega)
      exact ⟨e0, v1, e2, hv1.mono (Nat.le_refl _) b⟩
    · by_cases e2 : j = k
      · subst e2
        simp only [if_neg e1, if_pos, if_neg (show ¬ j * 2 < j * 2 by omega), if_neg (show ¬ j * 2 + 1 < j * 2 by omega), if_neg (show ¬ j * 2 + 1 = j * 2 by omega)]
        exact ⟨trivial, v, rfl, hv.mono a (Nat.le_refl _)⟩
      · simp only [if_neg e1, if_neg e2, if_neg (show ¬ j * 2 < k * 2 by omega), if_neg (show ¬ j * 2 = k * 2 by omega), if_neg (show ¬ j * 2 = k * 2 + 1 by omega), if_neg (show ¬ j * 2 + 1 < k * 2 by omega), if_neg (show ¬ j * 2 + 1 = k * 2 by omega), if_neg (show ¬ j * 2 + 1 = k * 2 + 1 by omega)]
        obtain ⟨e0, v1, e3, hv1⟩ := h2 (j - 1) (by omega)
        refine ⟨by rw [show j * 2 - 2 = (j - 1) * 2 by omega]; exact e0, v1, by rw [show j * 2 + 1 - 2 = (j - 1) * 2 + 1 by omega]; exact e3, hv1.mono (Nat.le_refl _) b⟩
  · rw [ins_len _ _ _ hk] at hj
    rw [ins_getD _ _ _ _ hk] at hi0 hj0
    by_cases j1 : j < k
    · have i1 : i < k := by omega
      simp only [if_pos i1, if_pos j1] at hi0 hj0 ⊢
      exact h3 i j hij (by omega) hi0 hj0
    · by_cases j2 : j = k
      · subst j2
        simp only [if_pos hij, if_neg j1, if_pos] at hi0 hj0 ⊢
        have r1 := H.rng (show i < fs.length by omega) hi0
        have r2 := hv.rng hj0
        omega
      · simp only [if_neg j1, if_neg j2] at hj0 ⊢
        have r2 := H.rng (show j - 1 < fs.length by omega) hj0
        by_cases i1 : i < k
        · simp only [if_pos i1] at hi0 ⊢
          exact h3 i (j - 1) (by omega) (by omega) hi0 hj0
        · by_cases i2 : i = k
          · subst i2
            simp only [if_neg i1, if_pos] at hi0 ⊢
            have r1 := hv.rng hi0
            omega
          · simp only [if_neg i1, if_neg i2] at hi0 ⊢
            exact h3 (i - 1) (j - 1) (by omega) (by omega) hi0 hj0
theorem ownsRow_low {w : World} {lo lo' : Nat} {e : TypeId} {K n : Nat} {v : Value} {cs : List Value} (h : w.ownsRow lo e K v n cs) (a : lo' ≤ lo) : w.ownsRow lo' e K v n cs := by
  obtain ⟨h1, h2⟩ := h
  refine ⟨h1, ?_⟩
  rcases h2 with h2 | ⟨g, cap, cur, hv, hb, hr⟩
  · exact .inl h2
  · exact .inr ⟨g, cap, cur, hv, Nat.le_trans a hb, hr⟩
theorem items_one' {w : World} {lo hi : Nat} {fs : FL} {cs : List Value} {bs : Nat → Nat} (h : Items w lo hi fs cs bs) : ∀ x ∈ cs, x.oneCell' = true := fun x hx => by
  obtain ⟨j, hj⟩ := List.getElem?_of_mem hx
  have hlt : j < fs.length * 2 := by have := (List.getElem?_eq_some_iff.1 hj).1; have := h.1; omega
  obtain ⟨e0, v1, e1, hv⟩ := h.2.1 (j / 2) (by omega)
  rcases Nat.mod_two_eq_zero_or_one j with hm | hm
  · rw [show j / 2 * 2 = j by omega, hj] at e0
    injection e0 with e0
    subst e0
    rfl
  · rw [show j / 2 * 2 + 1 = j by omega, hj] at e1
    injection e1 with e1
    subst e1
    obtain ⟨A, c, rfl, _⟩ := hv
    rfl
theorem hasB_iff (l : FL) (r : Int) (xs : List Int) : hasB l r xs = true ↔ ∃ k, k < l.length ∧ decide (cmpF (l.getD k (0, [])).1 (l.getD k (0, [])).2 r xs = 0) = true := by
  constructor
  · intro h
    by_cases hc : ∃ k, k < l.length ∧ decide (cmpF (l.getD k (0, [])).1 (l.getD k (0, [])).2 r xs = 0) = true
    · exact hc
    · exfalso
      unfold hasB at h
      rw [List.any_eq_true] at h
      obtain ⟨g, hg, hs⟩ := h
      obtain ⟨k, hk, rfl⟩ := List.getElem_of_mem hg
      refine hc ⟨k, hk, ?_⟩
      have e : l.getD k (0, []) = l[k] := by simp [List.getD_eq_getElem?_getD, hk]
      rw [e]
      have := cmp_same l[k].1 l[k].2 r xs
      rw [hs] at this
      simpa using this
  · rintro ⟨k, hk, h⟩
    refine hasB_found l r xs k hk ?_
    rw [← cmp_same]
    simpa using h
theorem addI_gr {l : FL} {r : Int} {xs : List Int} (h : hasB l r xs = false) {k : Nat} (hk : k ≤ l.length) (h1 : ∀ j, j < k → decide (cmpF (l.getD j (0, [])).1 (l.getD j (0, [])).2 r xs > 0) = false) (h2 : k < l.length → decide (cmpF (l.getD k (0, [])).1 (l.getD k (0, [])).2 r xs > 0) = true) :
    addI l r xs = l.take k ++ (r, xs) :: l.drop k := by
  refine addI_at l r xs k hk (fun j hj => ?_) (fun hlt => ?_)
  · have := of_decide_eq_false (h1 j hj)
    have hn := hasB_none h (show j < l.length by omega)
    unfold ltAt; omega
  · have := of_decide_eq_true (h2 hlt)
    unfold ltAt; omega
end Go.Proofs.YtfhlmindkogdoaaGreatDoor

namespace Go.Proofs.YtfhlmindkogdoaaGreatDoor
open Go.ChangeShapes Go.WideShapes Go.ChangeAt Go.RowKit Go.Sort
set_option linter.unusedVariables false
set_option linter.unusedSimpArgs false

/-- The first place at which p holds, or -1. -/
def IdxFF (w : World) (n : Nat) (p : Nat → Bool) (e : Ending) (w' : World) : Prop :=
  ((∃ k, k < n ∧ (∀ j, j < k → p j = false) ∧ p k = true ∧ e = .returned (.int .i64 k)) ∨ ((∀ j, j < n → p j = false) ∧ e = .returned (.int .i64 (-1)))) ∧ Below w.heap.size w w'

end Go.Proofs.YtfhlmindkogdoaaGreatDoor

namespace Go.Proofs.YtfhlmindkogdoaaGreatDoor
open Go.ChangeShapes Go.WideShapes Go.ChangeAt Go.RowKit
set_option linter.unusedVariables false
set_option linter.unusedSimpArgs false

abbrev TL := List (List Int)
/-- At the address A lie the lists ts, all of it in blocks from lo to below hi. -/
def Tups (w : World) (lo hi : Nat) (A : Option Addr) (ts : TL) : Prop :=
  ts ≠ [] → ∃ b off, A = some ⟨b, off, none⟩ ∧ lo ≤ b ∧ b < hi ∧ ∀ k, k < ts.length → ∃ B c, w.cell? ⟨b, off + k, none⟩ = some (.slice B (ts.getD k []).length c) ∧ (ts.getD k []).length ≤ c ∧ c ≤ maxLen ∧ Ints w lo hi B (ts.getD k [])
theorem Tups.keep {w w' : World} {lo hi : Nat} {A : Option Addr} {ts : TL} (h : Tups w lo hi A ts) (hk : ∀ b, lo ≤ b → b < hi → w'.heap[b]? = w.heap[b]?) : Tups w' lo hi A ts := fun hx => by
  obtain ⟨b, off, h1, h2, h3, h4⟩ := h hx
  refine ⟨b, off, h1, h2, h3, fun k hkx => ?_⟩
  obtain ⟨B, c, h6, h7, h8, h9⟩ := h4 k hkx
  exact ⟨B, c, (World.cell?_of_block (w := w) (a := ⟨b, off + k, none⟩) (hk b h2 h3)).trans h6, h7, h8, h9.keep hk⟩
theorem Tups.mono {w : World} {lo hi lo' hi' : Nat} {A : Option Addr} {ts : TL} (h : Tups w lo hi A ts) (h1 : lo' ≤ lo) (h2 : hi ≤ hi') : Tups w lo' hi' A ts := fun hx => by
  obtain ⟨b, off, e, h3, h4, h5⟩ := h hx
  refine ⟨b, off, e, by omega, by omega, fun k hk => ?_⟩
  obtain ⟨B, c, g2, g3, g4, g5⟩ := h5 k hk
  exact ⟨B, c, g2, g3, g4, g5.mono h1 h2⟩
/-- At A lie the lists ts. -/
def RT (w : World) (A : Option Addr) (ts : TL) : Prop := Tups w 0 w.heap.size A ts
theorem RT.step {w w' : World} {A : Option Addr} {ts : TL} (h : RT w A ts) (b : Below w.heap.size w w') : RT w' A ts := (Tups.keep h fun k _ h2 => b.block k h2).mono (Nat.le_refl _) b.size
theorem RT.at_ {w : World} {A : Option Addr} {ts : TL} (h : RT w A ts) {k : Nat} (hk : k < ts.length) {xs : List Int} (hf : ts.getD k [] = xs) :
    ∃ b off B c, A = some ⟨b, off, none⟩ ∧ b < w.heap.size ∧ w.cell? ⟨b, off + k, none⟩ = some (.slice B xs.length c) ∧ xs.length ≤ c ∧ c ≤ maxLen ∧ RI w B xs := by
  obtain ⟨b, off, h1, h2, h3, h4⟩ := h (by rintro rfl; simp at hk)
  obtain ⟨B, c, h6, h7, h8, h9⟩ := h4 k hk
  subst hf
  exact ⟨b, off, B, c, h1, h3, h6, h7, h8, h9⟩

section
variable {H : Type} {enc : TypeId × Value → H} {w : World}
end

def sumT (l : TL) : Nat := (l.map fun f => f.length).sum
/-- How many values a list of lists holds, each list counted, too. -/
def szT (l : TL) : Int := (l.length : Int) + (sumT l : Int)
theorem szT_nonneg (l : TL) : 0 ≤ szT l := by unfold szT; omega
theorem szT_len {l : TL} (h : szT l ≤ 1048576) : l.length ≤ 1048576 := by unfold szT at h; omega
theorem sumT_take (l : TL) (k : Nat) (hk : k < l.length) : sumT (l.take (k + 1)) = sumT (l.take k) + (l.getD k []).length := by
  unfold sumT
  rw [List.take_succ_eq_append_getElem hk, List.map_append, List.sum_append]
  simp [List.getD_eq_getElem?_getD, hk]
theorem sumT_le (l : TL) (k : Nat) : sumT (l.take k) ≤ sumT l := by
  have : sumT l = sumT (l.take k) + sumT (l.drop k) := by
    unfold sumT
    rw [← List.sum_append, ← List.map_append, List.take_append_drop]
  omega
theorem szT_elem {l : TL} (h : szT l ≤ 1048576) {k : Nat} (hk : k < l.length) : (l.getD k []).length ≤ 1048576 := by
  have h1 := sumT_take l k hk
  have h2 := sumT_le l (k + 1)
  unfold szT at h
  omega

set_option maxRecDepth 100000 in
theorem ints_info : (Tryz.prog.info? 24).map (fun i => (i.zero, i.size, i.bytes)) = some (some (.slice none 0 0), 1, 24) := by kernel_rfl

/-- Block g begins with the first k of the lists ts, their numbers each in a block of its own, all from lo to below hi. -/
def OwnT (w : World) (lo hi g m k : Nat) (ts : TL) : Prop :=
  lo ≤ g ∧ g < hi ∧ ∃ (F : Nat → Value) (bs : Nat → Nat), w.rowIs g 24 m F ∧ (∀ j, j < k → OwnV w lo hi (F j) (bs j) (ts.getD j [])) ∧
    (∀ i j, i < j → j < k → 0 < (ts.getD i []).length → 0 < (ts.getD j []).length → bs i ≠ bs j)

theorem OwnT.tups {w : World} {lo hi g m : Nat} {ts : TL} (h : OwnT w lo hi g m ts.length ts) (hm : ts.length ≤ m) : Tups w lo hi (some ⟨g, 0, none⟩) ts := fun _ => by
  obtain ⟨h1, h2, F, bs, hr, he, _⟩ := h
  refine ⟨g, 0, rfl, h1, h2, fun k hk => ?_⟩
  have e1 := he k hk
  obtain ⟨A, c, hv, _⟩ := id e1
  rw [hv] at e1
  obtain ⟨_, hc, hcm, hi⟩ := e1.ints
  refine ⟨A, c, ?_, hc, hcm, hi⟩
  rw [Nat.zero_add, World.rowIs.cell hr (show k < m by omega), hv]
theorem OwnT.rt {w : World} {lo g m : Nat} {ts : TL} (h : OwnT w lo w.heap.size g m ts.length ts) (hm : ts.length ≤ m) : RT w (some ⟨g, 0, none⟩) ts := (h.tups hm).mono (Nat.zero_le _) (Nat.le_refl _)

/-- One list more is stored. -/
theorem ownT_step {wr u : World} {lo g m k : Nat} {ts : TL} (h : OwnT wr lo wr.heap.size g m k ts) (hkm : k < m) {xs : List Int} (hf : ts.getD k [] = xs) (hb : Below wr.heap.size wr u)
    {v : Value} {q : Nat} (hv : OwnV u lo u.heap.size v q xs) (hq : 0 < xs.length → wr.heap.size ≤ q) :
    OwnT (u.setCell ⟨g, k, none⟩ v) lo (u.setCell ⟨g, k, none⟩ v).heap.size g m (k + 1) ts := by
  rw [set_size]
  obtain ⟨h1, h2, F, bs, hr, he, hd⟩ := h
  have hs := hb.size
  have hr2 : u.rowIs g 24 m F := World.rowIs.of_block hr (hb.block g h2)
  have far : ∀ b, b ≠ g → (u.setCell ⟨g, k, none⟩ v).heap[b]? = u.heap[b]? := fun b hbg => Below.heap_setCell _ ⟨g, k, none⟩ _ b hbg
  have ne : ∀ b, (∃ c, u.heap[b]? = some (.cells c 3 (0, 0))) → b ≠ g := by
    rintro b ⟨c, hc⟩ rfl
    obtain ⟨c2, hc2, _⟩ := hr2
    rw [hc] at hc2
    injection hc2 with hc2
    injection hc2 with _ ht
    exact absurd ht (by decide)
  have hlt : ∀ j, j < k → 0 < (ts.getD j []).length → bs j < wr.heap.size := fun j hj hp => by
    obtain ⟨A, c, _, _, _, hx⟩ := he j hj
    exact (hx hp).2.2.1
  refine ⟨h1, by omega, _, fun j => if j = k then q else bs j, hr2.set k _, fun j hj => ?_, fun i j hij hj hi0 hj0 => ?_⟩
  · by_cases e : j = k
    · subst e
      simp only [if_pos, hf]
      exact hv.keep fun _ _ hc => far _ (ne _ hc)
    · simp only [e, if_false]
      have e2 : OwnV u lo wr.heap.size (F j) (bs j) (ts.getD j []) := (he j (by omega)).keep fun _ a _ => hb.block _ a
      exact (e2.mono (Nat.le_refl _) hs).keep fun _ _ hc => far _ (ne _ hc)
  · by_cases e : j = k
    · subst e
      have e' : i ≠ j := by omega
      simp only [if_pos, e', if_false]
      have := hlt i hij hi0
      rw [hf] at hj0
      have := hq hj0
      omega
    · have e' : i ≠ k := by omega
      simp only [e, e', if_false]
      exact hd i j hij (by omega) hi0 hj0

theorem ownT_new (w : World) (n : Nat) (C : Array Value) (hC : ∀ i, i < n → C[i]? = some (.slice none 0 0)) (hS : C.size = n) (ts : TL) :
    OwnT (w.alloc (.cells C 24)) w.heap.size (w.alloc (.cells C 24)).heap.size w.heap.size n 0 ts :=
  ⟨Nat.le_refl _, by simp, fun _ => .slice none 0 0, fun _ => 0, ⟨C, by rw [heap_alloc_new], hS, fun i hi => hC i hi⟩, fun j hj => by omega, fun i j _ hj => by omega⟩

end Go.Proofs.YtfhlmindkogdoaaGreatDoor

namespace Go.Proofs.YtfhlmindkogdoaaGreatDoor
open Go.ChangeShapes Go.WideShapes Go.ChangeAt Go.RowKit Go.Sort
set_option linter.unusedVariables false
set_option linter.unusedSimpArgs false

/-- The first place at which p holds, or -1. -/
def IdxFT (w : World) (n : Nat) (p : Nat → Bool) (e : Ending) (w' : World) : Prop :=
  ((∃ k, k < n ∧ (∀ j, j < k → p j = false) ∧ p k = true ∧ e = .returned (.int .i64 k)) ∨ ((∀ j, j < n → p j = false) ∧ e = .returned (.int .i64 (-1)))) ∧ Below w.heap.size w w'

/-- A list of lists of the call's own, at the head of block g; the numbers' blocks lie from lo on. -/
def CopyT (w : World) (fs : TL) (e : Ending) (w' : World) : Prop :=
  e = .returned (.slice (some ⟨w.heap.size, 0, none⟩) fs.length fs.length) ∧ OwnT w' w.heap.size w'.heap.size w.heap.size fs.length fs.length fs ∧ Below w.heap.size w w' ∧ w.heap.size < w'.heap.size
end Go.Proofs.YtfhlmindkogdoaaGreatDoor

namespace Go.Proofs.YtfhlmindkogdoaaGreatDoor
open Go.ChangeShapes Go.WideShapes Go.ChangeAt Go.RowKit Go.Sort Go.Lib
set_option linter.unusedVariables false
set_option linter.unusedSimpArgs false

/-- copy at elements of K cells. -/
theorem run_copyK {P : Program} (K : Nat) (w : World) (dT sT ty elem : TypeId) (b o dLen dCap : Nat) (a : Addr) (sLen sCap : Nat) (cs : List Value)
    (hu : P.underlying dT = some (.slice elem)) (hs : (P.info? elem).map (·.size) = some K) (hn : cs.length = Nat.min sLen dLen * K)
    (hsrc : ∀ j v, cs[j]? = some v → w.cell? (a.add j) = some v) (hc : ∀ j, j < cs.length → (w.cell? ⟨b, o + j, none⟩).isSome = true) (hf : ∀ j, j < cs.length → w.frozen? ⟨b, o + j, none⟩ = false) (h1 : ∀ v ∈ cs, v.oneCell' = true) :
    (Builtin.copy_ #[dT, sT] ty #[.slice (some ⟨b, o, none⟩) dLen dCap, .slice (some a) sLen sCap]).run P w = .ok (goInt (Nat.min sLen dLen)) (w.setCells b o cs) := by
  have hl := run_loadCells_list (P := P) w a cs hsrc
  have hst := run_storeCells_cells (P := P) b o cs 0 w (by simpa using hc) (by simpa using hf) h1
  cases hq : P.info? elem with
  | none => simp [hq] at hs
  | some i =>
    have hi : i.size = K := by simpa [hq] using hs
    simp [Builtin.copy_, run_underlying hu, Builtin.lenOf, Builtin.firstCells, sizeOf, typeInfo, hq, hi, ← hn, hl, hst]

/-- A new row that holds cs. -/
def InsOut (w : World) (e : TypeId) (K n : Nat) (cs : List Value) (x : Ending) (w' : World) : Prop :=
  ∃ G, x = .returned (.slice (some ⟨w.heap.size, 0, none⟩) n G) ∧ w'.ownsRow w.heap.size e K (.slice (some ⟨w.heap.size, 0, none⟩) n G) n cs ∧ Below w.heap.size w w'

/-- The row behind the two copies. -/
theorem ins_row {W : World} {g : Nat} {e : TypeId} {K n i G : Nat} {ROW : Array Value} {cs vs : List Value} (hi : i < n) (hcl : cs.length = n * K) (hvl : vs.length = K) (hR : W.heap[g]? = some (.cells ROW e (0, 0))) (hRs : ROW.size = G * K) (hG : n + 1 ≤ G) (hGm : G ≤ maxLen)
    (hR0 : ∀ (j : Nat) (v : Value), (cs.take (i * K))[j]? = some v → ROW[j]? = some v) (base : Nat) (hb : base ≤ g) :
    ((W.setCells g (i * K) vs).setCells g ((i + 1) * K) (cs.drop (i * K))).ownsRow base e K (.slice (some ⟨g, 0, none⟩) (n + 1) G) (n + 1) (cs.take (i * K) ++ vs ++ cs.drop (i * K)) := by
  have hiK : i * K + K ≤ n * K := by rw [← Nat.succ_mul]; exact Nat.mul_le_mul_right K hi
  have hi1 : (i + 1) * K = i * K + K := Nat.succ_mul i K
  have hn1 : (n + 1) * K = n * K + K := Nat.succ_mul n K
  have hGK : (n + 1) * K ≤ G * K := Nat.mul_le_mul_right K hG
  have h0 : W.rowIs g e (G * K) (fun j => ROW[j]?.getD undef) := ⟨ROW, hR, hRs, fun j hj => by simp [show j < ROW.size by omega]⟩
  have h2 := Go.rowIs_setCells (cs.drop (i * K)) ((i + 1) * K) _ _ (Go.rowIs_setCells vs (i * K) _ _ h0)
  obtain ⟨C, hC, hCs, hCf⟩ := h2
  have hlen : (cs.take (i * K) ++ vs ++ cs.drop (i * K)).length = (n + 1) * K := by
    simp only [List.length_append, List.length_take, List.length_drop]; omega
  refine ⟨hlen, .inr ⟨g, G, C, rfl, hb, hC, hG, hGm, hCs, ?_⟩⟩
  apply List.ext_getElem?
  intro j
  by_cases hj : j < (n + 1) * K
  · rw [List.getElem?_take_of_lt hj, Array.getElem?_toList, hCf j (by omega)]
    by_cases h3 : (i + 1) * K ≤ j
    · have hlt : j < (i + 1) * K + (cs.drop (i * K)).length := by rw [List.length_drop]; omega
      simp only [if_pos (And.intro h3 hlt)]
      rw [List.getElem?_append_right (by simp only [List.length_append, List.length_take]; omega)]
      have e1 : j - (cs.take (i * K) ++ vs).length = j - (i + 1) * K := by simp only [List.length_append, List.length_take]; omega
      rw [e1]
      have hl : j - (i + 1) * K < (cs.drop (i * K)).length := by omega
      rw [List.getElem?_eq_getElem hl]
      rfl
    · simp only [if_neg (show ¬ ((i + 1) * K ≤ j ∧ j < (i + 1) * K + (cs.drop (i * K)).length) from fun h => h3 h.1)]
      rw [List.getElem?_append_left (by simp only [List.length_append, List.length_take]; omega)]
      by_cases h4 : i * K ≤ j
      · have hlt : j < i * K + vs.length := by omega
        simp only [if_pos (And.intro h4 hlt)]
        rw [List.getElem?_append_right (by simp only [List.length_take]; omega)]
        have e1 : j - (cs.take (i * K)).length = j - i * K := by simp only [List.length_take]; omega
        rw [e1]
        have hl : j - i * K < vs.length := by omega
        rw [List.getElem?_eq_getElem hl]
        rfl
      · simp only [if_neg (show ¬ (i * K ≤ j ∧ j < i * K + vs.length) from fun h => h4 h.1)]
        rw [List.getElem?_append_left (by simp only [List.length_take]; omega)]
        have hl : j < (cs.take (i * K)).length := by simp only [List.length_take]; omega
        have := hR0 j _ (List.getElem?_eq_getElem hl)
        rw [List.getElem?_eq_getElem hl, this]
        rfl
  · rw [List.getElem?_eq_none (by simp only [List.length_take, Array.length_toList]; omega), List.getElem?_eq_none (by omega)]
/-- The row behind an append at the end. -/
theorem end_row {W : World} {e : TypeId} {K n G : Nat} {Z cs vs : List Value} (hcl : cs.length = n * K) (hvl : vs.length = K) (hZ : Z.length = (G - (n + 1)) * K) (hG : n + 1 ≤ G) (hGm : G ≤ maxLen) (ROW : Array Value) (hR : ROW.toList = (cs ++ vs) ++ Z) :
    (W.alloc (.cells ROW e)).ownsRow W.heap.size e K (.slice (some ⟨W.heap.size, 0, none⟩) (n + 1) G) (n + 1) (cs ++ vs) := by
  have hn1 : (n + 1) * K = n * K + K := Nat.succ_mul n K
  have hl : (cs ++ vs).length = (n + 1) * K := by rw [List.length_append]; omega
  refine ⟨hl, .inr ⟨_, G, ROW, rfl, Nat.le_refl _, heap_alloc_new W _, hG, hGm, ?_, ?_⟩⟩
  · rw [← Array.length_toList, hR, List.length_append, hl, hZ, ← Nat.add_mul]
    congr 1; omega
  · rw [hR, List.take_append_of_le_length (by omega), List.take_of_length_le (by omega)]
end Go.Proofs.YtfhlmindkogdoaaGreatDoor

namespace Go.Proofs.YtfhlmindkogdoaaGreatDoor
open Go.ChangeShapes Go.WideShapes Go.ChangeAt Go.RowKit Go.Sort Go.Lib
set_option linter.unusedVariables false
set_option linter.unusedSimpArgs false


end Go.Proofs.YtfhlmindkogdoaaGreatDoor

namespace Go.Proofs.YtfhlmindkogdoaaGreatDoor
open Go.ChangeShapes Go.WideShapes Go.ChangeAt Go.RowKit Go.Sort
set_option linter.unusedVariables false
set_option linter.unusedSimpArgs false

end Go.Proofs.YtfhlmindkogdoaaGreatDoor

namespace Go.Proofs.YtfhlmindkogdoaaGreatDoor
open Go.ChangeShapes Go.WideShapes Go.ChangeAt Go.RowKit Go.Sort
set_option linter.unusedVariables false
set_option linter.unusedSimpArgs false

theorem items_one {w : World} {lo hi : Nat} {fs : FL} {cs : List Value} {bs : Nat → Nat} (h : Items w lo hi fs cs bs) : ∀ x ∈ cs, x.oneCell' = true := fun x hx => by
  obtain ⟨j, hj⟩ := List.getElem?_of_mem hx
  have hlt : j < fs.length * 2 := by have := (List.getElem?_eq_some_iff.1 hj).1; have := h.1; omega
  obtain ⟨e0, v1, e1, hv⟩ := h.2.1 (j / 2) (by omega)
  rcases Nat.mod_two_eq_zero_or_one j with hm | hm
  · rw [show j / 2 * 2 = j by omega, hj] at e0
    injection e0 with e0
    subst e0
    rfl
  · rw [show j / 2 * 2 + 1 = j by omega, hj] at e1
    injection e1 with e1
    subst e1
    obtain ⟨A, c, rfl, _⟩ := hv
    rfl

end Go.Proofs.YtfhlmindkogdoaaGreatDoor

namespace Go.Proofs.YtfhlmindkogdoaaGreatDoor
open Go.ChangeShapes Go.WideShapes Go.ChangeAt Go.RowKit Go.Sort
set_option linter.unusedVariables false
set_option linter.unusedSimpArgs false

/-- Where the model's loop stands. -/
def AddSt (l : FL) (r : Int) (xs : List Int) (k : Nat) (pb : Bool) (out : FL) : Prop :=
  (pb = true ∧ hasB l r xs = true ∧ out = l.take k) ∨ (pb = false ∧ hasB l r xs = false ∧ out = l.take k ∧ ∀ j, j < k → ltAt l r xs j) ∨
  (pb = true ∧ hasB l r xs = false ∧ ∃ p, p ≤ k ∧ addI l r xs = l.take p ++ (r, xs) :: l.drop p ∧ out = l.take p ++ (r, xs) :: (l.take k).drop p)
theorem AddSt.start (l : FL) (r : Int) (xs : List Int) : AddSt l r xs 0 (hasB l r xs) [] := by
  cases h : hasB l r xs
  · exact .inr (.inl ⟨rfl, h, rfl, fun j hj => by omega⟩)
  · exact .inl ⟨rfl, h, rfl⟩
theorem take_one (l : FL) (k : Nat) (hk : k < l.length) : l.take (k + 1) = l.take k ++ [l.getD k (0, [])] := by
  rw [List.take_succ_eq_append_getElem hk]
  simp [List.getD_eq_getElem?_getD, hk]
theorem AddSt.push {l : FL} {r : Int} {xs : List Int} {k : Nat} {pb : Bool} {out : FL} (h : AddSt l r xs k pb out) (hk : k < l.length) (hp : pb = true ∨ ltAt l r xs k) {f : Int × List Int} (hf : l.getD k (0, []) = f) : AddSt l r xs (k + 1) pb (out ++ [f]) := by
  subst hf
  rcases h with ⟨h1, h2, rfl⟩ | ⟨h1, h2, rfl, h3⟩ | ⟨h1, h2, p, hpk, h3, rfl⟩
  · exact .inl ⟨h1, h2, (take_one l k hk).symm⟩
  · refine .inr (.inl ⟨h1, h2, (take_one l k hk).symm, fun j hj => ?_⟩)
    by_cases e : j = k
    · subst e
      rcases hp with hp | hp
      · rw [h1] at hp; cases hp
      · exact hp
    · exact h3 j (by omega)
  · refine .inr (.inr ⟨h1, h2, p, by omega, h3, ?_⟩)
    rw [take_one l k hk, List.drop_append_of_le_length (by rw [List.length_take]; omega)]
    simp
theorem AddSt.place {l : FL} {r : Int} {xs : List Int} {k : Nat} {out : FL} (h : AddSt l r xs k false out) (hk : k < l.length) (hp : ¬ ltAt l r xs k) : AddSt l r xs k true (out ++ [(r, xs)]) := by
  rcases h with ⟨h1, _⟩ | ⟨h1, h2, rfl, h3⟩ | ⟨h1, _⟩
  · cases h1
  · refine .inr (.inr ⟨rfl, h2, k, Nat.le_refl _, addI_at l r xs k (by omega) h3 (fun _ => hp), ?_⟩)
    rw [List.drop_eq_nil_of_le (by rw [List.length_take]; omega)]
  · cases h1
theorem AddSt.done {l : FL} {r : Int} {xs : List Int} {out : FL} (h : AddSt l r xs l.length true out) : out = addF l r xs := by
  rcases h with ⟨_, h2, rfl⟩ | ⟨h1, _⟩ | ⟨_, h2, p, _, h3, rfl⟩
  · rw [addF_yes h2, List.take_length]
  · cases h1
  · rw [addF_no h2, h3, List.take_length]
theorem AddSt.last {l : FL} {r : Int} {xs : List Int} {out : FL} (h : AddSt l r xs l.length false out) : out ++ [(r, xs)] = addF l r xs := by
  rcases h with ⟨h1, _⟩ | ⟨_, h2, rfl, h3⟩ | ⟨h1, _⟩
  · cases h1
  · rw [addF_no h2, addI_at l r xs l.length (Nat.le_refl _) h3 (fun h => by omega), List.take_length, List.drop_length]
  · cases h1
theorem AddSt.has {l : FL} {r : Int} {xs : List Int} {k : Nat} {out : FL} (h : AddSt l r xs k false out) : hasB l r xs = false := by
  rcases h with ⟨h1, _⟩ | ⟨_, h2, _⟩ | ⟨h1, _⟩
  · cases h1
  · exact h2
  · cases h1
theorem AddSt.len {l : FL} {r : Int} {xs : List Int} {k : Nat} {pb : Bool} {out : FL} (h : AddSt l r xs k pb out) : out.length ≤ k + 1 := by
  rcases h with ⟨_, _, rfl⟩ | ⟨_, _, rfl, _⟩ | ⟨_, _, p, hp, _, rfl⟩
  · rw [List.length_take]; omega
  · rw [List.length_take]; omega
  · rw [List.length_append, List.length_cons, List.length_drop, List.length_take, List.length_take]; omega

end Go.Proofs.YtfhlmindkogdoaaGreatDoor

namespace Go.Proofs.YtfhlmindkogdoaaGreatDoor
open Go.ChangeShapes Go.WideShapes Go.ChangeAt Go.RowKit Go.Sort
set_option linter.unusedVariables false
set_option linter.unusedSimpArgs false

/-- The first mark of fact k. -/
def offs (q : Int) (fs : FL) (k : Nat) : Int := q + k + (sumN (fs.take k) : Int)
theorem offs_succ (q : Int) (fs : FL) (k : Nat) (hk : k < fs.length) : offs q fs (k + 1) = offs q fs k + 1 + ((fs.getD k (0, [])).2.length : Int) := by
  unfold offs
  rw [sumN_take fs k hk]
  omega
theorem offs_end (q : Int) (fs : FL) : offs q fs fs.length = q + szF fs := by
  unfold offs szF
  rw [take_all]
  omega
theorem offs_rng (q : Int) (fs : FL) (k : Nat) (hk : k ≤ fs.length) : q ≤ offs q fs k ∧ offs q fs k ≤ q + szF fs := by
  have := sumN_le fs k
  unfold offs szF
  omega
/-- The fact of place j, marked. -/
def mkE (q : Int) (fs : FL) (j : Nat) : Int × List Int := (offs q fs j, marks (offs q fs j + 1) (fs.getD j (0, [])).2.length)
/-- The first k facts are marked. -/
def mkK (q : Int) (fs : FL) (k : Nat) : FL := (List.range fs.length).map fun j => if j < k then mkE q fs j else fs.getD j (0, [])
theorem mkK_length (q : Int) (fs : FL) (k : Nat) : (mkK q fs k).length = fs.length := by simp [mkK]
theorem mkK_getD (q : Int) (fs : FL) (k j : Nat) (hj : j < fs.length) : (mkK q fs k).getD j (0, []) = if j < k then mkE q fs j else fs.getD j (0, []) := by
  simp [mkK, List.getD_eq_getElem?_getD, hj]

set_option maxRecDepth 100000 in
theorem markIntS_zero (A : Option Addr) (c : Nat) (q : Int) (w : World) (h0 : 0 ≤ q) (h1 : q ≤ 1099511627776) :
    Calls Tryz.prog 31 #[.slice A 0 c, .int .i64 q] w fun e w' => e = .returned (.int .i64 q) ∧ w = w' := by
  go_enter Tryz.func31, Tryz.ntmps31
  go_wp2
  refine wp_loop_rounds 1 ?_
  rw [rounds_succ]
  go_wp2
  go_ret
  exact ⟨rfl, rfl⟩

/-- Marks are found again. -/
theorem held_ints {w : World} {lo hi : Nat} {A : Option Addr} {k : Int} {n : Nat} {xs : List Int} (h : Ints w lo hi A xs) (e : xs = marks k n) : Ints w lo hi A (marks k n) := e ▸ h

end Go.Proofs.YtfhlmindkogdoaaGreatDoor

namespace Go.Proofs.YtfhlmindkogdoaaGreatDoor
open Go.ChangeShapes Go.WideShapes Go.ChangeAt Go.RowKit Go.Sort
set_option linter.unusedVariables false
set_option linter.unusedSimpArgs false

theorem Row.step {w w' : World} {g : Nat} {xs : List Int} (h : Row w g xs) (b : Below w.heap.size w w') : Row w' g xs := h.of_block (b.block _ (World.rowIs.lt h))

theorem addF_pos (l : FL) (r : Int) (xs : List Int) : 0 < (addF l r xs).length := by
  unfold addF
  split
  · rename_i h
    rcases l with _ | ⟨g, t⟩
    · cases h
    · simp
  · cases l with
    | nil => simp [addI]
    | cons g t => rw [addI]; split <;> simp
theorem szF_elem_b {l : FL} (h : szF l ≤ 1048577) {k : Nat} (hk : k < l.length) : (l.getD k (0, [])).2.length ≤ 2097152 := by
  have h1 := sumN_take l k hk
  have h2 := sumN_le l (k + 1)
  unfold szF at h
  omega
end Go.Proofs.YtfhlmindkogdoaaGreatDoor
