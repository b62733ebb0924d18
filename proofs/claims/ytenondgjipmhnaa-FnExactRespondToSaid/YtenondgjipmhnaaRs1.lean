/- Facts in ascending order: a list without doubles, added one by one, is the sorted list. Conditions: none beyond each theorem's own. -/
import Derived.Test.YtenondgjipmhnaaMtp
import Derived.Test.YtenondgjipmhnaaAddS
import Derived.Test.YtenondgjipmhnaaCmpT
namespace Go.Proofs.Ytenondgjipmhnaa
open Go.ChangeShapes Go.WideShapes Go.ChangeAt Go.RowKit Go.Sort
set_option linter.unusedVariables false
set_option linter.unusedSimpArgs false

/-- Is f before g? -/
def ltF (f g : Int × List Int) : Prop := cmpF f.1 f.2 g.1 g.2 < 0
theorem cmpF_eqz (f g : Int × List Int) : cmpF f.1 f.2 g.1 g.2 = 0 ↔ f = g := by
  obtain ⟨r, xs⟩ := f
  obtain ⟨r', ys⟩ := g
  have := cmpL_zero xs ys
  unfold cmpF
  simp only
  split
  · constructor
    · intro h; omega
    · intro h; injection h with h1 h2; omega
  · split
    · constructor
      · intro h; omega
      · intro h; injection h with h1 h2; omega
    · have : r = r' := by omega
      subst this
      rw [this]
      simp
theorem ltF_irrefl (f : Int × List Int) : ¬ ltF f f := by
  unfold ltF
  have := (cmpF_eqz f f).2 rfl
  omega
theorem ltF_trans {f g h : Int × List Int} (h1 : ltF f g) (h2 : ltF g h) : ltF f h := by
  obtain ⟨r, xs⟩ := f
  obtain ⟨r', ys⟩ := g
  obtain ⟨r2, zs⟩ := h
  have T := cmpL_trans xs ys zs
  unfold ltF cmpF at *
  simp only at *
  by_cases a1 : r < r'
  · by_cases a2 : r' < r2
    · rw [if_pos (by omega)]; omega
    · rw [if_neg a2] at h2
      by_cases a3 : r2 < r'
      · rw [if_pos a3] at h2; omega
      · rw [if_pos (by omega)]; omega
  · rw [if_neg a1] at h1
    by_cases a3 : r' < r
    · rw [if_pos a3] at h1; omega
    · rw [if_neg a3] at h1
      by_cases a2 : r' < r2
      · rw [if_pos (by omega)]; omega
      · rw [if_neg a2] at h2
        by_cases a4 : r2 < r'
        · rw [if_pos a4] at h2; omega
        · rw [if_neg a4] at h2
          rw [if_neg (by omega), if_neg (by omega)]
          exact T h1 h2
theorem ltF_total {f g : Int × List Int} (h1 : ¬ ltF f g) (h2 : f ≠ g) : ltF g f := by
  have h3 := cmpF_anti f.1 f.2 g.1 g.2
  have h4 := cmpF_eqz f g
  unfold ltF at *
  have : cmpF f.1 f.2 g.1 g.2 ≠ 0 := fun e => h2 (h4.1 e)
  omega
abbrev AscF (l : FL) : Prop := l.Pairwise ltF
theorem AscF.nodup {l : FL} (h : AscF l) : l.Nodup := by
  show List.Pairwise (fun a b => a ≠ b) l
  refine List.Pairwise.imp ?_ h
  intro a b hab e
  subst e
  exact ltF_irrefl a hab
theorem sameB_iff (r : Int) (xs : List Int) (r' : Int) (ys : List Int) : sameB r xs r' ys = true ↔ (r, xs) = (r', ys) := by simp [sameB]
theorem hasB_memf (l : FL) (r : Int) (xs : List Int) : hasB l r xs = true ↔ (r, xs) ∈ l := by
  unfold hasB
  rw [List.any_eq_true]
  constructor
  · rintro ⟨g, hg, hs⟩
    rw [sameB_iff] at hs
    rw [← hs]
    exact hg
  · intro h
    exact ⟨_, h, (sameB_iff _ _ _ _).2 rfl⟩
theorem addI_perm : ∀ (l : FL) (r : Int) (xs : List Int), (addI l r xs).Perm ((r, xs) :: l)
  | [], r, xs => List.Perm.refl _
  | g :: t, r, xs => by
    unfold addI
    split
    · exact ((addI_perm t r xs).cons g).trans (List.Perm.swap _ _ _)
    · exact List.Perm.refl _
theorem addI_asc : ∀ (l : FL) (r : Int) (xs : List Int), AscF l → (r, xs) ∉ l → AscF (addI l r xs)
  | [], r, xs, _, _ => by unfold addI; exact List.pairwise_singleton _ _
  | g :: t, r, xs, h, hn => by
    have h' := List.pairwise_cons.1 h
    unfold addI
    split
    · rename_i hlt
      refine List.pairwise_cons.2 ⟨fun b hb => ?_, addI_asc t r xs h'.2 fun hm => hn (List.mem_cons_of_mem _ hm)⟩
      rcases List.mem_cons.1 ((addI_perm t r xs).mem_iff.1 hb) with e | e
      · rw [e]; exact hlt
      · exact h'.1 b e
    · rename_i hge
      have hl : ltF (r, xs) g := ltF_total (f := g) (g := (r, xs)) hge fun e => hn (by rw [← e]; simp)
      exact List.pairwise_cons.2 ⟨fun b hb => by
        rcases List.mem_cons.1 hb with e | e
        · rw [e]; exact hl
        · exact ltF_trans hl (h'.1 b e), h⟩
/-- All of c, added one by one. -/
def addAll (c : FL) (l : FL) : FL := c.foldl (fun l f => addF l f.1 f.2) l
theorem addAll_ok : ∀ (c l : FL), AscF l → (c ++ l).Nodup → AscF (addAll c l) ∧ (addAll c l).Perm (c ++ l)
  | [], l, h, _ => ⟨h, List.Perm.refl _⟩
  | f :: c, l, h, hn => by
    have hn' := List.nodup_cons.1 hn
    have hf : (f.1, f.2) ∉ l := fun hm => hn'.1 (List.mem_append_right _ hm)
    have e : addF l f.1 f.2 = addI l f.1 f.2 := addF_no (by rw [← Bool.not_eq_true, hasB_memf]; exact hf)
    have hp := addI_perm l f.1 f.2
    have hnd : (c ++ addI l f.1 f.2).Nodup := by
      have p1 : (c ++ addI l f.1 f.2).Perm (f :: (c ++ l)) := (hp.append_left c).trans List.perm_middle
      exact p1.symm.nodup hn
    have ih := addAll_ok c (addI l f.1 f.2) (addI_asc l f.1 f.2 h hf) hnd
    show AscF (addAll c (addF l f.1 f.2)) ∧ (addAll c (addF l f.1 f.2)).Perm _
    rw [e]
    exact ⟨ih.1, ih.2.trans ((hp.append_left c).trans List.perm_middle)⟩
theorem asc_unique : ∀ (l l' : FL), AscF l → AscF l' → l.Perm l' → l = l'
  | [], l', _, _, hp => (List.Perm.nil_eq hp)
  | f :: t, [], _, _, hp => absurd hp.length_eq (by simp)
  | f :: t, g :: t', h, h', hp => by
    have a := List.pairwise_cons.1 h
    have b := List.pairwise_cons.1 h'
    have e : f = g := by
      rcases List.mem_cons.1 (hp.mem_iff.1 (List.mem_cons_self)) with e | e
      · exact e
      · rcases List.mem_cons.1 (hp.mem_iff.2 (List.mem_cons_self (a := g))) with e2 | e2
        · exact e2.symm
        · exact absurd (ltF_trans (b.1 f e) (a.1 g e2)) (ltF_irrefl g)
    subst e
    rw [asc_unique t t' a.2 b.2 ((List.perm_cons f).1 hp)]
/-- A list without doubles, in order. -/
theorem addAll_sorts {c r : FL} (hn : c.Nodup) (h : AscF r) (hp : r.Perm c) : addAll c [] = r := by
  have := addAll_ok c [] List.Pairwise.nil (by simpa using hn)
  rw [List.append_nil] at this
  exact asc_unique _ _ this.1 h (this.2.trans hp.symm)

/-- Valid facts are in order. -/
theorem areB_asc {s : List Int} {l : FL} (h : areB s l = true) : AscF l := by
  unfold areB at h
  simp only [Bool.and_eq_true] at h
  have h1 := h.1.1
  unfold allOk at h1
  rw [List.all_eq_true] at h1
  have key : ∀ j, ∀ i, i < j → j < l.length → ltF (l.getD i (0, [])) (l.getD j (0, [])) := by
    intro j
    induction j with
    | zero => intro i hi; omega
    | succ j ih =>
      intro i hi hj
      have h2 := h1 (j + 1) (by simpa using hj)
      unfold okAt at h2
      simp only [Bool.and_eq_true, Bool.or_eq_true, decide_eq_true_eq] at h2
      have h3 : ltF (l.getD j (0, [])) (l.getD (j + 1) (0, [])) := by
        rcases h2.2 with e | e
        · omega
        · simpa [ltF] using e
      by_cases hij : i = j
      · subst hij; exact h3
      · exact ltF_trans (ih i (by omega) (by omega)) h3
  show List.Pairwise ltF l
  rw [List.pairwise_iff_getElem]
  intro i j hi hj hij
  have := key j i hij hj
  simpa [List.getD_eq_getElem?_getD, hi, hj] using this
theorem matF_asc {r : Int} {xs vs : List Int} {l : FL} (h : AscF l) : AscF (matF r xs vs l) := h.filter _

/-- The facts from number k on, going on with the first one, n of them. -/
def rotF (M : FL) (k n : Nat) : FL := (M.drop k ++ M.take k).take n
theorem rotF_nodup {M : FL} (h : M.Nodup) (k n : Nat) : (rotF M k n).Nodup := by
  have p : (M.drop k ++ M.take k).Perm M := by
    have := List.perm_append_comm (l₁ := M.drop k) (l₂ := M.take k)
    rwa [List.take_append_drop] at this
  exact (p.symm.nodup h).sublist (List.take_sublist _ _)
theorem rotF_all (M : FL) (k : Nat) : (rotF M k M.length).Perm M := by
  have p : (M.drop k ++ M.take k).Perm M := by
    have := List.perm_append_comm (l₁ := M.drop k) (l₂ := M.take k)
    rwa [List.take_append_drop] at this
  unfold rotF
  rw [List.take_of_length_le (by rw [p.length_eq]; exact Nat.le_refl _)]
  exact p
theorem rotF_at (M : FL) {k n i : Nat} (hk : k < M.length) (hi : i < n) (hn : n ≤ M.length) : (rotF M k n)[i]? = some (M.getD ((k + i) % M.length) (0, [])) := by
  unfold rotF
  rw [List.getElem?_take_of_lt hi]
  by_cases h : i < M.length - k
  · rw [List.getElem?_append_left (by rw [List.length_drop]; exact h), List.getElem?_drop, Nat.mod_eq_of_lt (by omega), List.getD_eq_getElem?_getD, List.getElem?_eq_getElem (by omega)]
    rfl
  · rw [List.getElem?_append_right (by rw [List.length_drop]; omega), List.length_drop, List.getElem?_take_of_lt (by omega)]
    have e : (k + i) % M.length = i - (M.length - k) := by
      rw [Nat.mod_eq_sub_mod (by omega), Nat.mod_eq_of_lt (by omega)]
      omega
    rw [e, List.getD_eq_getElem?_getD, List.getElem?_eq_getElem (by omega)]
    rfl
theorem rotF_len (M : FL) {k n : Nat} (hk : k < M.length) (hn : n ≤ M.length) : (rotF M k n).length = n := by
  unfold rotF
  rw [List.length_take, List.length_append, List.length_drop, List.length_take]
  omega
/-- Where a choice begins. -/
def begF (M : FL) (ch : Int) : Nat := (max ch 0).toNat % M.length
/-- What a source answers. -/
def rspF (M : FL) (lim ch : Int) : FL := if M.length = 0 ∨ lim = 0 ∨ (M.length : Int) ≤ lim then M else addAll (rotF M (begF M ch) lim.toNat) []
end Go.Proofs.Ytenondgjipmhnaa
