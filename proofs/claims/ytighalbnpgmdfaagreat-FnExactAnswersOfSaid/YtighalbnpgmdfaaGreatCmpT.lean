/- The order of lists of numbers is transitive. Conditions: none beyond each theorem's own. -/
import Derived.Test.YtighalbnpgmdfaaGreatAddM
namespace Go.Proofs.YtighalbnpgmdfaaGreat
open Go.ChangeShapes Go.WideShapes Go.ChangeAt Go.RowKit Go.Sort
set_option linter.unusedVariables false
set_option linter.unusedSimpArgs false

theorem cmpL_trans : ∀ xs ys zs : List Int, cmpL xs ys < 0 → cmpL ys zs < 0 → cmpL xs zs < 0
  | [], [], _, h, _ => by simp [cmpL] at h
  | [], _ :: _, [], _, h => by simp [cmpL] at h
  | [], _ :: _, _ :: _, _, _ => by simp [cmpL]
  | _ :: _, [], _, h, _ => by simp [cmpL] at h
  | _ :: _, _ :: _, [], _, h => by simp [cmpL] at h
  | x :: xs, y :: ys, z :: zs, h1, h2 => by
    have ih := cmpL_trans xs ys zs
    unfold cmpL at h1 h2 ⊢
    by_cases a1 : x < y
    · by_cases a2 : y < z
      · rw [if_pos (by omega)]; omega
      · rw [if_neg a2] at h2
        by_cases a3 : z < y
        · rw [if_pos a3] at h2; omega
        · rw [if_pos (by omega)]; omega
    · rw [if_neg a1] at h1
      by_cases a3 : y < x
      · rw [if_pos a3] at h1; omega
      · rw [if_neg a3] at h1
        by_cases a2 : y < z
        · rw [if_pos (by omega)]; omega
        · rw [if_neg a2] at h2
          by_cases a4 : z < y
          · rw [if_pos a4] at h2; omega
          · rw [if_neg a4] at h2
            rw [if_neg (by omega), if_neg (by omega)]
            exact ih h1 h2
/-- Is xs before ys? -/
def ltL (xs ys : List Int) : Prop := cmpL xs ys < 0
theorem ltL_irrefl (xs : List Int) : ¬ ltL xs xs := by
  unfold ltL
  rw [(cmpL_zero xs xs).2 rfl]
  omega
theorem ltL_trans {xs ys zs : List Int} (h1 : ltL xs ys) (h2 : ltL ys zs) : ltL xs zs := cmpL_trans _ _ _ h1 h2
theorem ltL_total {xs ys : List Int} (h1 : ¬ ltL xs ys) (h2 : xs ≠ ys) : ltL ys xs := by
  have h3 := cmpL_anti xs ys
  unfold ltL at *
  have : cmpL xs ys ≠ 0 := fun e => h2 ((cmpL_zero _ _).1 e)
  omega
abbrev AscT (l : List (List Int)) : Prop := l.Pairwise ltL
theorem AscT.nodup {l : List (List Int)} (h : AscT l) : l.Nodup := by
  show List.Pairwise (fun a b => a ≠ b) l
  refine List.Pairwise.imp ?_ h
  intro a b hab e
  subst e
  exact ltL_irrefl a hab
/-- Two ascending lists of the same members are one. -/
theorem ascT_unique : ∀ (l l' : List (List Int)), AscT l → AscT l' → (∀ x, x ∈ l ↔ x ∈ l') → l = l'
  | [], [], _, _, _ => rfl
  | [], g :: t', _, _, hm => absurd ((hm g).2 (List.mem_cons_self)) (by simp)
  | f :: t, [], _, _, hm => absurd ((hm f).1 (List.mem_cons_self)) (by simp)
  | f :: t, g :: t', h, h', hm => by
    have a := List.pairwise_cons.1 h
    have b := List.pairwise_cons.1 h'
    have e : f = g := by
      rcases List.mem_cons.1 ((hm f).1 (List.mem_cons_self)) with e | e
      · exact e
      · rcases List.mem_cons.1 ((hm g).2 (List.mem_cons_self)) with e2 | e2
        · exact e2.symm
        · exact absurd (ltL_trans (b.1 f e) (a.1 g e2)) (ltL_irrefl g)
    subst e
    rw [ascT_unique t t' a.2 b.2 fun x => ⟨fun hx => by
      rcases List.mem_cons.1 ((hm x).1 (List.mem_cons_of_mem _ hx)) with e | e
      · subst e; exact absurd (a.1 x hx) (ltL_irrefl x)
      · exact e, fun hx => by
      rcases List.mem_cons.1 ((hm x).2 (List.mem_cons_of_mem _ hx)) with e | e
      · subst e; exact absurd (b.1 x hx) (ltL_irrefl x)
      · exact e⟩]
end Go.Proofs.YtighalbnpgmdfaaGreat
