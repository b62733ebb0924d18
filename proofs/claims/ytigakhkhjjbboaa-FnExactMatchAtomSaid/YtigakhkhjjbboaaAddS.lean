/- What spec.AddFact answers. Conditions: none beyond each theorem's own. -/
import Derived.Test.YtigakhkhjjbboaaAddI
namespace Go.Proofs.Ytigakhkhjjbboaa
open Go.ChangeShapes Go.WideShapes Go.ChangeAt Go.RowKit Go.Sort
set_option linter.unusedVariables false
set_option linter.unusedSimpArgs false

/-- Where the model's loop stands. -/
def AddSt (l : FL) (r : Int) (xs : List Int) (k : Nat) (pb : Bool) (out : FL) : Prop :=
  (pb = true ∧ hasB l r xs = true ∧ out = l.take k) ∨ (pb = false ∧ hasB l r xs = false ∧ out = l.take k ∧ ∀ j, j < k → ltAt l r xs j) ∨
  (pb = true ∧ hasB l r xs = false ∧ ∃ p, p ≤ k ∧ addI l r xs = l.take p ++ (r, xs) :: l.drop p ∧ out = l.take p ++ (r, xs) :: (l.take k).drop p)
theorem AddSt.start (l : FL) (r : Int) (xs : List Int) : AddSt l r xs 0 (hasB l r xs) [] := by
  cases h : hasB l r xs
  · exact .inr (.inl ⟨rfl, h, rfl, fun j hj => by omega⟩)
  · exact .inl ⟨rfl, h, rfl⟩
theorem take_one (l : FL) (k : Nat) (hk : k < l.length) : l.take (k + 1) = l.take k ++ [l.getD k (0, [])] := by
  rw [List.take_succ_eq_append_getElem hk]
  simp [List.getD_eq_getElem?_getD, hk]
theorem AddSt.push {l : FL} {r : Int} {xs : List Int} {k : Nat} {pb : Bool} {out : FL} (h : AddSt l r xs k pb out) (hk : k < l.length) (hp : pb = true ∨ ltAt l r xs k) {f : Int × List Int} (hf : l.getD k (0, []) = f) : AddSt l r xs (k + 1) pb (out ++ [f]) := by
  subst hf
  rcases h with ⟨h1, h2, rfl⟩ | ⟨h1, h2, rfl, h3⟩ | ⟨h1, h2, p, hpk, h3, rfl⟩
  · exact .inl ⟨h1, h2, (take_one l k hk).symm⟩
  · refine .inr (.inl ⟨h1, h2, (take_one l k hk).symm, fun j hj => ?_⟩)
    by_cases e : j = k
    · subst e
      rcases hp with hp | hp
      · rw [h1] at hp; cases hp
      · exact hp
    · exact h3 j (by omega)
  · refine .inr (.inr ⟨h1, h2, p, by omega, h3, ?_⟩)
    rw [take_one l k hk, List.drop_append_of_le_length (by rw [List.length_take]; omega)]
    simp
theorem AddSt.place {l : FL} {r : Int} {xs : List Int} {k : Nat} {out : FL} (h : AddSt l r xs k false out) (hk : k < l.length) (hp : ¬ ltAt l r xs k) : AddSt l r xs k true (out ++ [(r, xs)]) := by
  rcases h with ⟨h1, _⟩ | ⟨h1, h2, rfl, h3⟩ | ⟨h1, _⟩
  · cases h1
  · refine .inr (.inr ⟨rfl, h2, k, Nat.le_refl _, addI_at l r xs k (by omega) h3 (fun _ => hp), ?_⟩)
    rw [List.drop_eq_nil_of_le (by rw [List.length_take]; omega)]
  · cases h1
theorem AddSt.done {l : FL} {r : Int} {xs : List Int} {out : FL} (h : AddSt l r xs l.length true out) : out = addF l r xs := by
  rcases h with ⟨_, h2, rfl⟩ | ⟨h1, _⟩ | ⟨_, h2, p, _, h3, rfl⟩
  · rw [addF_yes h2, List.take_length]
  · cases h1
  · rw [addF_no h2, h3, List.take_length]
theorem AddSt.last {l : FL} {r : Int} {xs : List Int} {out : FL} (h : AddSt l r xs l.length false out) : out ++ [(r, xs)] = addF l r xs := by
  rcases h with ⟨h1, _⟩ | ⟨_, h2, rfl, h3⟩ | ⟨h1, _⟩
  · cases h1
  · rw [addF_no h2, addI_at l r xs l.length (Nat.le_refl _) h3 (fun h => by omega), List.take_length, List.drop_length]
  · cases h1
theorem AddSt.has {l : FL} {r : Int} {xs : List Int} {k : Nat} {out : FL} (h : AddSt l r xs k false out) : hasB l r xs = false := by
  rcases h with ⟨h1, _⟩ | ⟨_, h2, _⟩ | ⟨h1, _⟩
  · cases h1
  · exact h2
  · cases h1
theorem AddSt.len {l : FL} {r : Int} {xs : List Int} {k : Nat} {pb : Bool} {out : FL} (h : AddSt l r xs k pb out) : out.length ≤ k + 1 := by
  rcases h with ⟨_, _, rfl⟩ | ⟨_, _, rfl, _⟩ | ⟨_, _, p, hp, _, rfl⟩
  · rw [List.length_take]; omega
  · rw [List.length_take]; omega
  · rw [List.length_append, List.length_cons, List.length_drop, List.length_take, List.length_take]; omega

end Go.Proofs.Ytigakhkhjjbboaa
