/- What the law of AddFact carries from call to call. Conditions: none beyond each theorem's own. -/
import Derived.Test.YtimlpdcambmcjaaMark
namespace Go.Proofs.Ytimlpdcambmcjaa
open Go.ChangeShapes Go.WideShapes Go.ChangeAt Go.RowKit Go.Sort
set_option linter.unusedVariables false
set_option linter.unusedSimpArgs false

theorem OwnP.keep {w w' : World} {lo hi g m k : Nat} {fs : FL} (h : OwnP w lo hi g m k fs) (hk : ∀ b, lo ≤ b → b < hi → w'.heap[b]? = w.heap[b]?) : OwnP w' lo hi g m k fs := by
  obtain ⟨h1, h2, F, bs, hr, he, hd⟩ := h
  refine ⟨h1, h2, F, bs, World.rowIs.of_block hr (hk g h1 h2), fun j hj => ?_, hd⟩
  obtain ⟨e0, e1⟩ := he j hj
  exact ⟨e0, e1.keep fun a b _ => hk _ a b⟩
/-- A list of the call's own that lies below block hi, whatever is made later. -/
def PX (w : World) (lo hi g m : Nat) (fs : FL) : Prop := OwnP w lo hi g m fs.length fs ∧ hi ≤ w.heap.size ∧ fs.length * 2 ≤ m
theorem PX.step {w w' : World} {lo hi g m : Nat} {fs : FL} (h : PX w lo hi g m fs) (b : Below w.heap.size w w') : PX w' lo hi g m fs :=
  ⟨h.1.keep fun q _ hq => b.block q (by have := h.2.1; omega), Nat.le_trans h.2.1 b.size, h.2.2⟩
theorem PX.keep {w w' : World} {lo hi g m : Nat} {fs : FL} (h : PX w lo hi g m fs) (hk : ∀ b, lo ≤ b → b < hi → w'.heap[b]? = w.heap[b]?) (hs : w.heap.size ≤ w'.heap.size) : PX w' lo hi g m fs :=
  ⟨h.1.keep hk, Nat.le_trans h.2.1 hs, h.2.2⟩
theorem PX.rf {w : World} {lo hi g m : Nat} {fs : FL} (h : PX w lo hi g m fs) : RF w (some ⟨g, 0, none⟩) fs := (h.1.facts h.2.2).mono (Nat.zero_le _) h.2.1
theorem Row.step {w w' : World} {g : Nat} {xs : List Int} (h : Row w g xs) (b : Below w.heap.size w w') : Row w' g xs := h.of_block (b.block _ (World.rowIs.lt h))

theorem addF_pos (l : FL) (r : Int) (xs : List Int) : 0 < (addF l r xs).length := by
  unfold addF
  split
  · rename_i h
    rcases l with _ | ⟨g, t⟩
    · cases h
    · simp
  · cases l with
    | nil => simp [addI]
    | cons g t => rw [addI]; split <;> simp
def AddP (w : World) (res : FL) (e : Ending) (w' : World) : Prop :=
  ∃ g cap, e = .returned (.slice (some ⟨g, 0, none⟩) res.length cap) ∧ PX w' w.heap.size w'.heap.size g (cap * 2) res ∧ Below w.heap.size w w'
theorem AddOut.toP {w : World} {l : FL} {r : Int} {xs : List Int} {e : Ending} {w' : World} (h : AddOut w (addF l r xs) e w') : AddP w (addF l r xs) e w' := by
  obtain ⟨A, c, cs, bs, he, ho, hb⟩ := h
  obtain ⟨g, cap, hv, _, _⟩ := ho.1.form (addF_pos l r xs)
  injection hv with e1 e2 e3
  subst e1 e3
  obtain ⟨_, hc, hp⟩ := ho.to_P
  exact ⟨g, c, he, ⟨hp, Nat.le_refl _, by omega⟩, hb⟩
theorem szF_elem_b {l : FL} (h : szF l ≤ 1048577) {k : Nat} (hk : k < l.length) : (l.getD k (0, [])).2.length ≤ 2097152 := by
  have h1 := sumN_take l k hk
  have h2 := sumN_le l (k + 1)
  unfold szF at h
  omega
end Go.Proofs.Ytimlpdcambmcjaa
