/- Lists of facts of the call's own that grow by append. Conditions: none beyond each theorem's own. -/
import Derived.Test.YtimlpdcambmcjaaDoorClone
namespace Go.Proofs.YtimlpdcambmcjaaDoor
open Go.ChangeShapes Go.WideShapes Go.ChangeAt Go.RowKit Go.Sort
set_option linter.unusedVariables false
set_option linter.unusedSimpArgs false

/-- The cells cs are the facts fs, their numbers each in a block of its own from lo to below hi. -/
def Items (w : World) (lo hi : Nat) (fs : FL) (cs : List Value) (bs : Nat → Nat) : Prop :=
  cs.length = fs.length * 2 ∧ (∀ k, k < fs.length → cs[k * 2]? = some (.int .i64 (fs.getD k (0, [])).1) ∧ ∃ v1, cs[k * 2 + 1]? = some v1 ∧ OwnV w lo hi v1 (bs k) (fs.getD k (0, [])).2) ∧
    (∀ i j, i < j → j < fs.length → 0 < (fs.getD i (0, [])).2.length → 0 < (fs.getD j (0, [])).2.length → bs i ≠ bs j)
theorem OwnV.keep_len {w w' : World} {lo hi q : Nat} {v : Value} {xs : List Int} (h : OwnV w lo hi v q xs) (hk : 0 < xs.length → lo ≤ q → q < hi → w'.heap[q]? = w.heap[q]?) : OwnV w' lo hi v q xs := by
  obtain ⟨A, c, e, hc, hm, hx⟩ := h
  exact ⟨A, c, e, hc, hm, fun hp => by
    obtain ⟨a, b, d, m, F, h1, h2, h3⟩ := hx hp
    exact ⟨a, b, d, m, F, h1, World.rowIs.of_block h2 (hk hp b d), h3⟩⟩
theorem Items.keep {w w' : World} {lo hi : Nat} {fs : FL} {cs : List Value} {bs : Nat → Nat} (h : Items w lo hi fs cs bs) (hk : ∀ q, lo ≤ q → q < hi → (∃ c, w.heap[q]? = some (.cells c 3 (0, 0))) → w'.heap[q]? = w.heap[q]?) : Items w' lo hi fs cs bs := by
  obtain ⟨h1, h2, h3⟩ := h
  refine ⟨h1, fun k hkl => ?_, h3⟩
  obtain ⟨e0, v1, e1, hv⟩ := h2 k hkl
  exact ⟨e0, v1, e1, hv.keep (hk _)⟩
theorem Items.mono {w : World} {lo hi lo' hi' : Nat} {fs : FL} {cs : List Value} {bs : Nat → Nat} (h : Items w lo hi fs cs bs) (a : lo' ≤ lo) (b : hi ≤ hi') : Items w lo' hi' fs cs bs := by
  obtain ⟨h1, h2, h3⟩ := h
  refine ⟨h1, fun k hkl => ?_, h3⟩
  obtain ⟨e0, v1, e1, hv⟩ := h2 k hkl
  exact ⟨e0, v1, e1, hv.mono a b⟩
theorem OwnV.rng {w : World} {lo hi q : Nat} {v : Value} {xs : List Int} (h : OwnV w lo hi v q xs) (hp : 0 < xs.length) : lo ≤ q ∧ q < hi := by
  obtain ⟨_, _, _, _, _, hx⟩ := h
  obtain ⟨_, a, b, _⟩ := hx hp
  exact ⟨a, b⟩
theorem Items.rng {w : World} {lo hi : Nat} {fs : FL} {cs : List Value} {bs : Nat → Nat} (h : Items w lo hi fs cs bs) {k : Nat} (hk : k < fs.length) (hp : 0 < (fs.getD k (0, [])).2.length) : lo ≤ bs k ∧ bs k < hi := by
  obtain ⟨_, v1, _, hv⟩ := h.2.1 k hk
  exact hv.rng hp
theorem getD_left (fs gs : FL) {k : Nat} (hk : k < fs.length) : (fs ++ gs).getD k (0, []) = fs.getD k (0, []) := by
  simp [List.getD_eq_getElem?_getD, List.getElem?_append_left hk]
theorem getD_right (fs gs : FL) {k : Nat} (hk : fs.length ≤ k) : (fs ++ gs).getD k (0, []) = gs.getD (k - fs.length) (0, []) := by
  simp [List.getD_eq_getElem?_getD, List.getElem?_append_right hk]
theorem Items.append {w : World} {lo mid hi : Nat} {fs gs : FL} {cs ds : List Value} {bs bs' : Nat → Nat} (h : Items w lo mid fs cs bs) (h' : Items w mid hi gs ds bs') (a : lo ≤ mid) (b : mid ≤ hi) :
    Items w lo hi (fs ++ gs) (cs ++ ds) (fun k => if k < fs.length then bs k else bs' (k - fs.length)) := by
  have H := h
  have H' := h'
  obtain ⟨h1, h2, h3⟩ := h
  obtain ⟨g1, g2, g3⟩ := h'
  refine ⟨by simp only [List.length_append, h1, g1]; omega, fun k hk => ?_, fun i j hij hj hi0 hj0 => ?_⟩
  · by_cases hkl : k < fs.length
    · simp only [if_pos hkl]
      rw [getD_left fs gs hkl, List.getElem?_append_left (by omega), List.getElem?_append_left (by omega)]
      obtain ⟨e0, v1, e1, hv⟩ := h2 k hkl
      exact ⟨e0, v1, e1, hv.mono (Nat.le_refl _) b⟩
    · rw [List.length_append] at hk
      simp only [if_neg hkl]
      rw [getD_right fs gs (by omega), List.getElem?_append_right (by omega), List.getElem?_append_right (by omega), h1,
        show k * 2 - fs.length * 2 = (k - fs.length) * 2 by omega, show k * 2 + 1 - fs.length * 2 = (k - fs.length) * 2 + 1 by omega]
      obtain ⟨e0, v1, e1, hv⟩ := g2 (k - fs.length) (by omega)
      exact ⟨e0, v1, e1, hv.mono a (Nat.le_refl _)⟩
  · rw [List.length_append] at hj
    by_cases hjl : j < fs.length
    · have hil : i < fs.length := by omega
      rw [getD_left fs gs hjl] at hj0
      rw [getD_left fs gs hil] at hi0
      simp only [if_pos hjl, if_pos hil]
      exact h3 i j hij hjl hi0 hj0
    · rw [getD_right fs gs (by omega)] at hj0
      by_cases hil : i < fs.length
      · rw [getD_left fs gs hil] at hi0
        simp only [if_neg hjl, if_pos hil]
        have r1 := H.rng hil hi0
        have r2 := H'.rng (show j - fs.length < gs.length by omega) hj0
        omega
      · rw [getD_right fs gs (by omega)] at hi0
        simp only [if_neg hjl, if_neg hil]
        exact g3 (i - fs.length) (j - fs.length) (by omega) (by omega) hi0 hj0
theorem Items.one {w : World} {lo hi q : Nat} {r : Int} {xs : List Int} {v : Value} (h : OwnV w lo hi v q xs) : Items w lo hi [(r, xs)] [.int .i64 r, v] (fun _ => q) := by
  refine ⟨rfl, fun k hk => ?_, fun i j hij hj => ?_⟩
  · have : k = 0 := by simpa using hk
    subst this
    exact ⟨rfl, v, rfl, h⟩
  · simp at hj; omega
theorem Items.nil (w : World) (lo hi : Nat) : Items w lo hi [] [] (fun _ => 0) := ⟨rfl, fun k hk => by simp at hk, fun i j _ hj => by simp at hj⟩

theorem own_none {w w' : World} (b : Below w.heap.size w w') : w.grownBy w' none := ⟨b.os, b.tape, b.output, b.size, fun k hk _ => b.block k hk⟩
end Go.Proofs.YtimlpdcambmcjaaDoor
