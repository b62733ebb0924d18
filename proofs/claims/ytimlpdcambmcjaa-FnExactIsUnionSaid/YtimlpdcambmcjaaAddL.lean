/- Lists of facts of the call's own that grow by append. Conditions: none beyond each theorem's own. -/
import Derived.Test.YtimlpdcambmcjaaClone
namespace Go.Proofs.Ytimlpdcambmcjaa
open Go.ChangeShapes Go.WideShapes Go.ChangeAt Go.RowKit Go.Sort
set_option linter.unusedVariables false
set_option linter.unusedSimpArgs false

/-- The cells cs are the facts fs, their numbers each in a block of its own from lo to below hi. -/
def Items (w : World) (lo hi : Nat) (fs : FL) (cs : List Value) (bs : Nat → Nat) : Prop :=
  cs.length = fs.length * 2 ∧ (∀ k, k < fs.length → cs[k * 2]? = some (.int .i64 (fs.getD k (0, [])).1) ∧ ∃ v1, cs[k * 2 + 1]? = some v1 ∧ OwnV w lo hi v1 (bs k) (fs.getD k (0, [])).2) ∧
    (∀ i j, i < j → j < fs.length → 0 < (fs.getD i (0, [])).2.length → 0 < (fs.getD j (0, [])).2.length → bs i ≠ bs j)
/-- The slice value v owns a row that is the facts fs. -/
def OwnC (w : World) (lo hi : Nat) (v : Value) (fs : FL) (cs : List Value) (bs : Nat → Nat) : Prop := w.ownsRow lo 73 2 v fs.length cs ∧ Items w lo hi fs cs bs

theorem OwnV.keep_len {w w' : World} {lo hi q : Nat} {v : Value} {xs : List Int} (h : OwnV w lo hi v q xs) (hk : 0 < xs.length → lo ≤ q → q < hi → w'.heap[q]? = w.heap[q]?) : OwnV w' lo hi v q xs := by
  obtain ⟨A, c, e, hc, hm, hx⟩ := h
  exact ⟨A, c, e, hc, hm, fun hp => by
    obtain ⟨a, b, d, m, F, h1, h2, h3⟩ := hx hp
    exact ⟨a, b, d, m, F, h1, World.rowIs.of_block h2 (hk hp b d), h3⟩⟩
theorem Items.keep {w w' : World} {lo hi : Nat} {fs : FL} {cs : List Value} {bs : Nat → Nat} (h : Items w lo hi fs cs bs) (hk : ∀ q, lo ≤ q → q < hi → (∃ c, w.heap[q]? = some (.cells c 3 (0, 0))) → w'.heap[q]? = w.heap[q]?) : Items w' lo hi fs cs bs := by
  obtain ⟨h1, h2, h3⟩ := h
  refine ⟨h1, fun k hkl => ?_, h3⟩
  obtain ⟨e0, v1, e1, hv⟩ := h2 k hkl
  exact ⟨e0, v1, e1, hv.keep (hk _)⟩
theorem Items.mono {w : World} {lo hi lo' hi' : Nat} {fs : FL} {cs : List Value} {bs : Nat → Nat} (h : Items w lo hi fs cs bs) (a : lo' ≤ lo) (b : hi ≤ hi') : Items w lo' hi' fs cs bs := by
  obtain ⟨h1, h2, h3⟩ := h
  refine ⟨h1, fun k hkl => ?_, h3⟩
  obtain ⟨e0, v1, e1, hv⟩ := h2 k hkl
  exact ⟨e0, v1, e1, hv.mono a b⟩
theorem OwnV.rng {w : World} {lo hi q : Nat} {v : Value} {xs : List Int} (h : OwnV w lo hi v q xs) (hp : 0 < xs.length) : lo ≤ q ∧ q < hi := by
  obtain ⟨_, _, _, _, _, hx⟩ := h
  obtain ⟨_, a, b, _⟩ := hx hp
  exact ⟨a, b⟩
theorem Items.rng {w : World} {lo hi : Nat} {fs : FL} {cs : List Value} {bs : Nat → Nat} (h : Items w lo hi fs cs bs) {k : Nat} (hk : k < fs.length) (hp : 0 < (fs.getD k (0, [])).2.length) : lo ≤ bs k ∧ bs k < hi := by
  obtain ⟨_, v1, _, hv⟩ := h.2.1 k hk
  exact hv.rng hp
theorem getD_left (fs gs : FL) {k : Nat} (hk : k < fs.length) : (fs ++ gs).getD k (0, []) = fs.getD k (0, []) := by
  simp [List.getD_eq_getElem?_getD, List.getElem?_append_left hk]
theorem getD_right (fs gs : FL) {k : Nat} (hk : fs.length ≤ k) : (fs ++ gs).getD k (0, []) = gs.getD (k - fs.length) (0, []) := by
  simp [List.getD_eq_getElem?_getD, List.getElem?_append_right hk]
theorem Items.append {w : World} {lo mid hi : Nat} {fs gs : FL} {cs ds : List Value} {bs bs' : Nat → Nat} (h : Items w lo mid fs cs bs) (h' : Items w mid hi gs ds bs') (a : lo ≤ mid) (b : mid ≤ hi) :
    Items w lo hi (fs ++ gs) (cs ++ ds) (fun k => if k < fs.length then bs k else bs' (k - fs.length)) := by
  have H := h
  have H' := h'
  obtain ⟨h1, h2, h3⟩ := h
  obtain ⟨g1, g2, g3⟩ := h'
  refine ⟨by simp only [List.length_append, h1, g1]; omega, fun k hk => ?_, fun i j hij hj hi0 hj0 => ?_⟩
  · by_cases hkl : k < fs.length
    · simp only [if_pos hkl]
      rw [getD_left fs gs hkl, List.getElem?_append_left (by omega), List.getElem?_append_left (by omega)]
      obtain ⟨e0, v1, e1, hv⟩ := h2 k hkl
      exact ⟨e0, v1, e1, hv.mono (Nat.le_refl _) b⟩
    · rw [List.length_append] at hk
      simp only [if_neg hkl]
      rw [getD_right fs gs (by omega), List.getElem?_append_right (by omega), List.getElem?_append_right (by omega), h1,
        show k * 2 - fs.length * 2 = (k - fs.length) * 2 by omega, show k * 2 + 1 - fs.length * 2 = (k - fs.length) * 2 + 1 by omega]
      obtain ⟨e0, v1, e1, hv⟩ := g2 (k - fs.length) (by omega)
      exact ⟨e0, v1, e1, hv.mono a (Nat.le_refl _)⟩
  · rw [List.length_append] at hj
    by_cases hjl : j < fs.length
    · have hil : i < fs.length := by omega
      rw [getD_left fs gs hjl] at hj0
      rw [getD_left fs gs hil] at hi0
      simp only [if_pos hjl, if_pos hil]
      exact h3 i j hij hjl hi0 hj0
    · rw [getD_right fs gs (by omega)] at hj0
      by_cases hil : i < fs.length
      · rw [getD_left fs gs hil] at hi0
        simp only [if_neg hjl, if_pos hil]
        have r1 := H.rng hil hi0
        have r2 := H'.rng (show j - fs.length < gs.length by omega) hj0
        omega
      · rw [getD_right fs gs (by omega)] at hi0
        simp only [if_neg hjl, if_neg hil]
        exact g3 (i - fs.length) (j - fs.length) (by omega) (by omega) hi0 hj0
theorem Items.one {w : World} {lo hi q : Nat} {r : Int} {xs : List Int} {v : Value} (h : OwnV w lo hi v q xs) : Items w lo hi [(r, xs)] [.int .i64 r, v] (fun _ => q) := by
  refine ⟨rfl, fun k hk => ?_, fun i j hij hj => ?_⟩
  · have : k = 0 := by simpa using hk
    subst this
    exact ⟨rfl, v, rfl, h⟩
  · simp at hj; omega
theorem Items.nil (w : World) (lo hi : Nat) : Items w lo hi [] [] (fun _ => 0) := ⟨rfl, fun k hk => by simp at hk, fun i j _ hj => by simp at hj⟩

theorem own_none {w w' : World} (b : Below w.heap.size w w') : w.grownBy w' none := ⟨b.os, b.tape, b.output, b.size, fun k hk _ => b.block k hk⟩
theorem OwnC.step {w w' : World} {lo : Nat} {v : Value} {fs : FL} {cs : List Value} {bs : Nat → Nat} (h : OwnC w lo w.heap.size v fs cs bs) (b : Below w.heap.size w w') : OwnC w' lo w'.heap.size v fs cs bs :=
  ⟨h.1.kept (own_none b) (by rcases hv : v.ownBlock with _ | g <;> simp), (h.2.keep fun q _ h2 _ => b.block q h2).mono (Nat.le_refl _) b.size⟩
theorem OwnC.cur {w w' : World} {lo hi : Nat} {v : Value} {fs : FL} {cs : List Value} {bs : Nat → Nat} (h : OwnC w lo hi v fs cs bs) (hhi : hi ≤ w.heap.size) (b : Below w.heap.size w w') : OwnC w' lo hi v fs cs bs :=
  ⟨h.1.kept (own_none b) (by rcases hv : v.ownBlock with _ | g <;> simp), h.2.keep fun q _ h2 _ => b.block q (by omega)⟩
theorem OwnC.lo {w : World} {lo lo' hi : Nat} {v : Value} {fs : FL} {cs : List Value} {bs : Nat → Nat} (h : OwnC w lo hi v fs cs bs) (a : lo' ≤ lo) : OwnC w lo' hi v fs cs bs := by
  obtain ⟨⟨h1, h2⟩, h3⟩ := h
  refine ⟨⟨h1, ?_⟩, h3.mono a (Nat.le_refl _)⟩
  rcases h2 with h2 | ⟨g, cap, cur, hv, hb, hr⟩
  · exact .inl h2
  · exact .inr ⟨g, cap, cur, hv, Nat.le_trans a hb, hr⟩

/-- Behind an append: the row is longer, all numbers are where they were. -/
theorem own_append {w w' : World} {lo mid : Nat} {v v' : Value} {fs gs : FL} {cs ds : List Value} {bs bs' : Nat → Nat} (h : OwnC w lo mid v fs cs bs) (h' : Items w mid w.heap.size gs ds bs') (a : lo ≤ mid) (b : mid ≤ w.heap.size)
    (hown : w'.ownsRow lo 73 2 v' (fs.length + gs.length) (cs ++ ds)) (hg : w.grownBy w' v.ownBlock) : ∃ bs2, OwnC w' lo w'.heap.size v' (fs ++ gs) (cs ++ ds) bs2 := by
  have hI := h.2.append h' a b
  refine ⟨_, by rw [List.length_append]; exact hown, (hI.keep fun q _ hq ⟨c, hc⟩ => hg.block q hq fun e => ?_).mono (Nat.le_refl _) hg.size⟩
  rcases h.1.2 with ⟨rfl, _⟩ | ⟨g, cap, cur, rfl, _, hh, _⟩
  · simp [Value.ownBlock] at e
  · have : g = q := own_some e.symm
    subst this
    rw [hc] at hh
    injection hh with hh
    injection hh with _ ht
    exact absurd ht (by decide)

/-- A row that was made in full. -/
theorem OwnC.of_P {w : World} {lo g : Nat} {fs : FL} (h : OwnP w lo w.heap.size g (fs.length * 2) fs.length fs) (hl : fs.length ≤ 1048576) : ∃ cs bs, OwnC w lo w.heap.size (.slice (some ⟨g, 0, none⟩) fs.length fs.length) fs cs bs := by
  obtain ⟨h1, h2, F, bs, hr, he, hd⟩ := h
  obtain ⟨c, hc, hcs, hF⟩ := hr
  refine ⟨c.toList, bs, ⟨by simpa using hcs, .inr ⟨g, fs.length, c, rfl, h1, hc, Nat.le_refl _, by unfold maxLen; omega, hcs, ?_⟩⟩, by simpa using hcs, fun k hk => ?_, hd⟩
  · rw [List.take_of_length_le (by simp [hcs])]
  · obtain ⟨e0, e1⟩ := he k hk
    refine ⟨?_, F (k * 2 + 1), ?_, e1⟩
    · rw [Array.getElem?_toList, hF _ (by omega), e0]
    · rw [Array.getElem?_toList, hF _ (by omega)]
theorem OwnC.to_P {w : World} {lo g n cap : Nat} {fs : FL} {cs : List Value} {bs : Nat → Nat} (h : OwnC w lo w.heap.size (.slice (some ⟨g, 0, none⟩) n cap) fs cs bs) : n = fs.length ∧ n ≤ cap ∧ OwnP w lo w.heap.size g (cap * 2) fs.length fs := by
  obtain ⟨⟨hl, h⟩, h1, h2, h3⟩ := h
  rcases h with ⟨h, _⟩ | ⟨g', cap', cur, hv, hb, hg, hnc, hcm, hcs, htk⟩
  · cases h
  · injection hv with e1 e2 e3
    injection e1 with e1
    injection e1 with e1
    subst e1 e3
    have hlt : g < w.heap.size := by
      rcases Nat.lt_or_ge g w.heap.size with hlt | hge
      · exact hlt
      · rw [Array.getElem?_eq_none hge] at hg; cases hg
    have at_ : ∀ i u, cs[i]? = some u → cur.getD i undef = u := fun i u hu => by
      have hi : i < fs.length * 2 := by have := (List.getElem?_eq_some_iff.1 hu).1; omega
      rw [← htk, List.getElem?_take_of_lt hi, Array.getElem?_toList] at hu
      simp [Array.getD_eq_getD_getElem?, hu]
    refine ⟨e2, by omega, hb, hlt, fun i => cur.getD i undef, bs, ⟨cur, hg, hcs, fun i hi => by simp [Array.getD_eq_getD_getElem?, show i < cur.size by omega]⟩, fun j hj => ?_, h3⟩
    obtain ⟨e0, v1, e1, hv⟩ := h2 j hj
    exact ⟨at_ _ _ e0, by show OwnV w lo w.heap.size (cur.getD (j * 2 + 1) undef) (bs j) _; rw [at_ _ _ e1]; exact hv⟩
theorem OwnC.form {w : World} {lo hi : Nat} {v : Value} {fs : FL} {cs : List Value} {bs : Nat → Nat} (h : OwnC w lo hi v fs cs bs) : ∃ A c, v = .slice A fs.length c := by
  rcases h.1.2 with ⟨rfl, h0⟩ | ⟨g, cap, _, rfl, _⟩
  · exact ⟨none, 0, by rw [h0]⟩
  · exact ⟨_, _, rfl⟩
theorem OwnC.rf {w : World} {lo n c : Nat} {A : Option Addr} {fs : FL} {cs : List Value} {bs : Nat → Nat} (h : OwnC w lo w.heap.size (.slice A n c) fs cs bs) : RF w A fs := by
  rcases A with _ | ⟨g, off, spot⟩
  · intro hne
    rcases h.1.2 with ⟨_, h0⟩ | ⟨g, cap, _, hv, _⟩
    · exact absurd (List.eq_nil_of_length_eq_zero h0) hne
    · cases hv
  · have hg : off = 0 ∧ spot = none := by
      rcases h.1.2 with ⟨hv, _⟩ | ⟨g', cap, _, hv, _⟩
      · cases hv
      · injection hv with e1
        injection e1 with e1
        injection e1 with _ e2 e3
        exact ⟨e2, e3⟩
    obtain ⟨rfl, rfl⟩ := hg
    obtain ⟨e, hc, hp⟩ := h.to_P
    exact hp.rf (by omega)
end Go.Proofs.Ytimlpdcambmcjaa
