/- Lists of facts of the call's own that grow by append. Conditions: none beyond each theorem's own. Where a fact is inserted. Conditions: none beyond each theorem's own. Where one more item stands: plain lists, and what owns them. Conditions: none beyond each theorem's own. A matching in memory: its map, its list of added variables, and one term against one value. Conditions: none beyond each theorem's own. -/
import Derived.Test.YtimlpdcambmcjaaGreatS4
import Derived.Test.YtimlpdcambmcjaaGreatS3
import Derived.Maps.OwnSet

namespace Go.Proofs.YtimlpdcambmcjaaGreat
open Go.ChangeShapes Go.WideShapes Go.ChangeAt Go.RowKit Go.Sort
set_option linter.unusedVariables false
set_option linter.unusedSimpArgs false

/-- The cells cs are the facts fs, their numbers each in a block of its own from lo to below hi. -/
def Items (w : World) (lo hi : Nat) (fs : FL) (cs : List Value) (bs : Nat → Nat) : Prop :=
  cs.length = fs.length * 2 ∧ (∀ k, k < fs.length → cs[k * 2]? = some (.int .i64 (fs.getD k (0, [])).1) ∧ ∃ v1, cs[k * 2 + 1]? = some v1 ∧ OwnV w lo hi v1 (bs k) (fs.getD k (0, [])).2) ∧
    (∀ i j, i < j → j < fs.length → 0 < (fs.getD i (0, [])).2.length → 0 < (fs.getD j (0, [])).2.length → bs i ≠ bs j)
/-- The slice value v owns a row that is the facts fs. -/
def OwnC (w : World) (lo hi : Nat) (v : Value) (fs : FL) (cs : List Value) (bs : Nat → Nat) : Prop := w.ownsRow lo 77 2 v fs.length cs ∧ Items w lo hi fs cs bs

theorem OwnV.keep_len {w w' : World} {lo hi q : Nat} {v : Value} {xs : List Int} (h : OwnV w lo hi v q xs) (hk : 0 < xs.length → lo ≤ q → q < hi → w'.heap[q]? = w.heap[q]?) : OwnV w' lo hi v q xs := by
  obtain ⟨A, c, e, hc, hm, hx⟩ := h
  exact ⟨A, c, e, hc, hm, fun hp => by
    obtain ⟨a, b, d, m, F, h1, h2, h3⟩ := hx hp
    exact ⟨a, b, d, m, F, h1, World.rowIs.of_block h2 (hk hp b d), h3⟩⟩
theorem Items.keep {w w' : World} {lo hi : Nat} {fs : FL} {cs : List Value} {bs : Nat → Nat} (h : Items w lo hi fs cs bs) (hk : ∀ q, lo ≤ q → q < hi → (∃ c, w.heap[q]? = some (.cells c 3 (0, 0))) → w'.heap[q]? = w.heap[q]?) : Items w' lo hi fs cs bs := by
  obtain ⟨h1, h2, h3⟩ := h
  refine ⟨h1, fun k hkl => ?_, h3⟩
  obtain ⟨e0, v1, e1, hv⟩ := h2 k hkl
  exact ⟨e0, v1, e1, hv.keep (hk _)⟩
theorem Items.mono {w : World} {lo hi lo' hi' : Nat} {fs : FL} {cs : List Value} {bs : Nat → Nat} (h : Items w lo hi fs cs bs) (a : lo' ≤ lo) (b : hi ≤ hi') : Items w lo' hi' fs cs bs := by
  obtain ⟨h1, h2, h3⟩ := h
  refine ⟨h1, fun k hkl => ?_, h3⟩
  obtain ⟨e0, v1, e1, hv⟩ := h2 k hkl
  exact ⟨e0, v1, e1, hv.mono a b⟩
theorem OwnV.rng {w : World} {lo hi q : Nat} {v : Value} {xs : List Int} (h : OwnV w lo hi v q xs) (hp : 0 < xs.length) : lo ≤ q ∧ q < hi := by
  obtain ⟨_, _, _, _, _, hx⟩ := h
  obtain ⟨_, a, b, _⟩ := hx hp
  exact ⟨a, b⟩
theorem Items.rng {w : World} {lo hi : Nat} {fs : FL} {cs : List Value} {bs : Nat → Nat} (h : Items w lo hi fs cs bs) {k : Nat} (hk : k < fs.length) (hp : 0 < (fs.getD k (0, [])).2.length) : lo ≤ bs k ∧ bs k < hi := by
  obtain ⟨_, v1, _, hv⟩ := h.2.1 k hk
  exact hv.rng hp
theorem getD_left (fs gs : FL) {k : Nat} (hk : k < fs.length) : (fs ++ gs).getD k (0, []) = fs.getD k (0, []) := by
  simp [List.getD_eq_getElem?_getD, List.getElem?_append_left hk]
theorem getD_right (fs gs : FL) {k : Nat} (hk : fs.length ≤ k) : (fs ++ gs).getD k (0, []) = gs.getD (k - fs.length) (0, []) := by
  simp [List.getD_eq_getElem?_getD, List.getElem?_append_right hk]
theorem Items.append {w : World} {lo mid hi : Nat} {fs gs : FL} {cs ds : List Value} {bs bs' : Nat → Nat} (h : Items w lo mid fs cs bs) (h' : Items w mid hi gs ds bs') (a : lo ≤ mid) (b : mid ≤ hi) :
    Items w lo hi (fs ++ gs) (cs ++ ds) (fun k => if k < fs.length then bs k else bs' (k - fs.length)) := by
  have H := h
  have H' := h'
  obtain ⟨h1, h2, h3⟩ := h
  obtain ⟨g1, g2, g3⟩ := h'
  refine ⟨by simp only [List.length_append, h1, g1]; omega, fun k hk => ?_, fun i j hij hj hi0 hj0 => ?_⟩
  · by_cases hkl : k < fs.length
    · simp only [if_pos hkl]
      rw [getD_left fs gs hkl, List.getElem?_append_left (by omega), List.getElem?_append_left (by omega)]
      obtain ⟨e0, v1, e1, hv⟩ := h2 k hkl
      exact ⟨e0, v1, e1, hv.mono (Nat.le_refl _) b⟩
    · rw [List.length_append] at hk
      simp only [if_neg hkl]
      rw [getD_right fs gs (by omega), List.getElem?_append_right (by omega), List.getElem?_append_right (by omega), h1,
        show k * 2 - fs.length * 2 = (k - fs.length) * 2 by omega, show k * 2 + 1 - fs.length * 2 = (k - fs.length) * 2 + 1 by omega]
      obtain ⟨e0, v1, e1, hv⟩ := g2 (k - fs.length) (by omega)
      exact ⟨e0, v1, e1, hv.mono a (Nat.le_refl _)⟩
  · rw [List.length_append] at hj
    by_cases hjl : j < fs.length
    · have hil : i < fs.length := by omega
      rw [getD_left fs gs hjl] at hj0
      rw [getD_left fs gs hil] at hi0
      simp only [if_pos hjl, if_pos hil]
      exact h3 i j hij hjl hi0 hj0
    · rw [getD_right fs gs (by omega)] at hj0
      by_cases hil : i < fs.length
      · rw [getD_left fs gs hil] at hi0
        simp only [if_neg hjl, if_pos hil]
        have r1 := H.rng hil hi0
        have r2 := H'.rng (show j - fs.length < gs.length by omega) hj0
        omega
      · rw [getD_right fs gs (by omega)] at hi0
        simp only [if_neg hjl, if_neg hil]
        exact g3 (i - fs.length) (j - fs.length) (by omega) (by omega) hi0 hj0
theorem Items.one {w : World} {lo hi q : Nat} {r : Int} {xs : List Int} {v : Value} (h : OwnV w lo hi v q xs) : Items w lo hi [(r, xs)] [.int .i64 r, v] (fun _ => q) := by
  refine ⟨rfl, fun k hk => ?_, fun i j hij hj => ?_⟩
  · have : k = 0 := by simpa using hk
    subst this
    exact ⟨rfl, v, rfl, h⟩
  · simp at hj; omega
theorem Items.nil (w : World) (lo hi : Nat) : Items w lo hi [] [] (fun _ => 0) := ⟨rfl, fun k hk => by simp at hk, fun i j _ hj => by simp at hj⟩

theorem own_none {w w' : World} (b : Below w.heap.size w w') : w.grownBy w' none := ⟨b.os, b.tape, b.output, b.size, fun k hk _ => b.block k hk⟩
theorem OwnC.step {w w' : World} {lo : Nat} {v : Value} {fs : FL} {cs : List Value} {bs : Nat → Nat} (h : OwnC w lo w.heap.size v fs cs bs) (b : Below w.heap.size w w') : OwnC w' lo w'.heap.size v fs cs bs :=
  ⟨h.1.kept (own_none b) (by rcases hv : v.ownBlock with _ | g <;> simp), (h.2.keep fun q _ h2 _ => b.block q h2).mono (Nat.le_refl _) b.size⟩
theorem OwnC.cur {w w' : World} {lo hi : Nat} {v : Value} {fs : FL} {cs : List Value} {bs : Nat → Nat} (h : OwnC w lo hi v fs cs bs) (hhi : hi ≤ w.heap.size) (b : Below w.heap.size w w') : OwnC w' lo hi v fs cs bs :=
  ⟨h.1.kept (own_none b) (by rcases hv : v.ownBlock with _ | g <;> simp), h.2.keep fun q _ h2 _ => b.block q (by omega)⟩
theorem OwnC.lo {w : World} {lo lo' hi : Nat} {v : Value} {fs : FL} {cs : List Value} {bs : Nat → Nat} (h : OwnC w lo hi v fs cs bs) (a : lo' ≤ lo) : OwnC w lo' hi v fs cs bs := by
  obtain ⟨⟨h1, h2⟩, h3⟩ := h
  refine ⟨⟨h1, ?_⟩, h3.mono a (Nat.le_refl _)⟩
  rcases h2 with h2 | ⟨g, cap, cur, hv, hb, hr⟩
  · exact .inl h2
  · exact .inr ⟨g, cap, cur, hv, Nat.le_trans a hb, hr⟩

/-- Behind an append: the row is longer, all numbers are where they were. -/
theorem own_append {w w' : World} {lo mid : Nat} {v v' : Value} {fs gs : FL} {cs ds : List Value} {bs bs' : Nat → Nat} (h : OwnC w lo mid v fs cs bs) (h' : Items w mid w.heap.size gs ds bs') (a : lo ≤ mid) (b : mid ≤ w.heap.size)
    (hown : w'.ownsRow lo 77 2 v' (fs.length + gs.length) (cs ++ ds)) (hg : w.grownBy w' v.ownBlock) : ∃ bs2, OwnC w' lo w'.heap.size v' (fs ++ gs) (cs ++ ds) bs2 := by
  have hI := h.2.append h' a b
  refine ⟨_, by rw [List.length_append]; exact hown, (hI.keep fun q _ hq ⟨c, hc⟩ => hg.block q hq fun e => ?_).mono (Nat.le_refl _) hg.size⟩
  rcases h.1.2 with ⟨rfl, _⟩ | ⟨g, cap, cur, rfl, _, hh, _⟩
  · simp [Value.ownBlock] at e
  · have : g = q := own_some e.symm
    subst this
    rw [hc] at hh
    injection hh with hh
    injection hh with _ ht
    exact absurd ht (by decide)

/-- A row that was made in full. -/
theorem OwnC.of_P {w : World} {lo g : Nat} {fs : FL} (h : OwnP w lo w.heap.size g (fs.length * 2) fs.length fs) (hl : fs.length ≤ 1048576) : ∃ cs bs, OwnC w lo w.heap.size (.slice (some ⟨g, 0, none⟩) fs.length fs.length) fs cs bs := by
  obtain ⟨h1, h2, F, bs, hr, he, hd⟩ := h
  obtain ⟨c, hc, hcs, hF⟩ := hr
  refine ⟨c.toList, bs, ⟨by simpa using hcs, .inr ⟨g, fs.length, c, rfl, h1, hc, Nat.le_refl _, by unfold maxLen; omega, hcs, ?_⟩⟩, by simpa using hcs, fun k hk => ?_, hd⟩
  · rw [List.take_of_length_le (by simp [hcs])]
  · obtain ⟨e0, e1⟩ := he k hk
    refine ⟨?_, F (k * 2 + 1), ?_, e1⟩
    · rw [Array.getElem?_toList, hF _ (by omega), e0]
    · rw [Array.getElem?_toList, hF _ (by omega)]
theorem OwnC.to_P {w : World} {lo g n cap : Nat} {fs : FL} {cs : List Value} {bs : Nat → Nat} (h : OwnC w lo w.heap.size (.slice (some ⟨g, 0, none⟩) n cap) fs cs bs) : n = fs.length ∧ n ≤ cap ∧ OwnP w lo w.heap.size g (cap * 2) fs.length fs := by
  obtain ⟨⟨hl, h⟩, h1, h2, h3⟩ := h
  rcases h with ⟨h, _⟩ | ⟨g', cap', cur, hv, hb, hg, hnc, hcm, hcs, htk⟩
  · cases h
  · injection hv with e1 e2 e3
    injection e1 with e1
    injection e1 with e1
    subst e1 e3
    have hlt : g < w.heap.size := by
      rcases Nat.lt_or_ge g w.heap.size with hlt | hge
      · exact hlt
      · rw [Array.getElem?_eq_none hge] at hg; cases hg
    have at_ : ∀ i u, cs[i]? = some u → cur.getD i undef = u := fun i u hu => by
      have hi : i < fs.length * 2 := by have := (List.getElem?_eq_some_iff.1 hu).1; omega
      rw [← htk, List.getElem?_take_of_lt hi, Array.getElem?_toList] at hu
      simp [Array.getD_eq_getD_getElem?, hu]
    refine ⟨e2, by omega, hb, hlt, fun i => cur.getD i undef, bs, ⟨cur, hg, hcs, fun i hi => by simp [Array.getD_eq_getD_getElem?, show i < cur.size by omega]⟩, fun j hj => ?_, h3⟩
    obtain ⟨e0, v1, e1, hv⟩ := h2 j hj
    exact ⟨at_ _ _ e0, by show OwnV w lo w.heap.size (cur.getD (j * 2 + 1) undef) (bs j) _; rw [at_ _ _ e1]; exact hv⟩
theorem OwnC.form {w : World} {lo hi : Nat} {v : Value} {fs : FL} {cs : List Value} {bs : Nat → Nat} (h : OwnC w lo hi v fs cs bs) : ∃ A c, v = .slice A fs.length c := by
  rcases h.1.2 with ⟨rfl, h0⟩ | ⟨g, cap, _, rfl, _⟩
  · exact ⟨none, 0, by rw [h0]⟩
  · exact ⟨_, _, rfl⟩
theorem OwnC.rf {w : World} {lo n c : Nat} {A : Option Addr} {fs : FL} {cs : List Value} {bs : Nat → Nat} (h : OwnC w lo w.heap.size (.slice A n c) fs cs bs) : RF w A fs := by
  rcases A with _ | ⟨g, off, spot⟩
  · intro hne
    rcases h.1.2 with ⟨_, h0⟩ | ⟨g, cap, _, hv, _⟩
    · exact absurd (List.eq_nil_of_length_eq_zero h0) hne
    · cases hv
  · have hg : off = 0 ∧ spot = none := by
      rcases h.1.2 with ⟨hv, _⟩ | ⟨g', cap, _, hv, _⟩
      · cases hv
      · injection hv with e1
        injection e1 with e1
        injection e1 with _ e2 e3
        exact ⟨e2, e3⟩
    obtain ⟨rfl, rfl⟩ := hg
    obtain ⟨e, hc, hp⟩ := h.to_P
    exact hp.rf (by omega)
end Go.Proofs.YtimlpdcambmcjaaGreat

namespace Go.Proofs.YtimlpdcambmcjaaGreat
open Go.ChangeShapes Go.WideShapes Go.ChangeAt Go.RowKit Go.Sort
set_option linter.unusedVariables false
set_option linter.unusedSimpArgs false

theorem cmpL_anti : ∀ xs ys : List Int, cmpL xs ys = -cmpL ys xs
  | [], [] => rfl
  | [], _ :: _ => rfl
  | _ :: _, [] => rfl
  | x :: xs, y :: ys => by
    have ih := cmpL_anti xs ys
    simp only [cmpL]
    by_cases h1 : x < y
    · rw [if_pos h1, if_neg (by omega), if_pos h1]
    · by_cases h2 : y < x
      · rw [if_neg h1, if_pos h2, if_pos h2]; rfl
      · rw [if_neg h1, if_neg h2, if_neg h2, if_neg h1, ih]
theorem cmpF_anti (r : Int) (xs : List Int) (r' : Int) (ys : List Int) : cmpF r xs r' ys = -cmpF r' ys r xs := by
  unfold cmpF
  by_cases h1 : r < r'
  · rw [if_pos h1, if_neg (by omega), if_pos h1]
  · by_cases h2 : r' < r
    · rw [if_neg h1, if_pos h2, if_pos h2]; rfl
    · rw [if_neg h1, if_neg h2, if_neg h2, if_neg h1, cmpL_anti]

/-- The fact before the first one that is not less. -/
def addI : FL → Int → List Int → FL
  | [], r, xs => [(r, xs)]
  | g :: t, r, xs => if cmpF g.1 g.2 r xs < 0 then g :: addI t r xs else (r, xs) :: g :: t
def addF (l : FL) (r : Int) (xs : List Int) : FL := if hasB l r xs = true then l else addI l r xs
theorem addF_yes {l : FL} {r : Int} {xs : List Int} (h : hasB l r xs = true) : addF l r xs = l := if_pos h
theorem addF_no {l : FL} {r : Int} {xs : List Int} (h : hasB l r xs = false) : addF l r xs = addI l r xs := if_neg (by simp [h])
def ltAt (l : FL) (r : Int) (xs : List Int) (k : Nat) : Prop := cmpF (l.getD k (0, [])).1 (l.getD k (0, [])).2 r xs < 0
theorem addI_at : ∀ (l : FL) (r : Int) (xs : List Int) (k : Nat), k ≤ l.length → (∀ j, j < k → ltAt l r xs j) → (k < l.length → ¬ ltAt l r xs k) → addI l r xs = l.take k ++ (r, xs) :: l.drop k
  | [], r, xs, k, hk, _, _ => by
    have : k = 0 := by simpa using hk
    subst this
    rfl
  | g :: t, r, xs, 0, _, _, h2 => by
    have h := h2 (by simp)
    simp only [ltAt, List.getD_cons_zero] at h
    rw [addI, if_neg h]
    rfl
  | g :: t, r, xs, k + 1, hk, h1, h2 => by
    have h := h1 0 (by omega)
    simp only [ltAt, List.getD_cons_zero] at h
    have ih := addI_at t r xs k (by simpa using hk) (fun j hj => by have := h1 (j + 1) (by omega); simpa [ltAt] using this) (fun hlt => by have := h2 (by simpa using hlt); simpa [ltAt] using this)
    rw [addI, if_pos h, ih]
    rfl
theorem hasB_none {l : FL} {r : Int} {xs : List Int} (h : hasB l r xs = false) {k : Nat} (hk : k < l.length) : cmpF (l.getD k (0, [])).1 (l.getD k (0, [])).2 r xs ≠ 0 := by
  intro e
  have hs := cmp_same (l.getD k (0, [])).1 (l.getD k (0, [])).2 r xs
  rw [e] at hs
  have := hasB_found l r xs k hk (by rw [← hs]; rfl)
  rw [h] at this
  cases this
/-- The model's test is the other way round. -/
theorem ltAt_anti {l : FL} {r : Int} {xs : List Int} (h : hasB l r xs = false) {k : Nat} (hk : k < l.length) : ltAt l r xs k ↔ ¬ cmpF r xs (l.getD k (0, [])).1 (l.getD k (0, [])).2 < 0 := by
  have h0 := hasB_none h hk
  have h1 := cmpF_anti r xs (l.getD k (0, [])).1 (l.getD k (0, [])).2
  unfold ltAt
  omega
theorem sumN_append (l l' : FL) : sumN (l ++ l') = sumN l + sumN l' := by simp [sumN]
theorem szF_take (l : FL) (k : Nat) : szF (l.take k) ≤ szF l := by
  have := sumN_le l k
  have h2 : (l.take k).length ≤ l.length := by rw [List.length_take]; omega
  unfold szF
  omega
theorem szF_drop (l : FL) (k : Nat) : szF (l.drop k) ≤ szF l := by
  have : sumN l = sumN (l.take k) + sumN (l.drop k) := by rw [← sumN_append, List.take_append_drop]
  have h2 : (l.drop k).length ≤ l.length := by rw [List.length_drop]; omega
  unfold szF
  omega
theorem szF_addI : ∀ (l : FL) (r : Int) (xs : List Int), szF (addI l r xs) = szF l + 1 + xs.length
  | [], r, xs => by simp [addI, szF, sumN] <;> omega
  | g :: t, r, xs => by
    have ih := szF_addI t r xs
    rw [addI]
    split
    · simp [szF, sumN] at ih ⊢; omega
    · simp [szF, sumN]; omega
theorem szF_addF (l : FL) (r : Int) (xs : List Int) : szF (addF l r xs) ≤ szF l + 1 + xs.length := by
  unfold addF
  split
  · omega
  · rw [szF_addI]; omega

theorem RF.take {w : World} {A : Option Addr} {fs : FL} (h : RF w A fs) (k : Nat) : RF w A (fs.take k) := fun hne => by
  obtain ⟨b, off, h1, h2, h3, h4⟩ := h (by rintro rfl; simp at hne)
  refine ⟨b, off, h1, h2, h3, fun j hj => ?_⟩
  rw [List.length_take] at hj
  have e : (fs.take k).getD j (0, []) = fs.getD j (0, []) := by simp [List.getD_eq_getElem?_getD, List.getElem?_take_of_lt (show j < k by omega)]
  rw [e]
  exact h4 j (by omega)
theorem RF.drop {w : World} {b off : Nat} {fs : FL} (h : RF w (some ⟨b, off, none⟩) fs) (k : Nat) : RF w (some ⟨b, off + k * 2, none⟩) (fs.drop k) := fun hne => by
  obtain ⟨b', off', h1, h2, h3, h4⟩ := h (by rintro rfl; simp at hne)
  injection h1 with h1
  injection h1 with e1 e2
  subst e1 e2
  refine ⟨b, off + k * 2, rfl, h2, h3, fun j hj => ?_⟩
  rw [List.length_drop] at hj
  have e : (fs.drop k).getD j (0, []) = fs.getD (k + j) (0, []) := by simp [List.getD_eq_getElem?_getD]
  rw [e, show off + k * 2 + j * 2 = off + (k + j) * 2 by omega]
  exact h4 (k + j) (by omega)
theorem RF.empty (w : World) (A : Option Addr) : RF w A [] := fun h => absurd rfl h

def CopyN (w : World) (fs : FL) (n : Nat) (e : Ending) (w' : World) : Prop :=
  e = .returned (.slice (some ⟨w.heap.size, 0, none⟩) n n) ∧ (∃ cs bs, OwnC w' w.heap.size w'.heap.size (.slice (some ⟨w.heap.size, 0, none⟩) n n) fs cs bs) ∧ Below w.heap.size w w'
/-- A list of facts of the call's own is returned. -/
def AddOut (w : World) (res : FL) (e : Ending) (w' : World) : Prop :=
  ∃ A c cs bs, e = .returned (.slice A res.length c) ∧ OwnC w' w.heap.size w'.heap.size (.slice A res.length c) res cs bs ∧ Below w.heap.size w w'
end Go.Proofs.YtimlpdcambmcjaaGreat

namespace Go.Proofs.YtimlpdcambmcjaaGreat
open Go.ChangeShapes Go.WideShapes Go.ChangeAt Go.RowKit Go.Sort
set_option linter.unusedVariables false
set_option linter.unusedSimpArgs false

theorem ins_get {α : Type} (fs : List α) (x : α) (k : Nat) (hk : k ≤ fs.length) (j : Nat) : (fs.take k ++ x :: fs.drop k)[j]? = if j < k then fs[j]? else if j = k then some x else fs[j - 1]? := by
  by_cases h1 : j < k
  · rw [if_pos h1, List.getElem?_append_left (by rw [List.length_take]; omega), List.getElem?_take_of_lt h1]
  · rw [if_neg h1, List.getElem?_append_right (by rw [List.length_take]; omega), List.length_take, show j - min k fs.length = j - k by omega]
    by_cases h2 : j = k
    · subst h2; simp
    · rw [if_neg h2, show j - k = (j - 1 - k) + 1 by omega, List.getElem?_cons_succ, List.getElem?_drop, show k + (j - 1 - k) = j - 1 by omega]
theorem ins_getD {α : Type} (d : α) (fs : List α) (x : α) (k : Nat) (hk : k ≤ fs.length) (j : Nat) : (fs.take k ++ x :: fs.drop k).getD j d = if j < k then fs.getD j d else if j = k then x else fs.getD (j - 1) d := by
  simp only [List.getD_eq_getElem?_getD, ins_get fs x k hk j]
  split
  · rfl
  · split <;> rfl
theorem ins_len {α : Type} (fs : List α) (x : α) (k : Nat) (hk : k ≤ fs.length) : (fs.take k ++ x :: fs.drop k).length = fs.length + 1 := by
  simp only [List.length_append, List.length_take, List.length_cons, List.length_drop]; omega
theorem ins2_get (cs : List Value) (a b : Value) (m : Nat) (hm : m ≤ cs.length) (i : Nat) : (cs.take m ++ [a, b] ++ cs.drop m)[i]? = if i < m then cs[i]? else if i = m then some a else if i = m + 1 then some b else cs[i - 2]? := by
  rw [List.append_assoc]
  by_cases h1 : i < m
  · rw [if_pos h1, List.getElem?_append_left (by rw [List.length_take]; omega), List.getElem?_take_of_lt h1]
  · rw [if_neg h1, List.getElem?_append_right (by rw [List.length_take]; omega), List.length_take, show i - min m cs.length = i - m by omega]
    by_cases h2 : i = m
    · subst h2; simp
    · rw [if_neg h2, show i - m = (i - m - 1) + 1 by omega, List.cons_append, List.getElem?_cons_succ]
      by_cases h3 : i = m + 1
      · subst h3; simp
      · rw [if_neg h3, show i - m - 1 = (i - m - 2) + 1 by omega, List.cons_append, List.getElem?_cons_succ, List.nil_append, List.getElem?_drop, show m + (i - m - 2) = i - 2 by omega]

theorem Items.insert {w : World} {lo mid hi : Nat} {fs : FL} {cs : List Value} {bs : Nat → Nat} (h : Items w lo mid fs cs bs) {q : Nat} {r : Int} {xs : List Int} {v : Value} (hv : OwnV w mid hi v q xs) (a : lo ≤ mid) (b : mid ≤ hi) (k : Nat) (hk : k ≤ fs.length) :
    Items w lo hi (fs.take k ++ (r, xs) :: fs.drop k) (cs.take (k * 2) ++ [.int .i64 r, v] ++ cs.drop (k * 2)) (fun j => if j < k then bs j else if j = k then q else bs (j - 1)) := by
  have H := h
  obtain ⟨h1, h2, h3⟩ := h
  have hm : k * 2 ≤ cs.length := by omega
  refine ⟨?_, fun j hj => ?_, fun i j hij hj hi0 hj0 => ?_⟩
  · rw [ins_len _ _ _ hk]
    simp only [List.length_append, List.length_take, List.length_drop, List.length_cons, List.length_nil]; omega
  · rw [ins_len _ _ _ hk] at hj
    rw [ins_getD _ _ _ _ hk, ins2_get _ _ _ _ hm, ins2_get _ _ _ _ hm]
    by_cases e1 : j < k
    · simp only [if_pos e1, if_pos (show j * 2 < k * 2 by omega), if_pos (show j * 2 + 1 < k * 2 by omega)]
      obtain ⟨e0, v1, e2, hv1⟩ := h2 j (by omega)
      exact ⟨e0, v1, e2, hv1.mono (Nat.le_refl _) b⟩
    · by_cases e2 : j = k
      · subst e2
        simp only [if_neg e1, if_pos, if_neg (show ¬ j * 2 < j * 2 by omega), if_neg (show ¬ j * 2 + 1 < j * 2 by omega), if_neg (show ¬ j * 2 + 1 = j * 2 by omega)]
        exact ⟨trivial, v, rfl, hv.mono a (Nat.le_refl _)⟩
      · simp only [if_neg e1, if_neg e2, if_neg (show ¬ j * 2 < k * 2 by omega), if_neg (show ¬ j * 2 = k * 2 by omega), if_neg (show ¬ j * 2 = k * 2 + 1 by omega), if_neg (show ¬ j * 2 + 1 < k * 2 by omega), if_neg (show ¬ j * 2 + 1 = k * 2 by omega), if_neg (show ¬ j * 2 + 1 = k * 2 + 1 by omega)]
        obtain ⟨e0, v1, e3, hv1⟩ := h2 (j - 1) (by omega)
        refine ⟨by rw [show j * 2 - 2 = (j - 1) * 2 by omega]; exact e0, v1, by rw [show j * 2 + 1 - 2 = (j - 1) * 2 + 1 by omega]; exact e3, hv1.mono (Nat.le_refl _) b⟩
  · rw [ins_len _ _ _ hk] at hj
    rw [ins_getD _ _ _ _ hk] at hi0 hj0
    by_cases j1 : j < k
    · have i1 : i < k := by omega
      simp only [if_pos i1, if_pos j1] at hi0 hj0 ⊢
      exact h3 i j hij (by omega) hi0 hj0
    · by_cases j2 : j = k
      · subst j2
        simp only [if_pos hij, if_neg j1, if_pos] at hi0 hj0 ⊢
        have r1 := H.rng (show i < fs.length by omega) hi0
        have r2 := hv.rng hj0
        omega
      · simp only [if_neg j1, if_neg j2] at hj0 ⊢
        have r2 := H.rng (show j - 1 < fs.length by omega) hj0
        by_cases i1 : i < k
        · simp only [if_pos i1] at hi0 ⊢
          exact h3 i (j - 1) (by omega) (by omega) hi0 hj0
        · by_cases i2 : i = k
          · subst i2
            simp only [if_neg i1, if_pos] at hi0 ⊢
            have r1 := hv.rng hi0
            omega
          · simp only [if_neg i1, if_neg i2] at hi0 ⊢
            exact h3 (i - 1) (j - 1) (by omega) (by omega) hi0 hj0
theorem ownsRow_low {w : World} {lo lo' : Nat} {e : TypeId} {K n : Nat} {v : Value} {cs : List Value} (h : w.ownsRow lo e K v n cs) (a : lo' ≤ lo) : w.ownsRow lo' e K v n cs := by
  obtain ⟨h1, h2⟩ := h
  refine ⟨h1, ?_⟩
  rcases h2 with h2 | ⟨g, cap, cur, hv, hb, hr⟩
  · exact .inl h2
  · exact .inr ⟨g, cap, cur, hv, Nat.le_trans a hb, hr⟩
theorem ownC_cells {w : World} {lo hi g n c : Nat} {fs : FL} {cs : List Value} {bs : Nat → Nat} (h : OwnC w lo hi (.slice (some ⟨g, 0, none⟩) n c) fs cs bs) : ∀ j v, cs[j]? = some v → w.cell? ⟨g, j, none⟩ = some v := fun j v hj => by
  have := h.1.cells (g := g) rfl j v hj
  rwa [add_eq, Nat.zero_add] at this
theorem items_one' {w : World} {lo hi : Nat} {fs : FL} {cs : List Value} {bs : Nat → Nat} (h : Items w lo hi fs cs bs) : ∀ x ∈ cs, x.oneCell' = true := fun x hx => by
  obtain ⟨j, hj⟩ := List.getElem?_of_mem hx
  have hlt : j < fs.length * 2 := by have := (List.getElem?_eq_some_iff.1 hj).1; have := h.1; omega
  obtain ⟨e0, v1, e1, hv⟩ := h.2.1 (j / 2) (by omega)
  rcases Nat.mod_two_eq_zero_or_one j with hm | hm
  · rw [show j / 2 * 2 = j by omega, hj] at e0
    injection e0 with e0
    subst e0
    rfl
  · rw [show j / 2 * 2 + 1 = j by omega, hj] at e1
    injection e1 with e1
    subst e1
    obtain ⟨A, c, rfl, _⟩ := hv
    rfl
theorem hasB_iff (l : FL) (r : Int) (xs : List Int) : hasB l r xs = true ↔ ∃ k, k < l.length ∧ decide (cmpF (l.getD k (0, [])).1 (l.getD k (0, [])).2 r xs = 0) = true := by
  constructor
  · intro h
    by_cases hc : ∃ k, k < l.length ∧ decide (cmpF (l.getD k (0, [])).1 (l.getD k (0, [])).2 r xs = 0) = true
    · exact hc
    · exfalso
      unfold hasB at h
      rw [List.any_eq_true] at h
      obtain ⟨g, hg, hs⟩ := h
      obtain ⟨k, hk, rfl⟩ := List.getElem_of_mem hg
      refine hc ⟨k, hk, ?_⟩
      have e : l.getD k (0, []) = l[k] := by simp [List.getD_eq_getElem?_getD, hk]
      rw [e]
      have := cmp_same l[k].1 l[k].2 r xs
      rw [hs] at this
      simpa using this
  · rintro ⟨k, hk, h⟩
    refine hasB_found l r xs k hk ?_
    rw [← cmp_same]
    simpa using h
theorem addI_gr {l : FL} {r : Int} {xs : List Int} (h : hasB l r xs = false) {k : Nat} (hk : k ≤ l.length) (h1 : ∀ j, j < k → decide (cmpF (l.getD j (0, [])).1 (l.getD j (0, [])).2 r xs > 0) = false) (h2 : k < l.length → decide (cmpF (l.getD k (0, [])).1 (l.getD k (0, [])).2 r xs > 0) = true) :
    addI l r xs = l.take k ++ (r, xs) :: l.drop k := by
  refine addI_at l r xs k hk (fun j hj => ?_) (fun hlt => ?_)
  · have := of_decide_eq_false (h1 j hj)
    have hn := hasB_none h (show j < l.length by omega)
    unfold ltAt; omega
  · have := of_decide_eq_true (h2 hlt)
    unfold ltAt; omega
end Go.Proofs.YtimlpdcambmcjaaGreat

namespace Go.Proofs.YtimlpdcambmcjaaGreat
open Go.ChangeShapes Go.WideShapes Go.ChangeAt Go.RowKit Go.Sort
open Go.Maps (Keyed int_keyed keyOf_int_mk)
set_option linter.unusedVariables false
set_option linter.unusedSimpArgs false

set_option maxRecDepth 100000 in
theorem lawM : Keyed Tryz.prog 3 := int_keyed Tryz.underlying3
set_option maxRecDepth 100000 in
theorem zeroM (w : World) : (zeroValue 3).run Tryz.prog w = .ok (.int .i64 0) w := by kernel_rfl
/-- The key of a term. -/
abbrev kt (t : Int) : Lit := .int .i64 t
abbrev wf (t : Int) : Prop := (Lit.int .i64 t).wf = true
theorem kt_ne {a b : Int} (h : ¬ a = b) : kt a ≠ kt b := fun e => by injection e with _ e; exact h e

/-- What has turned: no block below base, no row but those of numbers and the matchings. -/
structure Trn (base : Nat) (w w' : World) : Prop where
  os : w'.os = w.os
  tape : w'.tape = w.tape
  output : w'.output = w.output
  size : w.heap.size ≤ w'.heap.size
  block : ∀ k, k < w.heap.size → (k < base ∨ ∃ cs t fr, w.heap[k]? = some (.cells cs t fr) ∧ t ≠ 3 ∧ t ≠ 154) → w'.heap[k]? = w.heap[k]?
theorem Trn.refl (base : Nat) (w : World) : Trn base w w := ⟨rfl, rfl, rfl, Nat.le_refl _, fun _ _ _ => rfl⟩
theorem Trn.trans {base : Nat} {a b c : World} (h : Trn base a b) (k : Trn base b c) : Trn base a c :=
  ⟨k.os.trans h.os, k.tape.trans h.tape, k.output.trans h.output, Nat.le_trans h.size k.size, fun i hi hx => by
    have h1 := h.block i hi hx
    refine (k.block i (Nat.lt_of_lt_of_le hi h.size) ?_).trans h1
    rcases hx with hx | ⟨cs, t, fr, e, h2, h3⟩
    · exact .inl hx
    · exact .inr ⟨cs, t, fr, h1.trans e, h2, h3⟩⟩
theorem Trn.below {base : Nat} {w w' : World} (h : Trn base w w') (hb : base ≤ w.heap.size) : Below base w w' :=
  ⟨h.os, h.tape, h.output, h.size, fun k hk => h.block k (by omega) (.inl hk)⟩
theorem Trn.mono {base base' : Nat} {w w' : World} (h : Trn base w w') (hb : base' ≤ base) : Trn base' w w' :=
  ⟨h.os, h.tape, h.output, h.size, fun k hk hx => h.block k hk (by
    rcases hx with hx | hx
    · exact .inl (by omega)
    · exact .inr hx)⟩
theorem Trn.of_below {base : Nat} {w w' : World} (h : Below w.heap.size w w') : Trn base w w' := ⟨h.os, h.tape, h.output, h.size, fun k hk _ => h.block k hk⟩
theorem Trn.grown_map {base mb : Nat} {w w' : World} {es : Array MapEntry} {ck : Nat} (hg : w.grownBy w' (some mb)) (hb : base ≤ mb) (hm : w.heap[mb]? = some (.map es ck)) : Trn base w w' :=
  ⟨hg.os, hg.tape, hg.output, hg.size, fun k hk hx => hg.block k hk fun e => by
    injection e with e
    subst e
    rcases hx with hx | ⟨cs, t, fr, e, _, _⟩
    · omega
    · rw [hm] at e; injection e with e; cases e⟩
theorem Trn.grown_row {base : Nat} {w w' : World} {v : Value} {n : Nat} {cs : List Value} (hg : w.grownBy w' v.ownBlock) (ho : w.ownsRow base 3 1 v n cs) : Trn base w w' :=
  ⟨hg.os, hg.tape, hg.output, hg.size, fun k hk hx => hg.block k hk fun e => by
    rcases ho.2 with ⟨rfl, _⟩ | ⟨g, cap, cur, rfl, hb, hh, _⟩
    · simp [Value.ownBlock] at e
    · have hgk : g = k := own_some e.symm
      subst hgk
      rcases hx with hx | ⟨cs, t, fr, e, h2, _⟩
      · omega
      · rw [hh] at e
        injection e with e
        injection e with _ e2
        exact h2 e2.symm⟩
theorem Trn.set {base g : Nat} {w : World} {cs : Array Value} (hb : base ≤ g) (hx : Box w g cs 154) (i : Nat) (v : Value) : Trn base w (w.setCell ⟨g, i, none⟩ v) :=
  ⟨rfl, rfl, rfl, by rw [set_size]; exact Nat.le_refl _, fun k hk hc => Below.heap_setCell _ _ _ _ fun e => by
    have e' : k = g := e
    subst e'
    rcases hc with hc | ⟨cs, t, fr, e, _, h3⟩
    · omega
    · unfold Box at hx
      rw [hx] at e
      injection e with e
      injection e with _ e2
      exact h3 e2.symm⟩
theorem Box.trn {base g : Nat} {w w' : World} {cs : Array Value} {t : TypeId} (h : Box w g cs t) (d : Trn base w w') (h1 : t ≠ 3) (h2 : t ≠ 154) : Box w' g cs t :=
  (d.block g h.lt (.inr ⟨cs, t, (0, 0), h, h1, h2⟩)).trans h

/-- Does the map read as the binding p? -/
def LK (D : DataW Unit) (p : PL) : Prop :=
  Maps.IsMap D ∧ ∀ t, Maps.has D (kt t) = decide (t ∈ p.1) ∧ (t ∈ p.1 → D.atKey (kt t) (.lit (.int .i64 0)) = .lit (.int .i64 (pval p t)))
theorem LK.put {D : DataW Unit} {p : PL} (h : LK D p) (hl : p.1.length = p.2.length) {t v : Int} (hn : t ∉ p.1) : LK (D.put (kt t) (.lit (.int .i64 v))) (p.1 ++ [t], p.2 ++ [v]) := by
  refine ⟨h.1.put _ _, fun x => ?_⟩
  by_cases e : x = t
  · subst e
    refine ⟨?_, fun _ => ?_⟩
    · rw [Maps.has_put_same h.1 (show WideAt.IsKeyLit (kt x) from trivial)]; simp
    · rw [Maps.atKey_put_same h.1 (show WideAt.IsKeyLit (kt x) from trivial), pval_new hl hn]
  · refine ⟨?_, fun hx => ?_⟩
    · rw [Maps.has_put_other (kt_ne e), (h.2 x).1]
      simp [e]
    · have hx' : x ∈ p.1 := by simpa [e] using hx
      rw [Maps.atKey_put_other (kt_ne e), (h.2 x).2 hx', pval_old hl hx']

/-- The variables ads were added to p0, which makes q. -/
def AD (p0 q : PL) (ads : List Int) : Prop := q.1 = p0.1 ++ ads ∧ q.2 = p0.2 ++ ads.map (pval q) ∧ q.1.length = q.2.length
theorem AD.start {p : PL} (h : p.1.length = p.2.length) : AD p p [] := ⟨by simp, by simp, h⟩
theorem AD.add {p0 q : PL} {ads : List Int} (h : AD p0 q ads) {t v : Int} (hn : t ∉ q.1) : AD p0 (q.1 ++ [t], q.2 ++ [v]) (ads ++ [t]) := by
  obtain ⟨h1, h2, h3⟩ := h
  refine ⟨by simp only [h1, List.append_assoc], ?_, by simp [h3]⟩
  have e : ads.map (pval (q.1 ++ [t], q.2 ++ [v])) = ads.map (pval q) := List.map_congr_left fun x hx => pval_old h3 (by rw [h1]; exact List.mem_append_right _ hx) t v
  simp only [List.map_append, List.map_cons, List.map_nil]
  rw [pval_new h3 hn, e, ← List.append_assoc, ← h2]

/-- A matching at block g: its map reads as q, ads were added to p0. -/
def MS (w : World) (base g : Nat) (p0 q : PL) (ads : List Int) : Prop :=
  AD p0 q ads ∧ ∃ (mb n : Nat) (v : Value) (D : DataW Unit), Box w g #[.map (some mb), v] 154 ∧ w.ownsMap Tryz.prog 3 (plainElem Tryz.prog 3) mb n D ∧ w.ownsRow base 3 1 v ads.length (ads.map (Value.int .i64)) ∧
    LK D q ∧ n ≤ q.1.length ∧ base ≤ mb ∧ base ≤ g

theorem mst_cases (q : PL) (t v : Int) :
    (inB t 10 17 = false ∧ mst q t v = if t = v then some q else none) ∨ (inB t 10 17 = true ∧ t ∈ q.1 ∧ mst q t v = if bval q.1 q.2 t = v then some q else none) ∨ (inB t 10 17 = true ∧ t ∉ q.1 ∧ mst q t v = some (q.1 ++ [t], q.2 ++ [v])) := by
  unfold mst
  by_cases h : inB t 10 17 = true
  · by_cases hm : t ∈ q.1
    · exact .inr (.inl ⟨h, hm, by simp [h, hm]⟩)
    · exact .inr (.inr ⟨h, hm, by simp [h, hm]⟩)
  · have h' : inB t 10 17 = false := by simpa using h
    exact .inl ⟨h', by simp [h']⟩

/-- What one term against one value leaves. -/
def MTOut (w : World) (base g : Nat) (p0 q : PL) (r : Option PL) (e : Ending) (w' : World) : Prop :=
  ∃ q2 ads2, ((r = none ∧ e = .returned (.bool false) ∧ q2 = q) ∨ (r = some q2 ∧ e = .returned (.bool true))) ∧ MS w' base g p0 q2 ads2 ∧ Trn base w w'

theorem ownsMap_trn {w w' : World} {mb n : Nat} {D : DataW Unit} (h : w.ownsMap Tryz.prog 3 (plainElem Tryz.prog 3) mb n D) (hg : ∀ es ck, w.heap[mb]? = some (.map es ck) → w'.heap[mb]? = w.heap[mb]?) : w'.ownsMap Tryz.prog 3 (plainElem Tryz.prog 3) mb n D := by
  obtain ⟨es, ck, hb, r⟩ := h
  exact ⟨es, ck, (hg es ck hb).trans hb, r⟩
theorem ownsMap_block {w : World} {mb n : Nat} {D : DataW Unit} (h : w.ownsMap Tryz.prog 3 (plainElem Tryz.prog 3) mb n D) : ∃ es ck, w.heap[mb]? = some (.map es ck) := by
  obtain ⟨es, ck, hb, _⟩ := h
  exact ⟨es, ck, hb⟩

theorem ownsRow_setBox {w : World} {base g i : Nat} {v u : Value} {n : Nat} {cs : List Value} {bx : Array Value} (h : w.ownsRow base 3 1 v n cs) (hb : Box w g bx 154) : (w.setCell ⟨g, i, none⟩ u).ownsRow base 3 1 v n cs := by
  refine ⟨h.1, ?_⟩
  rcases h.2 with hn | ⟨k, cap, cur, hv, hbk, hk, r⟩
  · exact .inl hn
  · refine .inr ⟨k, cap, cur, hv, hbk, ?_, r⟩
    rw [Below.heap_setCell _ _ _ _ (fun e => by
      have e' : k = g := e
      unfold Box at hb
      rw [e', hb] at hk
      injection hk with hk
      injection hk with _ h2
      exact absurd h2 (by decide))]
    exact hk

set_option maxRecDepth 100000 in
set_option maxHeartbeats 2000000 in
theorem matchTerm_any (base g : Nat) (p0 q : PL) (ads : List Int) (t v : Int) (ht : wf t) (hv : wf v) (hq : q.1.length ≤ 4194304) (ha : ads.length ≤ 2097152) (w : World) (hbw : base ≤ w.heap.size) (h : MS w base g p0 q ads) :
    Calls Tryz.prog 170 #[.pointer (some ⟨g, 0, none⟩), .int .i64 t, .int .i64 v] w (MTOut w base g p0 q (mst q t v)) := by
  obtain ⟨i0, hi, hz0, hz1, hz2⟩ := info_parts int_info
  have H := Lib.hid h
  obtain ⟨hAD, mb, n, vv, D, hB, hM, hR, hL, hn, hmb, hgb⟩ := h
  have g0 := hB.cell 0
  have g1 := hB.cell 1
  have g3 := hB.frozen 1
  have glt := hB.lt
  simp only [List.getElem?_toArray, List.getElem?_cons_zero, List.getElem?_cons_succ] at g0 g1
  have HB := Lib.hid hB
  have HM := Lib.hid hM
  have HR := Lib.hid hR
  have HL := Lib.hid hL
  have HA := Lib.hid hAD
  clear hB hM hR hL hAD
  rcases mst_cases q t v with ⟨h1, hm⟩ | ⟨h1, hin, hm⟩ | ⟨h1, hin, hm⟩
  · have T1 := Lib.hid h1
    have MM := Lib.hid hm
    clear h1 hm g0 g1 g3
    go_enter Tryz.func170, Tryz.ntmps170
    go_wp2_with fail
    refine (impl_IsVar t _).mono ?_
    rintro e w1 ⟨he, rfl⟩
    rw [T1.out] at he
    subst he
    by_cases hs : t = v
    · have d1 : (t == v) = true := by simpa using hs
      have E := Lib.hid (show mst q t v = some q by rw [MM.out, if_pos hs])
      clear hs
      go_wp2
      go_ret
      exact ⟨q, ads, .inr ⟨E.out, rfl⟩, H.out, Trn.refl _ _⟩
    · have d1 : (t == v) = false := by simpa using hs
      have E := Lib.hid (show mst q t v = none by rw [MM.out, if_neg hs])
      clear hs
      go_wp2
      go_ret
      exact ⟨q, ads, .inl ⟨E.out, rfl, rfl⟩, H.out, Trn.refl _ _⟩
  · have T1 := Lib.hid h1
    have MM := Lib.hid hm
    have L1 := Lib.hid ((HL.out.2 t).1.trans (decide_eq_true hin))
    have L2 := Lib.hid ((HL.out.2 t).2 hin)
    have BV := Lib.hid (bval_mem HA.out.2.2 h1 hin)
    clear h1 hm hin
    go_enter Tryz.func170, Tryz.ntmps170
    go_wp2_with fail
    refine (impl_IsVar t _).mono ?_
    rintro e w1 ⟨he, rfl⟩
    rw [T1.out] at he
    subst he
    go_wp2_with (at_lookup; refine wpList_lookup_own_ok_int _ rfl _ _ 152 rfl 3 3 .i64 lawM Tryz.underlying152 Tryz.underlying3 (zeroM _) mb n D rfl HM.out _ _ rfl (keyOf_int_mk Tryz.underlying3 ht) ?_; intro c hat hwc
                 have hc : c = pval q t := by
                   have h2 := hat.symm.trans L2.out
                   injection h2 with h2
                   injection h2
                 have HC := Lib.hid hc
                 rw [L1.out]
                 clear hat hc)
    by_cases hs : c = v
    · have d1 : (c == v) = true := by simpa using hs
      have E := Lib.hid (show mst q t v = some q by rw [MM.out, if_pos (by rw [BV.out, ← HC.out]; exact hs)])
      clear hs
      go_wp2
      go_ret
      exact ⟨q, ads, .inr ⟨E.out, show Ending.returned (.bool (c == v)) = .returned (.bool true) by rw [d1]⟩, H.out, Trn.refl _ _⟩
    · have d1 : (c == v) = false := by simpa using hs
      have E := Lib.hid (show mst q t v = none by rw [MM.out, if_neg (by rw [BV.out, ← HC.out]; exact hs)])
      clear hs
      go_wp2
      go_ret
      exact ⟨q, ads, .inl ⟨E.out, show Ending.returned (.bool (c == v)) = .returned (.bool false) by rw [d1], rfl⟩, H.out, Trn.refl _ _⟩
  · have T1 := Lib.hid h1
    have MM := Lib.hid hm
    have L1 := Lib.hid ((HL.out.2 t).1.trans (decide_eq_false hin))
    have HIN := Lib.hid hin
    obtain ⟨es, ck, hes⟩ := ownsMap_block HM.out
    have HES := Lib.hid hes
    clear h1 hm hin hes
    go_enter Tryz.func170, Tryz.ntmps170
    go_wp2_with fail
    refine (impl_IsVar t _).mono ?_
    rintro e w1 ⟨he, rfl⟩
    rw [T1.out] at he
    subst he
    go_wp2_with (first
      | (at_lookup; refine wpList_lookup_own_ok_int _ rfl _ _ 152 rfl 3 3 .i64 lawM Tryz.underlying152 Tryz.underlying3 (zeroM _) mb n D rfl HM.out _ _ rfl (keyOf_int_mk Tryz.underlying3 ht) ?_; intro c hat hwc
         rw [L1.out]
         clear hat hwc)
      | (at_mapUpdate
         go_loud (
           refine wpList_mapUpdate_own _ rfl _ _ _ 152 rfl 3 3 lawM Tryz.underlying152 _ mb n D rfl HM.out (by unfold maxLen; omega) _ _ _ rfl rfl (keyOf_int_mk Tryz.underlying3 ht) _ [] (plainElem_int Tryz.underlying3 hv) ?_; intro w1 hown1 hgrow1
           have T2 := Lib.hid (Trn.grown_map (base := base) hgrow1 hmb HES.out)
           have HM1 := Lib.hid hown1
           have hbx : Box w1 g #[.map (some mb), vv] 154 := (hgrow1.block g glt (fun e => by
             injection e with e
             have h1 := HB.out
             have h2 := HES.out
             unfold Box at h1
             rw [e] at h1
             rw [h1] at h2
             injection h2 with h2
             cases h2)).trans HB.out
           have HB1 := Lib.hid hbx
           have hrow : w1.ownsRow base 3 1 vv ads.length (ads.map (Value.int .i64)) := HR.out.kept hgrow1 (.inr fun e => by
             rcases HR.out.2 with ⟨rfl, _⟩ | ⟨gg, cap, cur, rfl, _, hh, _⟩
             · simp [Value.ownBlock] at e
             · have hgk : gg = mb := own_some (by rw [e])
               rw [hgk] at hh
               have h2 := HES.out
               rw [hh] at h2
               injection h2 with h2
               cases h2)
           have HR1 := Lib.hid hrow
           have k0 := hbx.cell 0
           have k1 := hbx.cell 1
           have k3 := hbx.frozen 1
           have klt := hbx.lt
           simp only [List.getElem?_toArray, List.getElem?_cons_zero, List.getElem?_cons_succ] at k0 k1
           have hb1 := T2.out.size
           clear hown1 hgrow1 hbx hrow g0 g1 g3))
      | (at_builtin
         go_loud (
           refine wpList_append_own_at _ rfl _ _ 22 rfl base 3 i0 (.int .i64 0) 1 8 Tryz.underlying22 hi hz0 hz1 hz2 rfl (by omega) vv ads.length _ rfl (HR1.out.alloc _) ⟨w1.heap.size, 0, none⟩ 1 1 [.int .i64 t] rfl rfl (cell_one_new _ _ _) (by intro u hu; simp at hu; subst hu; rfl) (by unfold maxLen; omega) (by omega) (by (try simp) <;> omega) ?_; intro v2 w2 hown2 hgrow2 hnil2 hloc2
           have T3 := Lib.hid (T2.out.trans ((Trn.of_below (below_alloc w1 _)).trans (Trn.grown_row hgrow2 (HR1.out.alloc (.cells #[.int .i64 t] 3)))))
           have hbx : Box w2 g #[.map (some mb), vv] 154 := (hgrow2.block g (by simp; omega) (fun e => by
             rcases HR1.out.2 with ⟨rfl, _⟩ | ⟨gg, cap, cur, rfl, _, hh, _⟩
             · simp [Value.ownBlock] at e
             · have hgk : gg = g := own_some e.symm
               rw [hgk] at hh
               have h1 := HB1.out
               unfold Box at h1
               rw [h1] at hh
               injection hh with hh
               injection hh with _ h2
               exact absurd h2 (by decide))).trans (HB1.out.step (below_alloc _ _))
           have HB2 := Lib.hid hbx
           have HM2 := Lib.hid (World.ownsMap.kept (World.ownsMap.alloc HM1.out (.cells #[.int .i64 t] 3)) hgrow2 (fun e => by
             rcases HR1.out.2 with ⟨rfl, _⟩ | ⟨gg, cap, cur, rfl, _, hh, _⟩
             · simp [Value.ownBlock] at e
             · have hgk : gg = mb := own_some e.symm
               rw [hgk] at hh
               obtain ⟨es1, ck1, h2⟩ := ownsMap_block HM1.out
               rw [hh] at h2
               injection h2 with h2
               cases h2))
           have HR2 := Lib.hid hown2
           have k4 := hbx.frozen 1
           have k5 := hbx.cell 1
           simp only [List.getElem?_toArray, List.getElem?_cons_zero, List.getElem?_cons_succ] at k5
           have klt2 := hbx.lt
           have hv2 : ∃ X n c, v2 = .slice X n c := by
             rcases hown2.2 with ⟨h, _⟩ | ⟨_, _, _, h, _⟩ <;> exact ⟨_, _, _, h⟩
           obtain ⟨X2, n2, c2, rfl⟩ := hv2
           clear hown2 hgrow2 hbx k0 k1 k3 hnil2 hloc2)))
    go_ret
    exact ⟨_, ads ++ [t], .inr ⟨MM.out, rfl⟩, ⟨HA.out.add HIN.out, mb, n + 1, _, _, HB2.out.set 1 (.slice X2 n2 c2), ownsMap_trn HM2.out (fun es ck h => Below.heap_setCell _ _ _ _ (fun e => by
      have h1 := HB2.out
      unfold Box at h1
      have e' : mb = g := e
      rw [e'] at h
      rw [h1] at h
      injection h with h
      cases h)), by simpa using ownsRow_setBox HR2.out HB2.out, HL.out.put HA.out.2.2 HIN.out, by simp; omega, hmb, hgb⟩, T3.out.trans (Trn.set hgb HB2.out 1 _)⟩
end Go.Proofs.YtimlpdcambmcjaaGreat
