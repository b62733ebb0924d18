/- Marks on lists of facts. Conditions: none beyond each theorem's own. -/
import Derived.Test.YtimlpdcambmcjaaAddM
namespace Go.Proofs.Ytimlpdcambmcjaa
open Go.ChangeShapes Go.WideShapes Go.ChangeAt Go.RowKit Go.Sort
set_option linter.unusedVariables false
set_option linter.unusedSimpArgs false

/-- The first mark of fact k. -/
def offs (q : Int) (fs : FL) (k : Nat) : Int := q + k + (sumN (fs.take k) : Int)
theorem offs_succ (q : Int) (fs : FL) (k : Nat) (hk : k < fs.length) : offs q fs (k + 1) = offs q fs k + 1 + ((fs.getD k (0, [])).2.length : Int) := by
  unfold offs
  rw [sumN_take fs k hk]
  omega
theorem offs_end (q : Int) (fs : FL) : offs q fs fs.length = q + szF fs := by
  unfold offs szF
  rw [take_all]
  omega
theorem offs_rng (q : Int) (fs : FL) (k : Nat) (hk : k ≤ fs.length) : q ≤ offs q fs k ∧ offs q fs k ≤ q + szF fs := by
  have := sumN_le fs k
  unfold offs szF
  omega
/-- The fact of place j, marked. -/
def mkE (q : Int) (fs : FL) (j : Nat) : Int × List Int := (offs q fs j, marks (offs q fs j + 1) (fs.getD j (0, [])).2.length)
/-- The first k facts are marked. -/
def mkK (q : Int) (fs : FL) (k : Nat) : FL := (List.range fs.length).map fun j => if j < k then mkE q fs j else fs.getD j (0, [])
theorem mkK_length (q : Int) (fs : FL) (k : Nat) : (mkK q fs k).length = fs.length := by simp [mkK]
theorem mkK_getD (q : Int) (fs : FL) (k j : Nat) (hj : j < fs.length) : (mkK q fs k).getD j (0, []) = if j < k then mkE q fs j else fs.getD j (0, []) := by
  simp [mkK, List.getD_eq_getElem?_getD, hj]

theorem OwnP.congr {w : World} {lo hi g m k : Nat} {fs gs : FL} (h : OwnP w lo hi g m k fs) (e : ∀ j, j < k → gs.getD j (0, []) = fs.getD j (0, [])) : OwnP w lo hi g m k gs := by
  obtain ⟨h1, h2, F, bs, hr, he, hd⟩ := h
  refine ⟨h1, h2, F, bs, hr, fun j hj => by rw [e j hj]; exact he j hj, fun i j hij hj => ?_⟩
  rw [e i (by omega), e j hj]
  exact hd i j hij hj

/-- Fact k is marked: its number first, then its values. -/
theorem mark_step {w w2 : World} {lo hi g m k : Nat} {q : Int} {fs : FL} {F : Nat → Value} {bs : Nat → Nat} (h1 : lo ≤ g) (h2 : g < hi) (hr : w.rowIs g 73 m F)
    (he : ∀ j, j < fs.length → F (j * 2) = .int .i64 ((mkK q fs k).getD j (0, [])).1 ∧ OwnV w lo hi (F (j * 2 + 1)) (bs j) ((mkK q fs k).getD j (0, [])).2)
    (hd : ∀ i j, i < j → j < fs.length → 0 < ((mkK q fs k).getD i (0, [])).2.length → 0 < ((mkK q fs k).getD j (0, [])).2.length → bs i ≠ bs j)
    (hk : k < fs.length) (hm : fs.length * 2 ≤ m)
    (hw : (0 < (fs.getD k (0, [])).2.length ∧ Within (bs k) (bs k + 1) (w.setCell ⟨g, k * 2, none⟩ (.int .i64 (offs q fs k))) w2 ∧
        ∃ (mk : Nat) (Fk : Nat → Value), (fs.getD k (0, [])).2.length ≤ mk ∧ w2.rowIs (bs k) 3 mk (fun i => if i < (fs.getD k (0, [])).2.length then .int .i64 (offs q fs k + 1 + i) else Fk i)) ∨
      ((fs.getD k (0, [])).2.length = 0 ∧ w2 = w.setCell ⟨g, k * 2, none⟩ (.int .i64 (offs q fs k)))) :
    OwnP w2 lo hi g m fs.length (mkK q fs (k + 1)) ∧ Within lo hi w w2 := by
  have hk0 := he k hk
  rw [mkK_getD q fs k k hk, if_neg (by omega)] at hk0
  have lens : ∀ j, j < fs.length → ∀ k', ((mkK q fs k').getD j (0, [])).2.length = (fs.getD j (0, [])).2.length := fun j hj k' => by
    rw [mkK_getD q fs k' j hj]
    split
    · rw [mkE, marks_length]
    · rfl
  have hwithin : Within lo hi w w2 := by
    have h0 : Within lo hi w (w.setCell ⟨g, k * 2, none⟩ (.int .i64 (offs q fs k))) := (Within.refl _ _ _).set h1 h2 _
    rcases hw with ⟨hp, hwi, _⟩ | ⟨_, rfl⟩
    · obtain ⟨a, b⟩ := hk0.2.rng hp
      exact h0.trans (hwi.mono a (by omega))
    · exact h0
  have hne : ∀ j, j < fs.length → 0 < (fs.getD j (0, [])).2.length → bs j ≠ g := fun j hj hp e => by
    obtain ⟨_, A, c, _, _, _, hx⟩ := he j hj
    obtain ⟨_, _, _, mm, FF, _, hrow, _⟩ := hx (by rw [lens j hj]; exact hp)
    obtain ⟨c1, hc1, _⟩ := hrow
    obtain ⟨c2, hc2, _⟩ := hr
    rw [e] at hc1
    rw [hc1] at hc2
    injection hc2 with hc2
    injection hc2 with _ ht
    exact absurd ht (by decide)
  have hrow1 := hr.set (k * 2) (.int .i64 (offs q fs k))
  have hg2 : w2.rowIs g 73 m (fun j => if j = k * 2 then .int .i64 (offs q fs k) else F j) := by
    rcases hw with ⟨hp, hwi, _⟩ | ⟨_, rfl⟩
    · have hn := hne k hk hp
      exact World.rowIs.of_block hrow1 (hwi.block g (by omega))
    · exact hrow1
  refine ⟨⟨h1, h2, _, bs, hg2, fun j hj => ?_, fun i j hij hj hi0 hj0 => ?_⟩, hwithin⟩
  · have t1 : ¬ (j * 2 + 1 = k * 2) := by omega
    simp only [t1, if_false]
    by_cases e : j = k
    · subst e
      rw [show (mkK q fs (j + 1)).getD j (0, []) = mkE q fs j from (mkK_getD q fs (j + 1) j hj).trans (if_pos (by omega))]
      refine ⟨if_pos rfl, ?_⟩
      obtain ⟨A, c, hv, hc, hcm, hx⟩ := hk0.2
      refine ⟨A, c, by rw [hv, mkE, marks_length], by rw [mkE, marks_length]; exact hc, hcm, fun hp => ?_⟩
      rw [mkE, marks_length] at hp
      rcases hw with ⟨_, hwi, mk, Fk, hmk, hrk⟩ | ⟨h0, _⟩
      · obtain ⟨a1, a2, a3, _⟩ := hx hp
        refine ⟨a1, a2, a3, mk, _, by rw [mkE, marks_length]; exact hmk, hrk, fun i hi => ?_⟩
        rw [mkE, marks_length] at hi
        rw [mkE, marks_getD _ _ _ hi, if_pos hi]
      · omega
    · have t2 : ¬ (j * 2 = k * 2) := by omega
      simp only [t2, if_false]
      rw [mkK_getD q fs (k + 1) j hj]
      have hj1 := he j hj
      rw [mkK_getD q fs k j hj] at hj1
      have e2 : (if j < k + 1 then mkE q fs j else fs.getD j (0, [])) = (if j < k then mkE q fs j else fs.getD j (0, [])) := by
        by_cases h : j < k
        · rw [if_pos h, if_pos (by omega)]
        · rw [if_neg h, if_neg (by omega)]
      rw [e2]
      refine ⟨hj1.1, hj1.2.keep_len fun hp _ _ => ?_⟩
      have hp2 : 0 < (fs.getD j (0, [])).2.length := by
        have := lens j hj k
        rw [mkK_getD q fs k j hj] at this
        omega
      have hjg := hne j hj hp2
      have hs := Below.heap_setCell w ⟨g, k * 2, none⟩ (.int .i64 (offs q fs k)) (bs j) hjg
      rcases hw with ⟨hpk, hwi, _⟩ | ⟨_, rfl⟩
      · have hjk : bs j ≠ bs k := by
          rcases Nat.lt_or_gt_of_ne e with h | h
          · exact hd j k h hk (by rw [lens j hj]; exact hp2) (by rw [lens k hk]; exact hpk)
          · exact fun x => hd k j h hj (by rw [lens k hk]; exact hpk) (by rw [lens j hj]; exact hp2) x.symm
        exact (hwi.block (bs j) (by omega)).trans hs
      · exact hs
  · rw [lens i (by omega)] at hi0
    rw [lens j hj] at hj0
    exact hd i j hij hj (by rw [lens i (by omega)]; exact hi0) (by rw [lens j hj]; exact hj0)

/-- Marks are found again. -/
theorem held_ints {w : World} {lo hi : Nat} {A : Option Addr} {k : Int} {n : Nat} {xs : List Int} (h : Ints w lo hi A xs) (e : xs = marks k n) : Ints w lo hi A (marks k n) := e ▸ h

end Go.Proofs.Ytimlpdcambmcjaa
