/- Lists of lists of numbers in memory: their size, their copy, their comparison by the law. Conditions: none beyond each theorem's own. Marks on lists of facts. Conditions: none beyond each theorem's own. Lists of lists of the call's own that grow; where one more stands; marks on them. Conditions: none beyond each theorem's own. The order of lists of numbers is transitive. Conditions: none beyond each theorem's own. -/
import Derived.Test.YtimlpdcambmcjaaM2
import Derived.Test.YtimlpdcambmcjaaM3
import Derived.Test.YtimlpdcambmcjaaM4

namespace Go.Proofs.Ytimlpdcambmcjaa
open Go.ChangeShapes Go.WideShapes Go.ChangeAt Go.RowKit
set_option linter.unusedVariables false
set_option linter.unusedSimpArgs false

abbrev TL := List (List Int)
/-- At the address A lie the lists ts, all of it in blocks from lo to below hi. -/
def Tups (w : World) (lo hi : Nat) (A : Option Addr) (ts : TL) : Prop :=
  ts ≠ [] → ∃ b off, A = some ⟨b, off, none⟩ ∧ lo ≤ b ∧ b < hi ∧ ∀ k, k < ts.length → ∃ B c, w.cell? ⟨b, off + k, none⟩ = some (.slice B (ts.getD k []).length c) ∧ (ts.getD k []).length ≤ c ∧ c ≤ maxLen ∧ Ints w lo hi B (ts.getD k [])
theorem Tups.keep {w w' : World} {lo hi : Nat} {A : Option Addr} {ts : TL} (h : Tups w lo hi A ts) (hk : ∀ b, lo ≤ b → b < hi → w'.heap[b]? = w.heap[b]?) : Tups w' lo hi A ts := fun hx => by
  obtain ⟨b, off, h1, h2, h3, h4⟩ := h hx
  refine ⟨b, off, h1, h2, h3, fun k hkx => ?_⟩
  obtain ⟨B, c, h6, h7, h8, h9⟩ := h4 k hkx
  exact ⟨B, c, (World.cell?_of_block (w := w) (a := ⟨b, off + k, none⟩) (hk b h2 h3)).trans h6, h7, h8, h9.keep hk⟩
theorem Tups.mono {w : World} {lo hi lo' hi' : Nat} {A : Option Addr} {ts : TL} (h : Tups w lo hi A ts) (h1 : lo' ≤ lo) (h2 : hi ≤ hi') : Tups w lo' hi' A ts := fun hx => by
  obtain ⟨b, off, e, h3, h4, h5⟩ := h hx
  refine ⟨b, off, e, by omega, by omega, fun k hk => ?_⟩
  obtain ⟨B, c, g2, g3, g4, g5⟩ := h5 k hk
  exact ⟨B, c, g2, g3, g4, g5.mono h1 h2⟩
/-- At A lie the lists ts. -/
def RT (w : World) (A : Option Addr) (ts : TL) : Prop := Tups w 0 w.heap.size A ts
theorem RT.step {w w' : World} {A : Option Addr} {ts : TL} (h : RT w A ts) (b : Below w.heap.size w w') : RT w' A ts := (Tups.keep h fun k _ h2 => b.block k h2).mono (Nat.le_refl _) b.size
theorem RT.at_ {w : World} {A : Option Addr} {ts : TL} (h : RT w A ts) {k : Nat} (hk : k < ts.length) {xs : List Int} (hf : ts.getD k [] = xs) :
    ∃ b off B c, A = some ⟨b, off, none⟩ ∧ b < w.heap.size ∧ w.cell? ⟨b, off + k, none⟩ = some (.slice B xs.length c) ∧ xs.length ≤ c ∧ c ≤ maxLen ∧ RI w B xs := by
  obtain ⟨b, off, h1, h2, h3, h4⟩ := h (by rintro rfl; simp at hk)
  obtain ⟨B, c, h6, h7, h8, h9⟩ := h4 k hk
  subst hf
  exact ⟨b, off, B, c, h1, h3, h6, h7, h8, h9⟩

section
variable {H : Type} {enc : TypeId × Value → H} {w : World}
end

def sumT (l : TL) : Nat := (l.map fun f => f.length).sum
/-- How many values a list of lists holds, each list counted, too. -/
def szT (l : TL) : Int := (l.length : Int) + (sumT l : Int)
theorem szT_nonneg (l : TL) : 0 ≤ szT l := by unfold szT; omega
theorem szT_len {l : TL} (h : szT l ≤ 1048576) : l.length ≤ 1048576 := by unfold szT at h; omega
theorem sumT_take (l : TL) (k : Nat) (hk : k < l.length) : sumT (l.take (k + 1)) = sumT (l.take k) + (l.getD k []).length := by
  unfold sumT
  rw [List.take_succ_eq_append_getElem hk, List.map_append, List.sum_append]
  simp [List.getD_eq_getElem?_getD, hk]
theorem sumT_le (l : TL) (k : Nat) : sumT (l.take k) ≤ sumT l := by
  have : sumT l = sumT (l.take k) + sumT (l.drop k) := by
    unfold sumT
    rw [← List.sum_append, ← List.map_append, List.take_append_drop]
  omega
theorem szT_elem {l : TL} (h : szT l ≤ 1048576) {k : Nat} (hk : k < l.length) : (l.getD k []).length ≤ 1048576 := by
  have h1 := sumT_take l k hk
  have h2 := sumT_le l (k + 1)
  unfold szT at h
  omega

set_option maxRecDepth 100000 in
theorem ints_info : (Try.prog.info? 22).map (fun i => (i.zero, i.size, i.bytes)) = some (some (.slice none 0 0), 1, 24) := by kernel_rfl

/-- Block g begins with the first k of the lists ts, their numbers each in a block of its own, all from lo to below hi. -/
def OwnT (w : World) (lo hi g m k : Nat) (ts : TL) : Prop :=
  lo ≤ g ∧ g < hi ∧ ∃ (F : Nat → Value) (bs : Nat → Nat), w.rowIs g 22 m F ∧ (∀ j, j < k → OwnV w lo hi (F j) (bs j) (ts.getD j [])) ∧
    (∀ i j, i < j → j < k → 0 < (ts.getD i []).length → 0 < (ts.getD j []).length → bs i ≠ bs j)

theorem OwnT.tups {w : World} {lo hi g m : Nat} {ts : TL} (h : OwnT w lo hi g m ts.length ts) (hm : ts.length ≤ m) : Tups w lo hi (some ⟨g, 0, none⟩) ts := fun _ => by
  obtain ⟨h1, h2, F, bs, hr, he, _⟩ := h
  refine ⟨g, 0, rfl, h1, h2, fun k hk => ?_⟩
  have e1 := he k hk
  obtain ⟨A, c, hv, _⟩ := id e1
  rw [hv] at e1
  obtain ⟨_, hc, hcm, hi⟩ := e1.ints
  refine ⟨A, c, ?_, hc, hcm, hi⟩
  rw [Nat.zero_add, World.rowIs.cell hr (show k < m by omega), hv]
theorem OwnT.rt {w : World} {lo g m : Nat} {ts : TL} (h : OwnT w lo w.heap.size g m ts.length ts) (hm : ts.length ≤ m) : RT w (some ⟨g, 0, none⟩) ts := (h.tups hm).mono (Nat.zero_le _) (Nat.le_refl _)

/-- One list more is stored. -/
theorem ownT_step {wr u : World} {lo g m k : Nat} {ts : TL} (h : OwnT wr lo wr.heap.size g m k ts) (hkm : k < m) {xs : List Int} (hf : ts.getD k [] = xs) (hb : Below wr.heap.size wr u)
    {v : Value} {q : Nat} (hv : OwnV u lo u.heap.size v q xs) (hq : 0 < xs.length → wr.heap.size ≤ q) :
    OwnT (u.setCell ⟨g, k, none⟩ v) lo (u.setCell ⟨g, k, none⟩ v).heap.size g m (k + 1) ts := by
  rw [set_size]
  obtain ⟨h1, h2, F, bs, hr, he, hd⟩ := h
  have hs := hb.size
  have hr2 : u.rowIs g 22 m F := World.rowIs.of_block hr (hb.block g h2)
  have far : ∀ b, b ≠ g → (u.setCell ⟨g, k, none⟩ v).heap[b]? = u.heap[b]? := fun b hbg => Below.heap_setCell _ ⟨g, k, none⟩ _ b hbg
  have ne : ∀ b, (∃ c, u.heap[b]? = some (.cells c 3 (0, 0))) → b ≠ g := by
    rintro b ⟨c, hc⟩ rfl
    obtain ⟨c2, hc2, _⟩ := hr2
    rw [hc] at hc2
    injection hc2 with hc2
    injection hc2 with _ ht
    exact absurd ht (by decide)
  have hlt : ∀ j, j < k → 0 < (ts.getD j []).length → bs j < wr.heap.size := fun j hj hp => by
    obtain ⟨A, c, _, _, _, hx⟩ := he j hj
    exact (hx hp).2.2.1
  refine ⟨h1, by omega, _, fun j => if j = k then q else bs j, hr2.set k _, fun j hj => ?_, fun i j hij hj hi0 hj0 => ?_⟩
  · by_cases e : j = k
    · subst e
      simp only [if_pos, hf]
      exact hv.keep fun _ _ hc => far _ (ne _ hc)
    · simp only [e, if_false]
      have e2 : OwnV u lo wr.heap.size (F j) (bs j) (ts.getD j []) := (he j (by omega)).keep fun _ a _ => hb.block _ a
      exact (e2.mono (Nat.le_refl _) hs).keep fun _ _ hc => far _ (ne _ hc)
  · by_cases e : j = k
    · subst e
      have e' : i ≠ j := by omega
      simp only [if_pos, e', if_false]
      have := hlt i hij hi0
      rw [hf] at hj0
      have := hq hj0
      omega
    · have e' : i ≠ k := by omega
      simp only [e, e', if_false]
      exact hd i j hij (by omega) hi0 hj0

theorem ownT_new (w : World) (n : Nat) (C : Array Value) (hC : ∀ i, i < n → C[i]? = some (.slice none 0 0)) (hS : C.size = n) (ts : TL) :
    OwnT (w.alloc (.cells C 22)) w.heap.size (w.alloc (.cells C 22)).heap.size w.heap.size n 0 ts :=
  ⟨Nat.le_refl _, by simp, fun _ => .slice none 0 0, fun _ => 0, ⟨C, by rw [heap_alloc_new], hS, fun i hi => hC i hi⟩, fun j hj => by omega, fun i j _ hj => by omega⟩

end Go.Proofs.Ytimlpdcambmcjaa

namespace Go.Proofs.Ytimlpdcambmcjaa
open Go.ChangeShapes Go.WideShapes Go.ChangeAt Go.RowKit Go.Sort
set_option linter.unusedVariables false
set_option linter.unusedSimpArgs false

/-- The first mark of fact k. -/
def offs (q : Int) (fs : FL) (k : Nat) : Int := q + k + (sumN (fs.take k) : Int)
theorem offs_succ (q : Int) (fs : FL) (k : Nat) (hk : k < fs.length) : offs q fs (k + 1) = offs q fs k + 1 + ((fs.getD k (0, [])).2.length : Int) := by
  unfold offs
  rw [sumN_take fs k hk]
  omega
theorem offs_end (q : Int) (fs : FL) : offs q fs fs.length = q + szF fs := by
  unfold offs szF
  rw [take_all]
  omega
theorem offs_rng (q : Int) (fs : FL) (k : Nat) (hk : k ≤ fs.length) : q ≤ offs q fs k ∧ offs q fs k ≤ q + szF fs := by
  have := sumN_le fs k
  unfold offs szF
  omega
/-- The fact of place j, marked. -/
def mkE (q : Int) (fs : FL) (j : Nat) : Int × List Int := (offs q fs j, marks (offs q fs j + 1) (fs.getD j (0, [])).2.length)
/-- The first k facts are marked. -/
def mkK (q : Int) (fs : FL) (k : Nat) : FL := (List.range fs.length).map fun j => if j < k then mkE q fs j else fs.getD j (0, [])
theorem mkK_length (q : Int) (fs : FL) (k : Nat) : (mkK q fs k).length = fs.length := by simp [mkK]
theorem mkK_getD (q : Int) (fs : FL) (k j : Nat) (hj : j < fs.length) : (mkK q fs k).getD j (0, []) = if j < k then mkE q fs j else fs.getD j (0, []) := by
  simp [mkK, List.getD_eq_getElem?_getD, hj]

theorem OwnP.congr {w : World} {lo hi g m k : Nat} {fs gs : FL} (h : OwnP w lo hi g m k fs) (e : ∀ j, j < k → gs.getD j (0, []) = fs.getD j (0, [])) : OwnP w lo hi g m k gs := by
  obtain ⟨h1, h2, F, bs, hr, he, hd⟩ := h
  refine ⟨h1, h2, F, bs, hr, fun j hj => by rw [e j hj]; exact he j hj, fun i j hij hj => ?_⟩
  rw [e i (by omega), e j hj]
  exact hd i j hij hj

/-- Fact k is marked: its number first, then its values. -/
theorem mark_step {w w2 : World} {lo hi g m k : Nat} {q : Int} {fs : FL} {F : Nat → Value} {bs : Nat → Nat} (h1 : lo ≤ g) (h2 : g < hi) (hr : w.rowIs g 73 m F)
    (he : ∀ j, j < fs.length → F (j * 2) = .int .i64 ((mkK q fs k).getD j (0, [])).1 ∧ OwnV w lo hi (F (j * 2 + 1)) (bs j) ((mkK q fs k).getD j (0, [])).2)
    (hd : ∀ i j, i < j → j < fs.length → 0 < ((mkK q fs k).getD i (0, [])).2.length → 0 < ((mkK q fs k).getD j (0, [])).2.length → bs i ≠ bs j)
    (hk : k < fs.length) (hm : fs.length * 2 ≤ m)
    (hw : (0 < (fs.getD k (0, [])).2.length ∧ Within (bs k) (bs k + 1) (w.setCell ⟨g, k * 2, none⟩ (.int .i64 (offs q fs k))) w2 ∧
        ∃ (mk : Nat) (Fk : Nat → Value), (fs.getD k (0, [])).2.length ≤ mk ∧ w2.rowIs (bs k) 3 mk (fun i => if i < (fs.getD k (0, [])).2.length then .int .i64 (offs q fs k + 1 + i) else Fk i)) ∨
      ((fs.getD k (0, [])).2.length = 0 ∧ w2 = w.setCell ⟨g, k * 2, none⟩ (.int .i64 (offs q fs k)))) :
    OwnP w2 lo hi g m fs.length (mkK q fs (k + 1)) ∧ Within lo hi w w2 := by
  have hk0 := he k hk
  rw [mkK_getD q fs k k hk, if_neg (by omega)] at hk0
  have lens : ∀ j, j < fs.length → ∀ k', ((mkK q fs k').getD j (0, [])).2.length = (fs.getD j (0, [])).2.length := fun j hj k' => by
    rw [mkK_getD q fs k' j hj]
    split
    · rw [mkE, marks_length]
    · rfl
  have hwithin : Within lo hi w w2 := by
    have h0 : Within lo hi w (w.setCell ⟨g, k * 2, none⟩ (.int .i64 (offs q fs k))) := (Within.refl _ _ _).set h1 h2 _
    rcases hw with ⟨hp, hwi, _⟩ | ⟨_, rfl⟩
    · obtain ⟨a, b⟩ := hk0.2.rng hp
      exact h0.trans (hwi.mono a (by omega))
    · exact h0
  have hne : ∀ j, j < fs.length → 0 < (fs.getD j (0, [])).2.length → bs j ≠ g := fun j hj hp e => by
    obtain ⟨_, A, c, _, _, _, hx⟩ := he j hj
    obtain ⟨_, _, _, mm, FF, _, hrow, _⟩ := hx (by rw [lens j hj]; exact hp)
    obtain ⟨c1, hc1, _⟩ := hrow
    obtain ⟨c2, hc2, _⟩ := hr
    rw [e] at hc1
    rw [hc1] at hc2
    injection hc2 with hc2
    injection hc2 with _ ht
    exact absurd ht (by decide)
  have hrow1 := hr.set (k * 2) (.int .i64 (offs q fs k))
  have hg2 : w2.rowIs g 73 m (fun j => if j = k * 2 then .int .i64 (offs q fs k) else F j) := by
    rcases hw with ⟨hp, hwi, _⟩ | ⟨_, rfl⟩
    · have hn := hne k hk hp
      exact World.rowIs.of_block hrow1 (hwi.block g (by omega))
    · exact hrow1
  refine ⟨⟨h1, h2, _, bs, hg2, fun j hj => ?_, fun i j hij hj hi0 hj0 => ?_⟩, hwithin⟩
  · have t1 : ¬ (j * 2 + 1 = k * 2) := by omega
    simp only [t1, if_false]
    by_cases e : j = k
    · subst e
      rw [show (mkK q fs (j + 1)).getD j (0, []) = mkE q fs j from (mkK_getD q fs (j + 1) j hj).trans (if_pos (by omega))]
      refine ⟨if_pos rfl, ?_⟩
      obtain ⟨A, c, hv, hc, hcm, hx⟩ := hk0.2
      refine ⟨A, c, by rw [hv, mkE, marks_length], by rw [mkE, marks_length]; exact hc, hcm, fun hp => ?_⟩
      rw [mkE, marks_length] at hp
      rcases hw with ⟨_, hwi, mk, Fk, hmk, hrk⟩ | ⟨h0, _⟩
      · obtain ⟨a1, a2, a3, _⟩ := hx hp
        refine ⟨a1, a2, a3, mk, _, by rw [mkE, marks_length]; exact hmk, hrk, fun i hi => ?_⟩
        rw [mkE, marks_length] at hi
        rw [mkE, marks_getD _ _ _ hi, if_pos hi]
      · omega
    · have t2 : ¬ (j * 2 = k * 2) := by omega
      simp only [t2, if_false]
      rw [mkK_getD q fs (k + 1) j hj]
      have hj1 := he j hj
      rw [mkK_getD q fs k j hj] at hj1
      have e2 : (if j < k + 1 then mkE q fs j else fs.getD j (0, [])) = (if j < k then mkE q fs j else fs.getD j (0, [])) := by
        by_cases h : j < k
        · rw [if_pos h, if_pos (by omega)]
        · rw [if_neg h, if_neg (by omega)]
      rw [e2]
      refine ⟨hj1.1, hj1.2.keep_len fun hp _ _ => ?_⟩
      have hp2 : 0 < (fs.getD j (0, [])).2.length := by
        have := lens j hj k
        rw [mkK_getD q fs k j hj] at this
        omega
      have hjg := hne j hj hp2
      have hs := Below.heap_setCell w ⟨g, k * 2, none⟩ (.int .i64 (offs q fs k)) (bs j) hjg
      rcases hw with ⟨hpk, hwi, _⟩ | ⟨_, rfl⟩
      · have hjk : bs j ≠ bs k := by
          rcases Nat.lt_or_gt_of_ne e with h | h
          · exact hd j k h hk (by rw [lens j hj]; exact hp2) (by rw [lens k hk]; exact hpk)
          · exact fun x => hd k j h hj (by rw [lens k hk]; exact hpk) (by rw [lens j hj]; exact hp2) x.symm
        exact (hwi.block (bs j) (by omega)).trans hs
      · exact hs
  · rw [lens i (by omega)] at hi0
    rw [lens j hj] at hj0
    exact hd i j hij hj (by rw [lens i (by omega)]; exact hi0) (by rw [lens j hj]; exact hj0)

/-- Marks are found again. -/
theorem held_ints {w : World} {lo hi : Nat} {A : Option Addr} {k : Int} {n : Nat} {xs : List Int} (h : Ints w lo hi A xs) (e : xs = marks k n) : Ints w lo hi A (marks k n) := e ▸ h

end Go.Proofs.Ytimlpdcambmcjaa

namespace Go.Proofs.Ytimlpdcambmcjaa
open Go.ChangeShapes Go.WideShapes Go.ChangeAt Go.RowKit Go.Sort
set_option linter.unusedVariables false
set_option linter.unusedSimpArgs false

/-- The cells cs are the lists ts, their numbers each in a block of its own from lo to below hi. -/
def ItemsT (w : World) (lo hi : Nat) (ts : TL) (cs : List Value) (bs : Nat → Nat) : Prop :=
  cs.length = ts.length ∧ (∀ k, k < ts.length → ∃ v1, cs[k]? = some v1 ∧ OwnV w lo hi v1 (bs k) (ts.getD k [])) ∧
    (∀ i j, i < j → j < ts.length → 0 < (ts.getD i []).length → 0 < (ts.getD j []).length → bs i ≠ bs j)
/-- The slice value v owns a row that is the lists ts. -/
def OwnCT (w : World) (lo hi : Nat) (v : Value) (ts : TL) (cs : List Value) (bs : Nat → Nat) : Prop := w.ownsRow lo 22 1 v ts.length cs ∧ ItemsT w lo hi ts cs bs
theorem ItemsT.keep {w w' : World} {lo hi : Nat} {ts : TL} {cs : List Value} {bs : Nat → Nat} (h : ItemsT w lo hi ts cs bs) (hk : ∀ q, lo ≤ q → q < hi → (∃ c, w.heap[q]? = some (.cells c 3 (0, 0))) → w'.heap[q]? = w.heap[q]?) : ItemsT w' lo hi ts cs bs := by
  obtain ⟨h1, h2, h3⟩ := h
  refine ⟨h1, fun k hkl => ?_, h3⟩
  obtain ⟨v1, e1, hv⟩ := h2 k hkl
  exact ⟨v1, e1, hv.keep (hk _)⟩
theorem ItemsT.mono {w : World} {lo hi lo' hi' : Nat} {ts : TL} {cs : List Value} {bs : Nat → Nat} (h : ItemsT w lo hi ts cs bs) (a : lo' ≤ lo) (b : hi ≤ hi') : ItemsT w lo' hi' ts cs bs := by
  obtain ⟨h1, h2, h3⟩ := h
  refine ⟨h1, fun k hkl => ?_, h3⟩
  obtain ⟨v1, e1, hv⟩ := h2 k hkl
  exact ⟨v1, e1, hv.mono a b⟩
theorem ItemsT.rng {w : World} {lo hi : Nat} {ts : TL} {cs : List Value} {bs : Nat → Nat} (h : ItemsT w lo hi ts cs bs) {k : Nat} (hk : k < ts.length) (hp : 0 < (ts.getD k []).length) : lo ≤ bs k ∧ bs k < hi := by
  obtain ⟨v1, _, hv⟩ := h.2.1 k hk
  exact hv.rng hp
theorem ItemsT.nil (w : World) (lo hi : Nat) : ItemsT w lo hi [] [] (fun _ => 0) := ⟨rfl, fun k hk => by simp at hk, fun i j _ hj => by simp at hj⟩
theorem ItemsT.insert {w : World} {lo mid hi : Nat} {ts : TL} {cs : List Value} {bs : Nat → Nat} (h : ItemsT w lo mid ts cs bs) {q : Nat} {xs : List Int} {v : Value} (hv : OwnV w mid hi v q xs) (a : lo ≤ mid) (b : mid ≤ hi) (k : Nat) (hk : k ≤ ts.length) :
    ItemsT w lo hi (ts.take k ++ xs :: ts.drop k) (cs.take k ++ [v] ++ cs.drop k) (fun j => if j < k then bs j else if j = k then q else bs (j - 1)) := by
  have H := h
  obtain ⟨h1, h2, h3⟩ := h
  have hm : k ≤ cs.length := by omega
  have hc : cs.take k ++ [v] ++ cs.drop k = cs.take k ++ v :: cs.drop k := by simp
  rw [hc]
  refine ⟨?_, fun j hj => ?_, fun i j hij hj hi0 hj0 => ?_⟩
  · rw [ins_len _ _ _ hk, ins_len _ _ _ hm, h1]
  · rw [ins_len _ _ _ hk] at hj
    rw [ins_getD _ _ _ _ hk, ins_get _ _ _ hm]
    by_cases e1 : j < k
    · simp only [if_pos e1]
      obtain ⟨v1, e2, hv1⟩ := h2 j (by omega)
      exact ⟨v1, e2, hv1.mono (Nat.le_refl _) b⟩
    · by_cases e2 : j = k
      · subst e2
        simp only [if_neg e1, if_pos]
        exact ⟨v, rfl, hv.mono a (Nat.le_refl _)⟩
      · simp only [if_neg e1, if_neg e2]
        obtain ⟨v1, e3, hv1⟩ := h2 (j - 1) (by omega)
        exact ⟨v1, e3, hv1.mono (Nat.le_refl _) b⟩
  · rw [ins_len _ _ _ hk] at hj
    rw [ins_getD _ _ _ _ hk] at hi0 hj0
    by_cases j1 : j < k
    · have i1 : i < k := by omega
      simp only [if_pos i1, if_pos j1] at hi0 hj0 ⊢
      exact h3 i j hij (by omega) hi0 hj0
    · by_cases j2 : j = k
      · subst j2
        simp only [if_pos hij, if_neg j1, if_pos] at hi0 hj0 ⊢
        have r1 := H.rng (show i < ts.length by omega) hi0
        have r2 := hv.rng hj0
        omega
      · simp only [if_neg j1, if_neg j2] at hj0 ⊢
        have r2 := H.rng (show j - 1 < ts.length by omega) hj0
        by_cases i1 : i < k
        · simp only [if_pos i1] at hi0 ⊢
          exact h3 i (j - 1) (by omega) (by omega) hi0 hj0
        · by_cases i2 : i = k
          · subst i2
            simp only [if_neg i1, if_pos] at hi0 ⊢
            have r1 := hv.rng hi0
            omega
          · simp only [if_neg i1, if_neg i2] at hi0 ⊢
            exact h3 (i - 1) (j - 1) (by omega) (by omega) hi0 hj0
theorem ItemsT.snoc {w : World} {lo mid hi : Nat} {ts : TL} {cs : List Value} {bs : Nat → Nat} (h : ItemsT w lo mid ts cs bs) {q : Nat} {xs : List Int} {v : Value} (hv : OwnV w mid hi v q xs) (a : lo ≤ mid) (b : mid ≤ hi) :
    ∃ bs2, ItemsT w lo hi (ts ++ [xs]) (cs ++ [v]) bs2 := by
  have := h.insert hv a b ts.length (Nat.le_refl _)
  have hl := h.1
  rw [List.take_length, List.drop_length, List.take_of_length_le (by omega), List.drop_eq_nil_of_le (by omega), List.append_nil] at this
  exact ⟨_, this⟩
theorem OwnCT.step {w w' : World} {lo : Nat} {v : Value} {ts : TL} {cs : List Value} {bs : Nat → Nat} (h : OwnCT w lo w.heap.size v ts cs bs) (b : Below w.heap.size w w') : OwnCT w' lo w'.heap.size v ts cs bs :=
  ⟨h.1.kept (own_none b) (by rcases hv : v.ownBlock with _ | g <;> simp), (h.2.keep fun q _ h2 _ => b.block q h2).mono (Nat.le_refl _) b.size⟩
theorem OwnCT.cur {w w' : World} {lo hi : Nat} {v : Value} {ts : TL} {cs : List Value} {bs : Nat → Nat} (h : OwnCT w lo hi v ts cs bs) (hhi : hi ≤ w.heap.size) (b : Below w.heap.size w w') : OwnCT w' lo hi v ts cs bs :=
  ⟨h.1.kept (own_none b) (by rcases hv : v.ownBlock with _ | g <;> simp), h.2.keep fun q _ h2 _ => b.block q (by omega)⟩
theorem OwnCT.lo {w : World} {lo lo' hi : Nat} {v : Value} {ts : TL} {cs : List Value} {bs : Nat → Nat} (h : OwnCT w lo hi v ts cs bs) (a : lo' ≤ lo) : OwnCT w lo' hi v ts cs bs := ⟨ownsRow_low h.1 a, h.2.mono a (Nat.le_refl _)⟩
/-- Behind an append of one list. -/
theorem ownT_append {w w' : World} {lo mid : Nat} {v v' : Value} {ts : TL} {xs : List Int} {y : Value} {cs : List Value} {bs : Nat → Nat} {q : Nat} (h : OwnCT w lo mid v ts cs bs) (hv : OwnV w mid w.heap.size y q xs) (a : lo ≤ mid) (b : mid ≤ w.heap.size)
    (hown : w'.ownsRow lo 22 1 v' (ts.length + 1) (cs ++ [y])) (hg : w.grownBy w' v.ownBlock) : ∃ bs2, OwnCT w' lo w'.heap.size v' (ts ++ [xs]) (cs ++ [y]) bs2 := by
  obtain ⟨bs2, hI⟩ := h.2.snoc hv a b
  refine ⟨bs2, by rw [List.length_append]; exact hown, (hI.keep fun q _ hq ⟨c, hc⟩ => hg.block q hq fun e => ?_).mono (Nat.le_refl _) hg.size⟩
  rcases h.1.2 with ⟨rfl, _⟩ | ⟨g, cap, cur, rfl, _, hh, _⟩
  · simp [Value.ownBlock] at e
  · have : g = q := own_some e.symm
    subst this
    rw [hc] at hh
    injection hh with hh
    injection hh with _ ht
    exact absurd ht (by decide)
/-- A row that was made in full. -/
theorem OwnCT.of_P {w : World} {lo g : Nat} {ts : TL} (h : OwnT w lo w.heap.size g ts.length ts.length ts) (hl : ts.length ≤ 1048576) : ∃ cs bs, OwnCT w lo w.heap.size (.slice (some ⟨g, 0, none⟩) ts.length ts.length) ts cs bs := by
  obtain ⟨h1, h2, F, bs, hr, he, hd⟩ := h
  obtain ⟨c, hc, hcs, hF⟩ := hr
  refine ⟨c.toList, bs, ⟨by simpa using hcs, .inr ⟨g, ts.length, c, rfl, h1, hc, Nat.le_refl _, by unfold maxLen; omega, by simpa using hcs, ?_⟩⟩, by simpa using hcs, fun k hk => ?_, hd⟩
  · rw [List.take_of_length_le (by simp [hcs])]
  · refine ⟨F k, ?_, he k hk⟩
    rw [Array.getElem?_toList, hF _ (by omega)]
theorem OwnCT.to_P {w : World} {lo g n cap : Nat} {ts : TL} {cs : List Value} {bs : Nat → Nat} (h : OwnCT w lo w.heap.size (.slice (some ⟨g, 0, none⟩) n cap) ts cs bs) : n = ts.length ∧ n ≤ cap ∧ OwnT w lo w.heap.size g cap ts.length ts := by
  obtain ⟨⟨hl, h⟩, h1, h2, h3⟩ := h
  rcases h with ⟨h, _⟩ | ⟨g', cap', cur, hv, hb, hg, hnc, hcm, hcs, htk⟩
  · cases h
  · injection hv with e1 e2 e3
    injection e1 with e1
    injection e1 with e1
    subst e1 e3
    have hlt : g < w.heap.size := by
      rcases Nat.lt_or_ge g w.heap.size with hlt | hge
      · exact hlt
      · rw [Array.getElem?_eq_none hge] at hg; cases hg
    have at_ : ∀ i u, cs[i]? = some u → cur.getD i undef = u := fun i u hu => by
      have hi : i < ts.length * 1 := by have := (List.getElem?_eq_some_iff.1 hu).1; omega
      rw [← htk, List.getElem?_take_of_lt hi, Array.getElem?_toList] at hu
      simp [Array.getD_eq_getD_getElem?, hu]
    refine ⟨e2, by omega, hb, hlt, fun i => cur.getD i undef, bs, ⟨cur, hg, by omega, fun i hi => by simp [Array.getD_eq_getD_getElem?, show i < cur.size by omega]⟩, fun j hj => ?_, h3⟩
    obtain ⟨v1, e1, hv⟩ := h2 j hj
    show OwnV w lo w.heap.size (cur.getD j undef) (bs j) _
    rw [at_ _ _ e1]
    exact hv
theorem OwnCT.form {w : World} {lo hi : Nat} {v : Value} {ts : TL} {cs : List Value} {bs : Nat → Nat} (h : OwnCT w lo hi v ts cs bs) : ∃ A c, v = .slice A ts.length c := by
  rcases h.1.2 with ⟨rfl, h0⟩ | ⟨g, cap, _, rfl, _⟩
  · exact ⟨none, 0, by rw [h0]⟩
  · exact ⟨_, _, rfl⟩
theorem OwnCT.addr {w : World} {lo hi n c : Nat} {A : Option Addr} {ts : TL} {cs : List Value} {bs : Nat → Nat} (h : OwnCT w lo hi (.slice A n c) ts cs bs) : (A = none ∧ ts = []) ∨ ∃ g, A = some ⟨g, 0, none⟩ := by
  rcases h.1.2 with ⟨hv, h0⟩ | ⟨g', cap, _, hv, _⟩
  · injection hv with e1
    exact .inl ⟨e1, List.eq_nil_of_length_eq_zero h0⟩
  · injection hv with e1
    exact .inr ⟨g', e1⟩
theorem OwnCT.rt {w : World} {lo n c : Nat} {A : Option Addr} {ts : TL} {cs : List Value} {bs : Nat → Nat} (h : OwnCT w lo w.heap.size (.slice A n c) ts cs bs) : RT w A ts := by
  rcases h.addr with ⟨rfl, rfl⟩ | ⟨g, rfl⟩
  · exact fun hne => absurd rfl hne
  · obtain ⟨e, hc, hp⟩ := h.to_P
    exact hp.rt (by omega)
theorem ownCT_cells {w : World} {lo hi g n c : Nat} {ts : TL} {cs : List Value} {bs : Nat → Nat} (h : OwnCT w lo hi (.slice (some ⟨g, 0, none⟩) n c) ts cs bs) : ∀ j v, cs[j]? = some v → w.cell? ⟨g, j, none⟩ = some v := fun j v hj => by
  have := h.1.cells (g := g) rfl j v hj
  rwa [add_eq, Nat.zero_add] at this
theorem itemsT_one {w : World} {lo hi : Nat} {ts : TL} {cs : List Value} {bs : Nat → Nat} (h : ItemsT w lo hi ts cs bs) : ∀ x ∈ cs, x.oneCell' = true := fun x hx => by
  obtain ⟨j, hj⟩ := List.getElem?_of_mem hx
  have hlt : j < ts.length := by have := (List.getElem?_eq_some_iff.1 hj).1; have := h.1; omega
  obtain ⟨v1, e1, hv⟩ := h.2.1 j hlt
  rw [hj] at e1
  injection e1 with e1
  subst e1
  obtain ⟨A, c, rfl, _⟩ := hv
  rfl

/-- The list before the first one that is greater. -/
def addTI : TL → List Int → TL
  | [], t => [t]
  | x :: r, t => if cmpL t x < 0 then t :: x :: r else x :: addTI r t
def addT (l : TL) (t : List Int) : TL := if t ∈ l then l else addTI l t
theorem addTI_at : ∀ (l : TL) (t : List Int) (k : Nat), k ≤ l.length → (∀ j, j < k → ¬ cmpL t (l.getD j []) < 0) → (k < l.length → cmpL t (l.getD k []) < 0) → addTI l t = l.take k ++ t :: l.drop k
  | [], t, k, hk, _, _ => by
    have : k = 0 := by simpa using hk
    subst this
    rfl
  | g :: r, t, 0, _, _, h2 => by
    have h := h2 (by simp)
    simp only [List.getD_cons_zero] at h
    rw [addTI, if_pos h]
    rfl
  | g :: r, t, k + 1, hk, h1, h2 => by
    have h := h1 0 (by omega)
    simp only [List.getD_cons_zero] at h
    have ih := addTI_at r t k (by simpa using hk) (fun j hj => by have := h1 (j + 1) (by omega); simpa using this) (fun hlt => by have := h2 (by simpa using hlt); simpa using this)
    rw [addTI, if_neg h, ih]
    rfl
theorem getD_memT {l : TL} {k : Nat} (hk : k < l.length) : l.getD k [] ∈ l := by
  rw [List.getD_eq_getElem?_getD, List.getElem?_eq_getElem hk]
  exact List.getElem_mem _
theorem memT_iff (l : TL) (t : List Int) : t ∈ l ↔ ∃ k, k < l.length ∧ decide (cmpL (l.getD k []) t = 0) = true := by
  constructor
  · intro h
    obtain ⟨k, hk, rfl⟩ := List.getElem_of_mem h
    exact ⟨k, hk, decide_eq_true ((cmpL_zero _ _).2 (by simp [List.getD_eq_getElem?_getD, hk]))⟩
  · rintro ⟨k, hk, h⟩
    have := (cmpL_zero _ _).1 (of_decide_eq_true h)
    rw [← this]
    exact getD_memT hk
theorem addTI_gr {l : TL} {t : List Int} (h : t ∉ l) {k : Nat} (hk : k ≤ l.length) (h1 : ∀ j, j < k → decide (cmpL (l.getD j []) t > 0) = false) (h2 : k < l.length → decide (cmpL (l.getD k []) t > 0) = true) : addTI l t = l.take k ++ t :: l.drop k := by
  refine addTI_at l t k hk (fun j hj => ?_) (fun hlt => ?_)
  · have := of_decide_eq_false (h1 j hj)
    have a := cmpL_anti t (l.getD j [])
    omega
  · have := of_decide_eq_true (h2 hlt)
    have a := cmpL_anti t (l.getD k [])
    omega
theorem sumT_ins (l : TL) (t : List Int) (k : Nat) : sumT (l.take k ++ t :: l.drop k) = sumT l + t.length := by
  have : sumT l = sumT (l.take k) + sumT (l.drop k) := by
    unfold sumT
    rw [← List.sum_append, ← List.map_append, List.take_append_drop]
  rw [this]
  simp [sumT]; omega
theorem addTI_form : ∀ (l : TL) (t : List Int), ∃ k, k ≤ l.length ∧ addTI l t = l.take k ++ t :: l.drop k
  | [], t => ⟨0, by simp, rfl⟩
  | x :: r, t => by
    obtain ⟨k, hk, e⟩ := addTI_form r t
    by_cases h : cmpL t x < 0
    · exact ⟨0, by simp, by rw [addTI, if_pos h]; rfl⟩
    · exact ⟨k + 1, by simpa using hk, by rw [addTI, if_neg h, e]; rfl⟩
theorem addT_mem {l : TL} {t x : List Int} (h : x ∈ addT l t) : x ∈ l ∨ x = t := by
  unfold addT at h
  split at h
  · exact .inl h
  · obtain ⟨k, _, e⟩ := addTI_form l t
    rw [e, List.mem_append, List.mem_cons] at h
    rcases h with h | h | h
    · exact .inl (List.mem_of_mem_take h)
    · exact .inr h
    · exact .inl (List.mem_of_mem_drop h)
theorem addT_len (l : TL) (t : List Int) : (addT l t).length ≤ l.length + 1 := by
  unfold addT
  split
  · omega
  · obtain ⟨k, hk, e⟩ := addTI_form l t
    rw [e, ins_len _ _ _ hk]
    exact Nat.le_refl _
theorem addT_sum (l : TL) (t : List Int) : sumT (addT l t) ≤ sumT l + t.length := by
  unfold addT
  split
  · omega
  · obtain ⟨k, hk, e⟩ := addTI_form l t
    rw [e, sumT_ins]
    exact Nat.le_refl _

/-- A list of lists of the call's own is returned. -/
def AddOutT (w : World) (res : TL) (e : Ending) (w' : World) : Prop :=
  ∃ A c cs bs, e = .returned (.slice A res.length c) ∧ OwnCT w' w.heap.size w'.heap.size (.slice A res.length c) res cs bs ∧ Below w.heap.size w w'

/-! Marks. -/
def offT (q : Int) (ts : TL) (k : Nat) : Int := q + (sumT (ts.take k) : Int)
theorem offT_succ (q : Int) (ts : TL) (k : Nat) (hk : k < ts.length) : offT q ts (k + 1) = offT q ts k + ((ts.getD k []).length : Int) := by
  unfold offT
  rw [sumT_take ts k hk]
  omega
theorem offT_end (q : Int) (ts : TL) : offT q ts ts.length = q + sumT ts := by
  unfold offT
  rw [take_all]
theorem offT_rng (q : Int) (ts : TL) (k : Nat) : q ≤ offT q ts k ∧ offT q ts k ≤ q + sumT ts := by
  have := sumT_le ts k
  unfold offT
  omega
/-- The first k lists are marked. -/
def mkT (q : Int) (ts : TL) (k : Nat) : TL := (List.range ts.length).map fun j => if j < k then marks (offT q ts j) (ts.getD j []).length else ts.getD j []
theorem mkT_length (q : Int) (ts : TL) (k : Nat) : (mkT q ts k).length = ts.length := by simp [mkT]
theorem mkT_getD (q : Int) (ts : TL) (k j : Nat) (hj : j < ts.length) : (mkT q ts k).getD j [] = if j < k then marks (offT q ts j) (ts.getD j []).length else ts.getD j [] := by
  simp [mkT, List.getD_eq_getElem?_getD, hj]
theorem mkT_len (q : Int) (ts : TL) (k j : Nat) (hj : j < ts.length) : ((mkT q ts k).getD j []).length = (ts.getD j []).length := by
  rw [mkT_getD q ts k j hj]
  split
  · rw [marks_length]
  · rfl
theorem OwnT.congr {w : World} {lo hi g m k : Nat} {fs gs : TL} (h : OwnT w lo hi g m k fs) (e : ∀ j, j < k → gs.getD j [] = fs.getD j []) : OwnT w lo hi g m k gs := by
  obtain ⟨h1, h2, F, bs, hr, he, hd⟩ := h
  refine ⟨h1, h2, F, bs, hr, fun j hj => by rw [e j hj]; exact he j hj, fun i j hij hj => ?_⟩
  rw [e i (by omega), e j hj]
  exact hd i j hij hj
/-- List k is marked. -/
theorem markT_step {w w2 : World} {lo hi g m k : Nat} {q : Int} {ts : TL} {F : Nat → Value} {bs : Nat → Nat} (h1 : lo ≤ g) (h2 : g < hi) (hr : w.rowIs g 22 m F)
    (he : ∀ j, j < ts.length → OwnV w lo hi (F j) (bs j) ((mkT q ts k).getD j []))
    (hd : ∀ i j, i < j → j < ts.length → 0 < ((mkT q ts k).getD i []).length → 0 < ((mkT q ts k).getD j []).length → bs i ≠ bs j)
    (hk : k < ts.length)
    (hw : (0 < (ts.getD k []).length ∧ Within (bs k) (bs k + 1) w w2 ∧
        ∃ (mk : Nat) (Fk : Nat → Value), (ts.getD k []).length ≤ mk ∧ w2.rowIs (bs k) 3 mk (fun i => if i < (ts.getD k []).length then .int .i64 (offT q ts k + i) else Fk i)) ∨
      ((ts.getD k []).length = 0 ∧ w2 = w)) :
    OwnT w2 lo hi g m ts.length (mkT q ts (k + 1)) ∧ Within lo hi w w2 := by
  have hk0 := he k hk
  rw [mkT_getD q ts k k hk, if_neg (by omega)] at hk0
  have hwithin : Within lo hi w w2 := by
    rcases hw with ⟨hp, hwi, _⟩ | ⟨_, rfl⟩
    · obtain ⟨a, b⟩ := hk0.rng hp
      exact hwi.mono a (by omega)
    · exact Within.refl _ _ _
  have hne : ∀ j, j < ts.length → 0 < (ts.getD j []).length → bs j ≠ g := fun j hj hp e => by
    obtain ⟨A, c, _, _, _, hx⟩ := he j hj
    obtain ⟨_, _, _, mm, FF, _, hrow, _⟩ := hx (by rw [mkT_len q ts k j hj]; exact hp)
    obtain ⟨c1, hc1, _⟩ := hrow
    obtain ⟨c2, hc2, _⟩ := hr
    rw [e] at hc1
    rw [hc1] at hc2
    injection hc2 with hc2
    injection hc2 with _ ht
    exact absurd ht (by decide)
  have hg2 : w2.rowIs g 22 m F := by
    rcases hw with ⟨hp, hwi, _⟩ | ⟨_, rfl⟩
    · have hn := hne k hk hp
      exact World.rowIs.of_block hr (hwi.block g (by omega))
    · exact hr
  refine ⟨⟨h1, h2, F, bs, hg2, fun j hj => ?_, fun i j hij hj hi0 hj0 => ?_⟩, hwithin⟩
  · by_cases e : j = k
    · subst e
      rw [mkT_getD q ts (j + 1) j hj, if_pos (by omega)]
      obtain ⟨A, c, hv, hc, hcm, hx⟩ := hk0
      refine ⟨A, c, by rw [hv, marks_length], by rw [marks_length]; exact hc, hcm, fun hp => ?_⟩
      rw [marks_length] at hp
      rcases hw with ⟨_, hwi, mk, Fk, hmk, hrk⟩ | ⟨h0, _⟩
      · obtain ⟨a1, a2, a3, _⟩ := hx hp
        refine ⟨a1, a2, a3, mk, _, by rw [marks_length]; exact hmk, hrk, fun i hi => ?_⟩
        rw [marks_length] at hi
        rw [marks_getD _ _ _ hi, if_pos hi]
      · omega
    · rw [mkT_getD q ts (k + 1) j hj]
      have hj1 := he j hj
      rw [mkT_getD q ts k j hj] at hj1
      have e2 : (if j < k + 1 then marks (offT q ts j) (ts.getD j []).length else ts.getD j []) = (if j < k then marks (offT q ts j) (ts.getD j []).length else ts.getD j []) := by
        by_cases h : j < k
        · rw [if_pos h, if_pos (by omega)]
        · rw [if_neg h, if_neg (by omega)]
      rw [e2]
      refine hj1.keep_len fun hp _ _ => ?_
      have hp2 : 0 < (ts.getD j []).length := by
        have := mkT_len q ts k j hj
        rw [mkT_getD q ts k j hj] at this
        omega
      rcases hw with ⟨hpk, hwi, _⟩ | ⟨_, rfl⟩
      · have hjk : bs j ≠ bs k := by
          rcases Nat.lt_or_gt_of_ne e with h | h
          · exact hd j k h hk (by rw [mkT_len q ts k j hj]; exact hp2) (by rw [mkT_len q ts k k hk]; exact hpk)
          · exact fun x => hd k j h hj (by rw [mkT_len q ts k k hk]; exact hpk) (by rw [mkT_len q ts k j hj]; exact hp2) x.symm
        exact hwi.block (bs j) (by omega)
      · rfl
  · rw [mkT_len q ts (k + 1) i (by omega)] at hi0
    rw [mkT_len q ts (k + 1) j hj] at hj0
    exact hd i j hij hj (by rw [mkT_len q ts k i (by omega)]; exact hi0) (by rw [mkT_len q ts k j hj]; exact hj0)

end Go.Proofs.Ytimlpdcambmcjaa

namespace Go.Proofs.Ytimlpdcambmcjaa
open Go.ChangeShapes Go.WideShapes Go.ChangeAt Go.RowKit Go.Sort
set_option linter.unusedVariables false
set_option linter.unusedSimpArgs false

theorem cmpL_trans : ∀ xs ys zs : List Int, cmpL xs ys < 0 → cmpL ys zs < 0 → cmpL xs zs < 0
  | [], [], _, h, _ => by simp [cmpL] at h
  | [], _ :: _, [], _, h => by simp [cmpL] at h
  | [], _ :: _, _ :: _, _, _ => by simp [cmpL]
  | _ :: _, [], _, h, _ => by simp [cmpL] at h
  | _ :: _, _ :: _, [], _, h => by simp [cmpL] at h
  | x :: xs, y :: ys, z :: zs, h1, h2 => by
    have ih := cmpL_trans xs ys zs
    unfold cmpL at h1 h2 ⊢
    by_cases a1 : x < y
    · by_cases a2 : y < z
      · rw [if_pos (by omega)]; omega
      · rw [if_neg a2] at h2
        by_cases a3 : z < y
        · rw [if_pos a3] at h2; omega
        · rw [if_pos (by omega)]; omega
    · rw [if_neg a1] at h1
      by_cases a3 : y < x
      · rw [if_pos a3] at h1; omega
      · rw [if_neg a3] at h1
        by_cases a2 : y < z
        · rw [if_pos (by omega)]; omega
        · rw [if_neg a2] at h2
          by_cases a4 : z < y
          · rw [if_pos a4] at h2; omega
          · rw [if_neg a4] at h2
            rw [if_neg (by omega), if_neg (by omega)]
            exact ih h1 h2
/-- Is xs before ys? -/
def ltL (xs ys : List Int) : Prop := cmpL xs ys < 0
theorem ltL_irrefl (xs : List Int) : ¬ ltL xs xs := by
  unfold ltL
  rw [(cmpL_zero xs xs).2 rfl]
  omega
theorem ltL_trans {xs ys zs : List Int} (h1 : ltL xs ys) (h2 : ltL ys zs) : ltL xs zs := cmpL_trans _ _ _ h1 h2
theorem ltL_total {xs ys : List Int} (h1 : ¬ ltL xs ys) (h2 : xs ≠ ys) : ltL ys xs := by
  have h3 := cmpL_anti xs ys
  unfold ltL at *
  have : cmpL xs ys ≠ 0 := fun e => h2 ((cmpL_zero _ _).1 e)
  omega
abbrev AscT (l : List (List Int)) : Prop := l.Pairwise ltL
theorem AscT.nodup {l : List (List Int)} (h : AscT l) : l.Nodup := by
  show List.Pairwise (fun a b => a ≠ b) l
  refine List.Pairwise.imp ?_ h
  intro a b hab e
  subst e
  exact ltL_irrefl a hab
/-- Two ascending lists of the same members are one. -/
theorem ascT_unique : ∀ (l l' : List (List Int)), AscT l → AscT l' → (∀ x, x ∈ l ↔ x ∈ l') → l = l'
  | [], [], _, _, _ => rfl
  | [], g :: t', _, _, hm => absurd ((hm g).2 (List.mem_cons_self)) (by simp)
  | f :: t, [], _, _, hm => absurd ((hm f).1 (List.mem_cons_self)) (by simp)
  | f :: t, g :: t', h, h', hm => by
    have a := List.pairwise_cons.1 h
    have b := List.pairwise_cons.1 h'
    have e : f = g := by
      rcases List.mem_cons.1 ((hm f).1 (List.mem_cons_self)) with e | e
      · exact e
      · rcases List.mem_cons.1 ((hm g).2 (List.mem_cons_self)) with e2 | e2
        · exact e2.symm
        · exact absurd (ltL_trans (b.1 f e) (a.1 g e2)) (ltL_irrefl g)
    subst e
    rw [ascT_unique t t' a.2 b.2 fun x => ⟨fun hx => by
      rcases List.mem_cons.1 ((hm x).1 (List.mem_cons_of_mem _ hx)) with e | e
      · subst e; exact absurd (a.1 x hx) (ltL_irrefl x)
      · exact e, fun hx => by
      rcases List.mem_cons.1 ((hm x).2 (List.mem_cons_of_mem _ hx)) with e | e
      · subst e; exact absurd (b.1 x hx) (ltL_irrefl x)
      · exact e⟩]
end Go.Proofs.Ytimlpdcambmcjaa
