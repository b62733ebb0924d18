/- Lists of lists of the call's own that grow; where one more stands; marks on them. Conditions: none beyond each theorem's own. The order of lists of numbers is transitive. Conditions: none beyond each theorem's own. Answers, purely: all bindings by matching atom after atom, their heads in order. Conditions: none beyond each theorem's own. -/
import Derived.Test.YtimlpdcambmcjaaGreatS5
import Derived.Test.YtimlpdcambmcjaaGreatS6
import Derived.Test.YtimlpdcambmcjaaGreatS3

namespace Go.Proofs.YtimlpdcambmcjaaGreat
open Go.ChangeShapes Go.WideShapes Go.ChangeAt Go.RowKit Go.Sort
set_option linter.unusedVariables false
set_option linter.unusedSimpArgs false

/-- The cells cs are the lists ts, their numbers each in a block of its own from lo to below hi. -/
def ItemsT (w : World) (lo hi : Nat) (ts : TL) (cs : List Value) (bs : Nat → Nat) : Prop :=
  cs.length = ts.length ∧ (∀ k, k < ts.length → ∃ v1, cs[k]? = some v1 ∧ OwnV w lo hi v1 (bs k) (ts.getD k [])) ∧
    (∀ i j, i < j → j < ts.length → 0 < (ts.getD i []).length → 0 < (ts.getD j []).length → bs i ≠ bs j)
/-- The slice value v owns a row that is the lists ts. -/
def OwnCT (w : World) (lo hi : Nat) (v : Value) (ts : TL) (cs : List Value) (bs : Nat → Nat) : Prop := w.ownsRow lo 22 1 v ts.length cs ∧ ItemsT w lo hi ts cs bs
theorem ItemsT.keep {w w' : World} {lo hi : Nat} {ts : TL} {cs : List Value} {bs : Nat → Nat} (h : ItemsT w lo hi ts cs bs) (hk : ∀ q, lo ≤ q → q < hi → (∃ c, w.heap[q]? = some (.cells c 3 (0, 0))) → w'.heap[q]? = w.heap[q]?) : ItemsT w' lo hi ts cs bs := by
  obtain ⟨h1, h2, h3⟩ := h
  refine ⟨h1, fun k hkl => ?_, h3⟩
  obtain ⟨v1, e1, hv⟩ := h2 k hkl
  exact ⟨v1, e1, hv.keep (hk _)⟩
theorem ItemsT.mono {w : World} {lo hi lo' hi' : Nat} {ts : TL} {cs : List Value} {bs : Nat → Nat} (h : ItemsT w lo hi ts cs bs) (a : lo' ≤ lo) (b : hi ≤ hi') : ItemsT w lo' hi' ts cs bs := by
  obtain ⟨h1, h2, h3⟩ := h
  refine ⟨h1, fun k hkl => ?_, h3⟩
  obtain ⟨v1, e1, hv⟩ := h2 k hkl
  exact ⟨v1, e1, hv.mono a b⟩
theorem ItemsT.rng {w : World} {lo hi : Nat} {ts : TL} {cs : List Value} {bs : Nat → Nat} (h : ItemsT w lo hi ts cs bs) {k : Nat} (hk : k < ts.length) (hp : 0 < (ts.getD k []).length) : lo ≤ bs k ∧ bs k < hi := by
  obtain ⟨v1, _, hv⟩ := h.2.1 k hk
  exact hv.rng hp
theorem ItemsT.nil (w : World) (lo hi : Nat) : ItemsT w lo hi [] [] (fun _ => 0) := ⟨rfl, fun k hk => by simp at hk, fun i j _ hj => by simp at hj⟩
theorem ItemsT.insert {w : World} {lo mid hi : Nat} {ts : TL} {cs : List Value} {bs : Nat → Nat} (h : ItemsT w lo mid ts cs bs) {q : Nat} {xs : List Int} {v : Value} (hv : OwnV w mid hi v q xs) (a : lo ≤ mid) (b : mid ≤ hi) (k : Nat) (hk : k ≤ ts.length) :
    ItemsT w lo hi (ts.take k ++ xs :: ts.drop k) (cs.take k ++ [v] ++ cs.drop k) (fun j => if j < k then bs j else if j = k then q else bs (j - 1)) := by
  have H := h
  obtain ⟨h1, h2, h3⟩ := h
  have hm : k ≤ cs.length := by omega
  have hc : cs.take k ++ [v] ++ cs.drop k = cs.take k ++ v :: cs.drop k := by simp
  rw [hc]
  refine ⟨?_, fun j hj => ?_, fun i j hij hj hi0 hj0 => ?_⟩
  · rw [ins_len _ _ _ hk, ins_len _ _ _ hm, h1]
  · rw [ins_len _ _ _ hk] at hj
    rw [ins_getD _ _ _ _ hk, ins_get _ _ _ hm]
    by_cases e1 : j < k
    · simp only [if_pos e1]
      obtain ⟨v1, e2, hv1⟩ := h2 j (by omega)
      exact ⟨v1, e2, hv1.mono (Nat.le_refl _) b⟩
    · by_cases e2 : j = k
      · subst e2
        simp only [if_neg e1, if_pos]
        exact ⟨v, rfl, hv.mono a (Nat.le_refl _)⟩
      · simp only [if_neg e1, if_neg e2]
        obtain ⟨v1, e3, hv1⟩ := h2 (j - 1) (by omega)
        exact ⟨v1, e3, hv1.mono (Nat.le_refl _) b⟩
  · rw [ins_len _ _ _ hk] at hj
    rw [ins_getD _ _ _ _ hk] at hi0 hj0
    by_cases j1 : j < k
    · have i1 : i < k := by omega
      simp only [if_pos i1, if_pos j1] at hi0 hj0 ⊢
      exact h3 i j hij (by omega) hi0 hj0
    · by_cases j2 : j = k
      · subst j2
        simp only [if_pos hij, if_neg j1, if_pos] at hi0 hj0 ⊢
        have r1 := H.rng (show i < ts.length by omega) hi0
        have r2 := hv.rng hj0
        omega
      · simp only [if_neg j1, if_neg j2] at hj0 ⊢
        have r2 := H.rng (show j - 1 < ts.length by omega) hj0
        by_cases i1 : i < k
        · simp only [if_pos i1] at hi0 ⊢
          exact h3 i (j - 1) (by omega) (by omega) hi0 hj0
        · by_cases i2 : i = k
          · subst i2
            simp only [if_neg i1, if_pos] at hi0 ⊢
            have r1 := hv.rng hi0
            omega
          · simp only [if_neg i1, if_neg i2] at hi0 ⊢
            exact h3 (i - 1) (j - 1) (by omega) (by omega) hi0 hj0
theorem ItemsT.snoc {w : World} {lo mid hi : Nat} {ts : TL} {cs : List Value} {bs : Nat → Nat} (h : ItemsT w lo mid ts cs bs) {q : Nat} {xs : List Int} {v : Value} (hv : OwnV w mid hi v q xs) (a : lo ≤ mid) (b : mid ≤ hi) :
    ∃ bs2, ItemsT w lo hi (ts ++ [xs]) (cs ++ [v]) bs2 := by
  have := h.insert hv a b ts.length (Nat.le_refl _)
  have hl := h.1
  rw [List.take_length, List.drop_length, List.take_of_length_le (by omega), List.drop_eq_nil_of_le (by omega), List.append_nil] at this
  exact ⟨_, this⟩
theorem OwnCT.step {w w' : World} {lo : Nat} {v : Value} {ts : TL} {cs : List Value} {bs : Nat → Nat} (h : OwnCT w lo w.heap.size v ts cs bs) (b : Below w.heap.size w w') : OwnCT w' lo w'.heap.size v ts cs bs :=
  ⟨h.1.kept (own_none b) (by rcases hv : v.ownBlock with _ | g <;> simp), (h.2.keep fun q _ h2 _ => b.block q h2).mono (Nat.le_refl _) b.size⟩
theorem OwnCT.cur {w w' : World} {lo hi : Nat} {v : Value} {ts : TL} {cs : List Value} {bs : Nat → Nat} (h : OwnCT w lo hi v ts cs bs) (hhi : hi ≤ w.heap.size) (b : Below w.heap.size w w') : OwnCT w' lo hi v ts cs bs :=
  ⟨h.1.kept (own_none b) (by rcases hv : v.ownBlock with _ | g <;> simp), h.2.keep fun q _ h2 _ => b.block q (by omega)⟩
theorem OwnCT.lo {w : World} {lo lo' hi : Nat} {v : Value} {ts : TL} {cs : List Value} {bs : Nat → Nat} (h : OwnCT w lo hi v ts cs bs) (a : lo' ≤ lo) : OwnCT w lo' hi v ts cs bs := ⟨ownsRow_low h.1 a, h.2.mono a (Nat.le_refl _)⟩
/-- Behind an append of one list. -/
theorem ownT_append {w w' : World} {lo mid : Nat} {v v' : Value} {ts : TL} {xs : List Int} {y : Value} {cs : List Value} {bs : Nat → Nat} {q : Nat} (h : OwnCT w lo mid v ts cs bs) (hv : OwnV w mid w.heap.size y q xs) (a : lo ≤ mid) (b : mid ≤ w.heap.size)
    (hown : w'.ownsRow lo 22 1 v' (ts.length + 1) (cs ++ [y])) (hg : w.grownBy w' v.ownBlock) : ∃ bs2, OwnCT w' lo w'.heap.size v' (ts ++ [xs]) (cs ++ [y]) bs2 := by
  obtain ⟨bs2, hI⟩ := h.2.snoc hv a b
  refine ⟨bs2, by rw [List.length_append]; exact hown, (hI.keep fun q _ hq ⟨c, hc⟩ => hg.block q hq fun e => ?_).mono (Nat.le_refl _) hg.size⟩
  rcases h.1.2 with ⟨rfl, _⟩ | ⟨g, cap, cur, rfl, _, hh, _⟩
  · simp [Value.ownBlock] at e
  · have : g = q := own_some e.symm
    subst this
    rw [hc] at hh
    injection hh with hh
    injection hh with _ ht
    exact absurd ht (by decide)
/-- A row that was made in full. -/
theorem OwnCT.of_P {w : World} {lo g : Nat} {ts : TL} (h : OwnT w lo w.heap.size g ts.length ts.length ts) (hl : ts.length ≤ 1048576) : ∃ cs bs, OwnCT w lo w.heap.size (.slice (some ⟨g, 0, none⟩) ts.length ts.length) ts cs bs := by
  obtain ⟨h1, h2, F, bs, hr, he, hd⟩ := h
  obtain ⟨c, hc, hcs, hF⟩ := hr
  refine ⟨c.toList, bs, ⟨by simpa using hcs, .inr ⟨g, ts.length, c, rfl, h1, hc, Nat.le_refl _, by unfold maxLen; omega, by simpa using hcs, ?_⟩⟩, by simpa using hcs, fun k hk => ?_, hd⟩
  · rw [List.take_of_length_le (by simp [hcs])]
  · refine ⟨F k, ?_, he k hk⟩
    rw [Array.getElem?_toList, hF _ (by omega)]
theorem OwnCT.to_P {w : World} {lo g n cap : Nat} {ts : TL} {cs : List Value} {bs : Nat → Nat} (h : OwnCT w lo w.heap.size (.slice (some ⟨g, 0, none⟩) n cap) ts cs bs) : n = ts.length ∧ n ≤ cap ∧ OwnT w lo w.heap.size g cap ts.length ts := by
  obtain ⟨⟨hl, h⟩, h1, h2, h3⟩ := h
  rcases h with ⟨h, _⟩ | ⟨g', cap', cur, hv, hb, hg, hnc, hcm, hcs, htk⟩
  · cases h
  · injection hv with e1 e2 e3
    injection e1 with e1
    injection e1 with e1
    subst e1 e3
    have hlt : g < w.heap.size := by
      rcases Nat.lt_or_ge g w.heap.size with hlt | hge
      · exact hlt
      · rw [Array.getElem?_eq_none hge] at hg; cases hg
    have at_ : ∀ i u, cs[i]? = some u → cur.getD i undef = u := fun i u hu => by
      have hi : i < ts.length * 1 := by have := (List.getElem?_eq_some_iff.1 hu).1; omega
      rw [← htk, List.getElem?_take_of_lt hi, Array.getElem?_toList] at hu
      simp [Array.getD_eq_getD_getElem?, hu]
    refine ⟨e2, by omega, hb, hlt, fun i => cur.getD i undef, bs, ⟨cur, hg, by omega, fun i hi => by simp [Array.getD_eq_getD_getElem?, show i < cur.size by omega]⟩, fun j hj => ?_, h3⟩
    obtain ⟨v1, e1, hv⟩ := h2 j hj
    show OwnV w lo w.heap.size (cur.getD j undef) (bs j) _
    rw [at_ _ _ e1]
    exact hv
theorem OwnCT.form {w : World} {lo hi : Nat} {v : Value} {ts : TL} {cs : List Value} {bs : Nat → Nat} (h : OwnCT w lo hi v ts cs bs) : ∃ A c, v = .slice A ts.length c := by
  rcases h.1.2 with ⟨rfl, h0⟩ | ⟨g, cap, _, rfl, _⟩
  · exact ⟨none, 0, by rw [h0]⟩
  · exact ⟨_, _, rfl⟩
theorem OwnCT.addr {w : World} {lo hi n c : Nat} {A : Option Addr} {ts : TL} {cs : List Value} {bs : Nat → Nat} (h : OwnCT w lo hi (.slice A n c) ts cs bs) : (A = none ∧ ts = []) ∨ ∃ g, A = some ⟨g, 0, none⟩ := by
  rcases h.1.2 with ⟨hv, h0⟩ | ⟨g', cap, _, hv, _⟩
  · injection hv with e1
    exact .inl ⟨e1, List.eq_nil_of_length_eq_zero h0⟩
  · injection hv with e1
    exact .inr ⟨g', e1⟩
theorem OwnCT.rt {w : World} {lo n c : Nat} {A : Option Addr} {ts : TL} {cs : List Value} {bs : Nat → Nat} (h : OwnCT w lo w.heap.size (.slice A n c) ts cs bs) : RT w A ts := by
  rcases h.addr with ⟨rfl, rfl⟩ | ⟨g, rfl⟩
  · exact fun hne => absurd rfl hne
  · obtain ⟨e, hc, hp⟩ := h.to_P
    exact hp.rt (by omega)
theorem ownCT_cells {w : World} {lo hi g n c : Nat} {ts : TL} {cs : List Value} {bs : Nat → Nat} (h : OwnCT w lo hi (.slice (some ⟨g, 0, none⟩) n c) ts cs bs) : ∀ j v, cs[j]? = some v → w.cell? ⟨g, j, none⟩ = some v := fun j v hj => by
  have := h.1.cells (g := g) rfl j v hj
  rwa [add_eq, Nat.zero_add] at this
theorem itemsT_one {w : World} {lo hi : Nat} {ts : TL} {cs : List Value} {bs : Nat → Nat} (h : ItemsT w lo hi ts cs bs) : ∀ x ∈ cs, x.oneCell' = true := fun x hx => by
  obtain ⟨j, hj⟩ := List.getElem?_of_mem hx
  have hlt : j < ts.length := by have := (List.getElem?_eq_some_iff.1 hj).1; have := h.1; omega
  obtain ⟨v1, e1, hv⟩ := h.2.1 j hlt
  rw [hj] at e1
  injection e1 with e1
  subst e1
  obtain ⟨A, c, rfl, _⟩ := hv
  rfl

/-- The list before the first one that is greater. -/
def addTI : TL → List Int → TL
  | [], t => [t]
  | x :: r, t => if cmpL t x < 0 then t :: x :: r else x :: addTI r t
def addT (l : TL) (t : List Int) : TL := if t ∈ l then l else addTI l t
theorem addTI_at : ∀ (l : TL) (t : List Int) (k : Nat), k ≤ l.length → (∀ j, j < k → ¬ cmpL t (l.getD j []) < 0) → (k < l.length → cmpL t (l.getD k []) < 0) → addTI l t = l.take k ++ t :: l.drop k
  | [], t, k, hk, _, _ => by
    have : k = 0 := by simpa using hk
    subst this
    rfl
  | g :: r, t, 0, _, _, h2 => by
    have h := h2 (by simp)
    simp only [List.getD_cons_zero] at h
    rw [addTI, if_pos h]
    rfl
  | g :: r, t, k + 1, hk, h1, h2 => by
    have h := h1 0 (by omega)
    simp only [List.getD_cons_zero] at h
    have ih := addTI_at r t k (by simpa using hk) (fun j hj => by have := h1 (j + 1) (by omega); simpa using this) (fun hlt => by have := h2 (by simpa using hlt); simpa using this)
    rw [addTI, if_neg h, ih]
    rfl
theorem getD_memT {l : TL} {k : Nat} (hk : k < l.length) : l.getD k [] ∈ l := by
  rw [List.getD_eq_getElem?_getD, List.getElem?_eq_getElem hk]
  exact List.getElem_mem _
theorem memT_iff (l : TL) (t : List Int) : t ∈ l ↔ ∃ k, k < l.length ∧ decide (cmpL (l.getD k []) t = 0) = true := by
  constructor
  · intro h
    obtain ⟨k, hk, rfl⟩ := List.getElem_of_mem h
    exact ⟨k, hk, decide_eq_true ((cmpL_zero _ _).2 (by simp [List.getD_eq_getElem?_getD, hk]))⟩
  · rintro ⟨k, hk, h⟩
    have := (cmpL_zero _ _).1 (of_decide_eq_true h)
    rw [← this]
    exact getD_memT hk
theorem addTI_gr {l : TL} {t : List Int} (h : t ∉ l) {k : Nat} (hk : k ≤ l.length) (h1 : ∀ j, j < k → decide (cmpL (l.getD j []) t > 0) = false) (h2 : k < l.length → decide (cmpL (l.getD k []) t > 0) = true) : addTI l t = l.take k ++ t :: l.drop k := by
  refine addTI_at l t k hk (fun j hj => ?_) (fun hlt => ?_)
  · have := of_decide_eq_false (h1 j hj)
    have a := cmpL_anti t (l.getD j [])
    omega
  · have := of_decide_eq_true (h2 hlt)
    have a := cmpL_anti t (l.getD k [])
    omega
theorem sumT_ins (l : TL) (t : List Int) (k : Nat) : sumT (l.take k ++ t :: l.drop k) = sumT l + t.length := by
  have : sumT l = sumT (l.take k) + sumT (l.drop k) := by
    unfold sumT
    rw [← List.sum_append, ← List.map_append, List.take_append_drop]
  rw [this]
  simp [sumT]; omega
theorem addTI_form : ∀ (l : TL) (t : List Int), ∃ k, k ≤ l.length ∧ addTI l t = l.take k ++ t :: l.drop k
  | [], t => ⟨0, by simp, rfl⟩
  | x :: r, t => by
    obtain ⟨k, hk, e⟩ := addTI_form r t
    by_cases h : cmpL t x < 0
    · exact ⟨0, by simp, by rw [addTI, if_pos h]; rfl⟩
    · exact ⟨k + 1, by simpa using hk, by rw [addTI, if_neg h, e]; rfl⟩
theorem addT_mem {l : TL} {t x : List Int} (h : x ∈ addT l t) : x ∈ l ∨ x = t := by
  unfold addT at h
  split at h
  · exact .inl h
  · obtain ⟨k, _, e⟩ := addTI_form l t
    rw [e, List.mem_append, List.mem_cons] at h
    rcases h with h | h | h
    · exact .inl (List.mem_of_mem_take h)
    · exact .inr h
    · exact .inl (List.mem_of_mem_drop h)
theorem addT_len (l : TL) (t : List Int) : (addT l t).length ≤ l.length + 1 := by
  unfold addT
  split
  · omega
  · obtain ⟨k, hk, e⟩ := addTI_form l t
    rw [e, ins_len _ _ _ hk]
    exact Nat.le_refl _
theorem addT_sum (l : TL) (t : List Int) : sumT (addT l t) ≤ sumT l + t.length := by
  unfold addT
  split
  · omega
  · obtain ⟨k, hk, e⟩ := addTI_form l t
    rw [e, sumT_ins]
    exact Nat.le_refl _

/-- A list of lists of the call's own is returned. -/
def AddOutT (w : World) (res : TL) (e : Ending) (w' : World) : Prop :=
  ∃ A c cs bs, e = .returned (.slice A res.length c) ∧ OwnCT w' w.heap.size w'.heap.size (.slice A res.length c) res cs bs ∧ Below w.heap.size w w'

/-! Marks. -/
def offT (q : Int) (ts : TL) (k : Nat) : Int := q + (sumT (ts.take k) : Int)
theorem offT_succ (q : Int) (ts : TL) (k : Nat) (hk : k < ts.length) : offT q ts (k + 1) = offT q ts k + ((ts.getD k []).length : Int) := by
  unfold offT
  rw [sumT_take ts k hk]
  omega
theorem offT_end (q : Int) (ts : TL) : offT q ts ts.length = q + sumT ts := by
  unfold offT
  rw [take_all]
theorem offT_rng (q : Int) (ts : TL) (k : Nat) : q ≤ offT q ts k ∧ offT q ts k ≤ q + sumT ts := by
  have := sumT_le ts k
  unfold offT
  omega
/-- The first k lists are marked. -/
def mkT (q : Int) (ts : TL) (k : Nat) : TL := (List.range ts.length).map fun j => if j < k then marks (offT q ts j) (ts.getD j []).length else ts.getD j []
theorem mkT_length (q : Int) (ts : TL) (k : Nat) : (mkT q ts k).length = ts.length := by simp [mkT]
theorem mkT_getD (q : Int) (ts : TL) (k j : Nat) (hj : j < ts.length) : (mkT q ts k).getD j [] = if j < k then marks (offT q ts j) (ts.getD j []).length else ts.getD j [] := by
  simp [mkT, List.getD_eq_getElem?_getD, hj]
theorem mkT_len (q : Int) (ts : TL) (k j : Nat) (hj : j < ts.length) : ((mkT q ts k).getD j []).length = (ts.getD j []).length := by
  rw [mkT_getD q ts k j hj]
  split
  · rw [marks_length]
  · rfl
theorem OwnT.congr {w : World} {lo hi g m k : Nat} {fs gs : TL} (h : OwnT w lo hi g m k fs) (e : ∀ j, j < k → gs.getD j [] = fs.getD j []) : OwnT w lo hi g m k gs := by
  obtain ⟨h1, h2, F, bs, hr, he, hd⟩ := h
  refine ⟨h1, h2, F, bs, hr, fun j hj => by rw [e j hj]; exact he j hj, fun i j hij hj => ?_⟩
  rw [e i (by omega), e j hj]
  exact hd i j hij hj
/-- List k is marked. -/
theorem markT_step {w w2 : World} {lo hi g m k : Nat} {q : Int} {ts : TL} {F : Nat → Value} {bs : Nat → Nat} (h1 : lo ≤ g) (h2 : g < hi) (hr : w.rowIs g 22 m F)
    (he : ∀ j, j < ts.length → OwnV w lo hi (F j) (bs j) ((mkT q ts k).getD j []))
    (hd : ∀ i j, i < j → j < ts.length → 0 < ((mkT q ts k).getD i []).length → 0 < ((mkT q ts k).getD j []).length → bs i ≠ bs j)
    (hk : k < ts.length)
    (hw : (0 < (ts.getD k []).length ∧ Within (bs k) (bs k + 1) w w2 ∧
        ∃ (mk : Nat) (Fk : Nat → Value), (ts.getD k []).length ≤ mk ∧ w2.rowIs (bs k) 3 mk (fun i => if i < (ts.getD k []).length then .int .i64 (offT q ts k + i) else Fk i)) ∨
      ((ts.getD k []).length = 0 ∧ w2 = w)) :
    OwnT w2 lo hi g m ts.length (mkT q ts (k + 1)) ∧ Within lo hi w w2 := by
  have hk0 := he k hk
  rw [mkT_getD q ts k k hk, if_neg (by omega)] at hk0
  have hwithin : Within lo hi w w2 := by
    rcases hw with ⟨hp, hwi, _⟩ | ⟨_, rfl⟩
    · obtain ⟨a, b⟩ := hk0.rng hp
      exact hwi.mono a (by omega)
    · exact Within.refl _ _ _
  have hne : ∀ j, j < ts.length → 0 < (ts.getD j []).length → bs j ≠ g := fun j hj hp e => by
    obtain ⟨A, c, _, _, _, hx⟩ := he j hj
    obtain ⟨_, _, _, mm, FF, _, hrow, _⟩ := hx (by rw [mkT_len q ts k j hj]; exact hp)
    obtain ⟨c1, hc1, _⟩ := hrow
    obtain ⟨c2, hc2, _⟩ := hr
    rw [e] at hc1
    rw [hc1] at hc2
    injection hc2 with hc2
    injection hc2 with _ ht
    exact absurd ht (by decide)
  have hg2 : w2.rowIs g 22 m F := by
    rcases hw with ⟨hp, hwi, _⟩ | ⟨_, rfl⟩
    · have hn := hne k hk hp
      exact World.rowIs.of_block hr (hwi.block g (by omega))
    · exact hr
  refine ⟨⟨h1, h2, F, bs, hg2, fun j hj => ?_, fun i j hij hj hi0 hj0 => ?_⟩, hwithin⟩
  · by_cases e : j = k
    · subst e
      rw [mkT_getD q ts (j + 1) j hj, if_pos (by omega)]
      obtain ⟨A, c, hv, hc, hcm, hx⟩ := hk0
      refine ⟨A, c, by rw [hv, marks_length], by rw [marks_length]; exact hc, hcm, fun hp => ?_⟩
      rw [marks_length] at hp
      rcases hw with ⟨_, hwi, mk, Fk, hmk, hrk⟩ | ⟨h0, _⟩
      · obtain ⟨a1, a2, a3, _⟩ := hx hp
        refine ⟨a1, a2, a3, mk, _, by rw [marks_length]; exact hmk, hrk, fun i hi => ?_⟩
        rw [marks_length] at hi
        rw [marks_getD _ _ _ hi, if_pos hi]
      · omega
    · rw [mkT_getD q ts (k + 1) j hj]
      have hj1 := he j hj
      rw [mkT_getD q ts k j hj] at hj1
      have e2 : (if j < k + 1 then marks (offT q ts j) (ts.getD j []).length else ts.getD j []) = (if j < k then marks (offT q ts j) (ts.getD j []).length else ts.getD j []) := by
        by_cases h : j < k
        · rw [if_pos h, if_pos (by omega)]
        · rw [if_neg h, if_neg (by omega)]
      rw [e2]
      refine hj1.keep_len fun hp _ _ => ?_
      have hp2 : 0 < (ts.getD j []).length := by
        have := mkT_len q ts k j hj
        rw [mkT_getD q ts k j hj] at this
        omega
      rcases hw with ⟨hpk, hwi, _⟩ | ⟨_, rfl⟩
      · have hjk : bs j ≠ bs k := by
          rcases Nat.lt_or_gt_of_ne e with h | h
          · exact hd j k h hk (by rw [mkT_len q ts k j hj]; exact hp2) (by rw [mkT_len q ts k k hk]; exact hpk)
          · exact fun x => hd k j h hj (by rw [mkT_len q ts k k hk]; exact hpk) (by rw [mkT_len q ts k j hj]; exact hp2) x.symm
        exact hwi.block (bs j) (by omega)
      · rfl
  · rw [mkT_len q ts (k + 1) i (by omega)] at hi0
    rw [mkT_len q ts (k + 1) j hj] at hj0
    exact hd i j hij hj (by rw [mkT_len q ts k i (by omega)]; exact hi0) (by rw [mkT_len q ts k j hj]; exact hj0)

set_option maxRecDepth 100000 in
set_option maxHeartbeats 1000000 in
theorem markIntSS_any (lo hi g m c : Nat) (q : Int) (ts : TL) (hl : ts.length ≤ 1048577) (hz : sumT ts ≤ 2097152) (he : ∀ k, k < ts.length → (ts.getD k []).length ≤ 1048576) (h0 : 0 ≤ q) (h1 : q ≤ 1048577) (hm : ts.length ≤ m) (w : World) (h : OwnT w lo hi g m ts.length ts) :
    Calls Tryz.prog 28 #[.slice (some ⟨g, 0, none⟩) ts.length c, .int .i64 q] w fun e w' => e = .returned (.int .i64 (q + sumT ts)) ∧ OwnT w' lo hi g m ts.length (mkT q ts ts.length) ∧ Within lo hi w w' := by
  have hl' : (ts.length : Int) ≤ 1048577 := by omega
  have HE := Lib.hid he
  have HI := Lib.hid (h.congr fun j hj => (mkT_getD q ts 0 j hj).trans (if_neg (by omega)))
  clear h he
  go_enter Tryz.func28, Tryz.ntmps28
  go_wp2
  go_loopw [1, 5] (fun z i wr => ∃ k : Nat, k ≤ ts.length ∧ i = .int .i64 k ∧ z = .int .i64 (offT q ts k) ∧ OwnT wr lo hi g m ts.length (mkT q ts k) ∧ Within lo hi w wr) (fun _ i _ => ts.length - (intOf i).toNat)
  case atStart => exact ⟨0, by omega, rfl, by simp [offT, sumT], HI.out, Within.refl _ _ _⟩
  case round =>
    obtain ⟨k, hk, rfl, rfl, ho, hw⟩ := hrel
    have OR := offT_rng q ts k
    by_cases hlt : k < ts.length
    · obtain ⟨hlo, hhi, F, bs, hr, he, hd⟩ := ho
      have hk1 := he k hlt
      rw [mkT_getD q ts k k hlt, if_neg (by omega)] at hk1
      have OS := offT_succ q ts k hlt
      have OR2 := offT_rng q ts (k + 1)
      obtain ⟨A, cc, hv, hxc, hxm, hx⟩ := hk1
      have MS := Lib.hid fun (w2 : World) => markT_step (w := wr) (w2 := w2) hlo hhi hr he hd hlt
      have q1 := hr.cell (show k < m by omega)
      rw [hv] at q1
      have HW := Lib.hid hw
      have NG := Lib.hid (fun hp => (hx hp).1)
      have NR := Lib.hid (fun hp => (hx hp).2.2.2)
      have hxl := HE.out k hlt
      generalize hxs : ts.getD k [] = xs at MS NG NR OS q1 hxl
      generalize ho : offT q ts k = o at OR OS MS ⊢
      have HS := Lib.hid OS
      have o1 := OR.1
      have o2 : o ≤ 4194304 := by omega
      have o3 : (xs.length : Int) ≤ 1048576 := by omega
      clear hv hx hr he hd hw hxs ho OS OR OR2
      by_cases hx0 : xs.length = 0
      · have hx1 : xs = [] := List.eq_nil_of_length_eq_zero hx0
        subst hx1
        go_wp2_with fail
        refine (markIntS_zero A cc o _ (by omega) (by omega)).mono ?_
        rintro e u ⟨rfl, rfl⟩
        have HM := Lib.hid (MS.out wr (.inr ⟨rfl, rfl⟩))
        go_wp2
        go_roundw
        case rel => exact ⟨k + 1, by omega, by go_num, by rw [HS.out]; simp, HM.out.1, HW.out.trans HM.out.2⟩
        case measure => simp [intOf]; omega
      · have hxp : 0 < xs.length := by omega
        obtain ⟨mk, Fk, hmk, hrow, _⟩ := NR.out hxp
        have nA := NG.out hxp
        subst nA
        have HROW := Lib.hid hrow
        clear hrow hx0
        go_wp2_with fail
        refine (markIntS_any (some ⟨bs k, 0, none⟩) (bs k) cc xs.length mk o _ hxl (by omega) (by omega) Fk (fun _ => rfl) hmk (fun _ => HROW.out)).mono ?_
        rintro e u ⟨rfl, hwi, hru⟩
        have HM := Lib.hid (MS.out u (.inl ⟨hxp, hwi, mk, Fk, hmk, hru hxp⟩))
        clear hwi hru
        go_wp2
        go_roundw
        case rel => exact ⟨k + 1, by omega, by go_num, by rw [HS.out], HM.out.1, HW.out.trans HM.out.2⟩
        case measure => simp [intOf]; omega
    · obtain rfl : k = ts.length := by omega
      go_wp2
      go_ret
      exact ⟨ret_int (offT_end q ts), ho, hw⟩

set_option maxRecDepth 100000 in
set_option maxHeartbeats 1000000 in
theorem heldIntSS_any (A : Option Addr) (c : Nat) (q : Int) (ts : TL) (hl : ts.length ≤ 1048577) (hz : sumT ts ≤ 2097152) (he : ∀ k, k < ts.length → (ts.getD k []).length ≤ 1048576) (h0 : 0 ≤ q) (h1 : q ≤ 1048577) (w : World) (h : RT w A (mkT q ts ts.length)) :
    Calls Tryz.prog 29 #[.slice A ts.length c, .int .i64 q] w fun e w' => e = .returned (.int .i64 (q + sumT ts)) ∧ w = w' := by
  have hl' : (ts.length : Int) ≤ 1048577 := by omega
  have HI := Lib.hid h
  have HE := Lib.hid he
  clear h he
  go_enter Tryz.func29, Tryz.ntmps29
  go_wp2
  go_loop [1, 5] (fun z i => ∃ k : Nat, k ≤ ts.length ∧ i = .int .i64 k ∧ z = .int .i64 (offT q ts k)) (fun _ i => ts.length - (intOf i).toNat)
  case atStart => exact ⟨0, by omega, rfl, by simp [offT, sumT]⟩
  case round =>
    obtain ⟨k, hk, rfl, rfl⟩ := hrel
    have OR := offT_rng q ts k
    by_cases hlt : k < ts.length
    · have OS := offT_succ q ts k hlt
      have hxl := HE.out k hlt
      have hf : (mkT q ts ts.length).getD k [] = marks (offT q ts k) (ts.getD k []).length := (mkT_getD q ts ts.length k hlt).trans (if_pos hlt)
      obtain ⟨b, off, B, c2, rfl, n1, e1, hxc, hcm, hI⟩ := HI.out.at_ (by rw [mkT_length]; exact hlt) hf
      rw [marks_length] at e1
      generalize (ts.getD k []).length = n at OS hxl e1 hI
      generalize ho : offT q ts k = o at OR OS e1 hI ⊢
      have HS := Lib.hid OS
      have HH := Lib.hid hI
      have o1 := OR.1
      have o2 : o ≤ 4194304 := by omega
      have o3 : (n : Int) ≤ 1048576 := by omega
      clear hf ho OS OR hI
      go_wp2_with fail
      refine (heldIntS_any _ _ B c2 n o _ hxl (by omega) (by omega) HH.out).mono ?_
      rintro e u ⟨rfl, rfl⟩
      have o4 : 0 ≤ o + (n : Int) := by omega
      go_wp2
      go_round
      case rel => exact ⟨k + 1, by omega, by go_num, by rw [HS.out]⟩
      case measure => simp [intOf]; omega
    · obtain rfl : k = ts.length := by omega
      go_wp2
      go_ret
      exact ⟨ret_int (offT_end q ts), rfl⟩
set_option maxRecDepth 100000 in
theorem markIntSS_zero (A : Option Addr) (c : Nat) (q : Int) (w : World) (h0 : 0 ≤ q) (h1 : q ≤ 1099511627776) :
    Calls Tryz.prog 28 #[.slice A 0 c, .int .i64 q] w fun e w' => e = .returned (.int .i64 q) ∧ w = w' := by
  go_enter Tryz.func28, Tryz.ntmps28
  go_wp2
  refine wp_loop_rounds 1 ?_
  rw [rounds_succ]
  go_wp2
  go_ret
  exact ⟨rfl, rfl⟩

set_option maxRecDepth 100000 in
set_option maxHeartbeats 1000000 in
theorem eqIntSS_b (A A' : Option Addr) (c c' : Nat) (ts : TL) (hl : ts.length ≤ 1048577) (he : ∀ k, k < ts.length → (ts.getD k []).length ≤ 1048576) (w : World) (h : RT w A ts) (h' : RT w A' ts) :
    Calls Tryz.prog 23 #[.slice A ts.length c, .slice A' ts.length c'] w fun e w' => e = .returned (.bool true) ∧ Below w.heap.size w w' := by
  have hl' : (ts.length : Int) ≤ 1048577 := by omega
  have HI := Lib.hid h
  have HJ := Lib.hid h'
  have HE := Lib.hid he
  clear h h' he
  go_enter Tryz.func23, Tryz.ntmps23
  go_wp2
  go_loopw [5] (fun i wr => ∃ k : Nat, k ≤ ts.length ∧ i = .int .i64 k ∧ Below w.heap.size w wr) (fun i _ => ts.length - (intOf i).toNat)
  case atStart => exact ⟨0, by omega, rfl, Below.refl _ _⟩
  case round =>
    obtain ⟨k, hk, rfl, hb⟩ := hrel
    by_cases hlt : k < ts.length
    · have hxl := HE.out k hlt
      generalize hf : ts.getD k [] = xs at hxl
      obtain ⟨b, off, B, c2, rfl, n1, e1, _, _, hI⟩ := (HI.out.step hb).at_ hlt hf
      obtain ⟨b', off', B', c2', rfl, n2, e1', _, _, hI'⟩ := (HJ.out.step hb).at_ hlt hf
      have HX := Lib.hid hI
      have HX' := Lib.hid hI'
      clear hf hI hI'
      have hk0 : (0 : Int) ≤ (k : Int) := by omega
      have hk1 : (k : Int) < (ts.length : Int) := by omega
      go_wp2
      go_region_held3 (fun w' => w'.cell? ⟨b, off + k, none⟩ = some (.slice B xs.length c2) ∧ w'.cell? ⟨b', off' + k, none⟩ = some (.slice B' xs.length c2'))
        (first
          | go_keep
          | (go_split_ands; refine ⟨?_, ?_⟩ <;> (rw [d.cell (by (try simp) <;> omega)]; assumption)))
        (first
          | (go_at_call 13; refine (eqIntS_r B B' c2 c2' xs hxl _ (by first | exact HX.out | exact HX.out.step (below_drew _)) (by first | exact HX'.out | exact HX'.out.step (below_drew _))).mono ?_; rintro e u ⟨rfl, d⟩))
      have hb2 : Below w.heap.size w u := by first | exact step hb d | exact step hb (und d)
      clear d
      go_wp2
      go_roundw
      case rel => exact ⟨k + 1, by omega, by go_num, by first | exact hb2 | exact hb2.drew⟩
      case measure => simp [intOf]; omega
    · obtain rfl : k = ts.length := by omega
      go_wp2
      go_ret
      exact ⟨rfl, hb⟩
end Go.Proofs.YtimlpdcambmcjaaGreat

namespace Go.Proofs.YtimlpdcambmcjaaGreat
open Go.ChangeShapes Go.WideShapes Go.ChangeAt Go.RowKit Go.Sort
set_option linter.unusedVariables false
set_option linter.unusedSimpArgs false

theorem cmpL_trans : ∀ xs ys zs : List Int, cmpL xs ys < 0 → cmpL ys zs < 0 → cmpL xs zs < 0
  | [], [], _, h, _ => by simp [cmpL] at h
  | [], _ :: _, [], _, h => by simp [cmpL] at h
  | [], _ :: _, _ :: _, _, _ => by simp [cmpL]
  | _ :: _, [], _, h, _ => by simp [cmpL] at h
  | _ :: _, _ :: _, [], _, h => by simp [cmpL] at h
  | x :: xs, y :: ys, z :: zs, h1, h2 => by
    have ih := cmpL_trans xs ys zs
    unfold cmpL at h1 h2 ⊢
    by_cases a1 : x < y
    · by_cases a2 : y < z
      · rw [if_pos (by omega)]; omega
      · rw [if_neg a2] at h2
        by_cases a3 : z < y
        · rw [if_pos a3] at h2; omega
        · rw [if_pos (by omega)]; omega
    · rw [if_neg a1] at h1
      by_cases a3 : y < x
      · rw [if_pos a3] at h1; omega
      · rw [if_neg a3] at h1
        by_cases a2 : y < z
        · rw [if_pos (by omega)]; omega
        · rw [if_neg a2] at h2
          by_cases a4 : z < y
          · rw [if_pos a4] at h2; omega
          · rw [if_neg a4] at h2
            rw [if_neg (by omega), if_neg (by omega)]
            exact ih h1 h2
/-- Is xs before ys? -/
def ltL (xs ys : List Int) : Prop := cmpL xs ys < 0
theorem ltL_irrefl (xs : List Int) : ¬ ltL xs xs := by
  unfold ltL
  rw [(cmpL_zero xs xs).2 rfl]
  omega
theorem ltL_trans {xs ys zs : List Int} (h1 : ltL xs ys) (h2 : ltL ys zs) : ltL xs zs := cmpL_trans _ _ _ h1 h2
theorem ltL_total {xs ys : List Int} (h1 : ¬ ltL xs ys) (h2 : xs ≠ ys) : ltL ys xs := by
  have h3 := cmpL_anti xs ys
  unfold ltL at *
  have : cmpL xs ys ≠ 0 := fun e => h2 ((cmpL_zero _ _).1 e)
  omega
abbrev AscT (l : List (List Int)) : Prop := l.Pairwise ltL
theorem AscT.nodup {l : List (List Int)} (h : AscT l) : l.Nodup := by
  show List.Pairwise (fun a b => a ≠ b) l
  refine List.Pairwise.imp ?_ h
  intro a b hab e
  subst e
  exact ltL_irrefl a hab
/-- Two ascending lists of the same members are one. -/
theorem ascT_unique : ∀ (l l' : List (List Int)), AscT l → AscT l' → (∀ x, x ∈ l ↔ x ∈ l') → l = l'
  | [], [], _, _, _ => rfl
  | [], g :: t', _, _, hm => absurd ((hm g).2 (List.mem_cons_self)) (by simp)
  | f :: t, [], _, _, hm => absurd ((hm f).1 (List.mem_cons_self)) (by simp)
  | f :: t, g :: t', h, h', hm => by
    have a := List.pairwise_cons.1 h
    have b := List.pairwise_cons.1 h'
    have e : f = g := by
      rcases List.mem_cons.1 ((hm f).1 (List.mem_cons_self)) with e | e
      · exact e
      · rcases List.mem_cons.1 ((hm g).2 (List.mem_cons_self)) with e2 | e2
        · exact e2.symm
        · exact absurd (ltL_trans (b.1 f e) (a.1 g e2)) (ltL_irrefl g)
    subst e
    rw [ascT_unique t t' a.2 b.2 fun x => ⟨fun hx => by
      rcases List.mem_cons.1 ((hm x).1 (List.mem_cons_of_mem _ hx)) with e | e
      · subst e; exact absurd (a.1 x hx) (ltL_irrefl x)
      · exact e, fun hx => by
      rcases List.mem_cons.1 ((hm x).2 (List.mem_cons_of_mem _ hx)) with e | e
      · subst e; exact absurd (b.1 x hx) (ltL_irrefl x)
      · exact e⟩]
end Go.Proofs.YtimlpdcambmcjaaGreat

namespace Go.Proofs.YtimlpdcambmcjaaGreat
open Go.ChangeShapes Go.WideShapes Go.ChangeAt Go.RowKit Go.Sort
set_option linter.unusedVariables false
set_option linter.unusedSimpArgs false

/-- One atom against one fact. -/
def mtF (p : PL) (a f : Int × List Int) : Option PL := matB p a.1 a.2 f.1 f.2
/-- All that one atom makes of a binding, in the order of the facts. -/
def extA (fs : FL) (a : Int × List Int) (p : PL) : List PL := fs.filterMap (mtF p a)
def extB (fs : FL) (a : Int × List Int) (ps : List PL) : List PL := ps.flatMap (extA fs a)
def bndsF (fs : FL) (ats : FL) (ps : List PL) : List PL := ats.foldl (fun ps a => extB fs a ps) ps
def bnds (fs ats : FL) : List PL := bndsF fs ats [([], [])]
/-- The same, depth first. -/
def enum (fs : FL) : FL → PL → List PL
  | [], p => [p]
  | a :: ats, p => (extA fs a p).flatMap (enum fs ats)
theorem bndsF_enum (fs : FL) : ∀ (ats : FL) (ps : List PL), bndsF fs ats ps = ps.flatMap (enum fs ats)
  | [], ps => by
    show ps = ps.flatMap fun p => [p]
    induction ps with
    | nil => rfl
    | cons p ps ih => rw [List.flatMap_cons, ← ih]; rfl
  | a :: ats, ps => by
    show bndsF fs ats (extB fs a ps) = _
    rw [bndsF_enum fs ats]
    unfold extB
    rw [List.flatMap_assoc]
    rfl
theorem bnds_enum (fs ats : FL) : bnds fs ats = enum fs ats ([], []) := by
  unfold bnds
  rw [bndsF_enum]
  simp
theorem bndsF_take (fs ats : FL) (ps : List PL) {k : Nat} (hk : k < ats.length) {a : Int × List Int} (hf : ats.getD k (0, []) = a) : bndsF fs (ats.take (k + 1)) ps = extB fs a (bndsF fs (ats.take k) ps) := by
  have e : ats[k] = a := by rw [← hf]; simp [List.getD_eq_getElem?_getD, hk]
  unfold bndsF
  rw [List.take_succ_eq_append_getElem hk, e, List.foldl_append]
  rfl
theorem extA_len (fs : FL) (a : Int × List Int) (p : PL) : (extA fs a p).length ≤ fs.length := List.length_filterMap_le _ _
theorem extB_len (fs : FL) (a : Int × List Int) : ∀ ps : List PL, (extB fs a ps).length ≤ ps.length * fs.length
  | [] => by simp [extB]
  | p :: ps => by
    have h1 := extB_len fs a ps
    have h2 := extA_len fs a p
    have e : extB fs a (p :: ps) = extA fs a p ++ extB fs a ps := rfl
    rw [e, List.length_append, List.length_cons, Nat.add_mul, Nat.one_mul]
    omega
theorem bndsF_len (fs : FL) (m : Nat) (hm : fs.length ≤ m) : ∀ (ats : FL) (ps : List PL), (bndsF fs ats ps).length ≤ ps.length * m ^ ats.length
  | [], ps => by simp [bndsF]
  | a :: ats, ps => by
    have h1 := bndsF_len fs m hm ats (extB fs a ps)
    have h2 := extB_len fs a ps
    have h3 : ps.length * fs.length ≤ ps.length * m := Nat.mul_le_mul_left _ hm
    show (bndsF fs ats (extB fs a ps)).length ≤ _
    rw [List.length_cons, Nat.pow_succ, Nat.mul_comm (m ^ ats.length) m, ← Nat.mul_assoc]
    exact Nat.le_trans h1 (Nat.mul_le_mul_right _ (Nat.le_trans h2 h3))

/-- What holds of every binding that is found. -/
theorem mst_good {p q : PL} {t v : Int} (h : mst p t v = some q) : q = p ∨ (q = (p.1 ++ [t], p.2 ++ [v]) ∧ inB t 10 17 = true ∧ t ∉ p.1) := by
  unfold mst at h
  split at h
  · split at h
    · split at h
      · injection h with h; exact .inl h.symm
      · cases h
    · rename_i h1 h2
      injection h with h; exact .inr ⟨h.symm, h1, h2⟩
  · split at h
    · injection h with h; exact .inl h.symm
    · cases h
/-- A binding of variables, each once, to values. -/
def Gd (p : PL) : Prop := p.1.length = p.2.length ∧ p.1.Nodup ∧ allB 10 17 p.1 = true ∧ allB 0 9 p.2 = true
theorem gd_nil : Gd ([], []) := ⟨rfl, List.nodup_nil, rfl, rfl⟩
theorem allB_snoc (a b : Int) (xs : List Int) (x : Int) : allB a b (xs ++ [x]) = (allB a b xs && inB x a b) := by
  unfold allB
  rw [List.all_append]
  simp
theorem mst_gd {p q : PL} {t v : Int} (h : mst p t v = some q) (hp : Gd p) (hv : inB v 0 9 = true) : Gd q := by
  rcases mst_good h with e | ⟨e, h1, h2⟩
  · rw [e]; exact hp
  · subst e
    refine ⟨by simp [hp.1], ?_, by rw [allB_snoc, hp.2.2.1, h1]; rfl, by rw [allB_snoc, hp.2.2.2, hv]; rfl⟩
    exact List.nodup_append.2 ⟨hp.2.1, by simp, fun a ha b hb e => by
      have : b = t := by simpa using hb
      subst this; subst e; exact h2 ha⟩
theorem mgo_gd : ∀ (ts vs : List Int) (p q : PL), mgo p ts vs = some q → Gd p → allB 0 9 vs = true → Gd q
  | [], vs, p, q, h, hp, _ => by rw [mgo_nil] at h; injection h with h; rw [← h]; exact hp
  | _ :: _, [], p, q, h, hp, _ => by injection h with h; rw [← h]; exact hp
  | t :: ts, v :: vs, p, q, h, hp, hv => by
    have hv' : inB v 0 9 = true ∧ allB 0 9 vs = true := by simpa [allB] using hv
    change (mst p t v).bind _ = _ at h
    cases hm : mst p t v with
    | none => rw [hm] at h; cases h
    | some r =>
      rw [hm] at h
      exact mgo_gd ts vs r q h (mst_gd hm hp hv'.1) hv'.2
theorem mtF_gd {p q : PL} {a f : Int × List Int} (h : mtF p a f = some q) (hp : Gd p) (hv : allB 0 9 f.2 = true) : Gd q := by
  unfold mtF matB at h
  split at h
  · exact mgo_gd _ _ _ _ h hp hv
  · cases h
/-- The binding grows at its end alone. -/
def Pre (p q : PL) : Prop := ∃ u v : List Int, q = (p.1 ++ u, p.2 ++ v) ∧ u.length = v.length
theorem Pre.refl (p : PL) : Pre p p := ⟨[], [], by simp, rfl⟩
theorem Pre.trans {p q r : PL} (h : Pre p q) (k : Pre q r) : Pre p r := by
  obtain ⟨u, v, rfl, e⟩ := h
  obtain ⟨u', v', rfl, e'⟩ := k
  exact ⟨u ++ u', v ++ v', by simp, by simp [e, e']⟩
theorem mst_pre {p q : PL} {t v : Int} (h : mst p t v = some q) : Pre p q := by
  rcases mst_good h with e | ⟨e, _, _⟩
  · rw [e]; exact Pre.refl _
  · rw [e]; exact ⟨[t], [v], rfl, rfl⟩
theorem mst_has {p q : PL} {t v : Int} (h : mst p t v = some q) (ht : inB t 10 17 = true) : t ∈ q.1 := by
  unfold mst at h
  rw [if_pos ht] at h
  split at h
  · split at h
    · injection h with h; rw [← h]; assumption
    · cases h
  · injection h with h; rw [← h]; simp
theorem Pre.mem {p q : PL} (h : Pre p q) {t : Int} (ht : t ∈ p.1) : t ∈ q.1 := by
  obtain ⟨u, v, rfl, _⟩ := h
  exact List.mem_append_left _ ht
theorem mgo_pre : ∀ (ts vs : List Int) (p q : PL), mgo p ts vs = some q → Pre p q ∧ (ts.length ≤ vs.length → ∀ t ∈ ts, inB t 10 17 = true → t ∈ q.1)
  | [], vs, p, q, h => by rw [mgo_nil] at h; injection h with h; rw [← h]; exact ⟨Pre.refl _, fun _ t ht => by simp at ht⟩
  | _ :: _, [], p, q, h => by injection h with h; rw [← h]; exact ⟨Pre.refl _, fun hl => by simp at hl⟩
  | t :: ts, v :: vs, p, q, h => by
    change (mst p t v).bind _ = _ at h
    cases hm : mst p t v with
    | none => rw [hm] at h; cases h
    | some r =>
      rw [hm] at h
      have ih := mgo_pre ts vs r q h
      refine ⟨(mst_pre hm).trans ih.1, fun hl x hx hv => ?_⟩
      rcases List.mem_cons.1 hx with e | e
      · subst e; exact ih.1.mem (mst_has hm hv)
      · exact ih.2 (by simpa using hl) x e hv
theorem mtF_pre {p q : PL} {a f : Int × List Int} (h : mtF p a f = some q) : Pre p q ∧ ∀ t ∈ a.2, inB t 10 17 = true → t ∈ q.1 := by
  unfold mtF matB at h
  split at h
  · rename_i hc
    have := mgo_pre _ _ _ _ h
    exact ⟨this.1, this.2 (by omega)⟩
  · cases h
theorem enum_pre (fs : FL) : ∀ (ats : FL) (p q : PL), q ∈ enum fs ats p → Pre p q ∧ ∀ a ∈ ats, ∀ t ∈ a.2, inB t 10 17 = true → t ∈ q.1
  | [], p, q, h => by
    have : q = p := by simpa [enum] using h
    subst this
    exact ⟨Pre.refl _, fun a ha => by simp at ha⟩
  | a :: ats, p, q, h => by
    unfold enum at h
    rw [List.mem_flatMap] at h
    obtain ⟨r, hr, hq⟩ := h
    unfold extA at hr
    rw [List.mem_filterMap] at hr
    obtain ⟨f, _, hf⟩ := hr
    have h1 := mtF_pre hf
    have h2 := enum_pre fs ats r q hq
    refine ⟨h1.1.trans h2.1, fun b hb t ht hv => ?_⟩
    rcases List.mem_cons.1 hb with e | e
    · subst e; exact h2.1.mem (h1.2 t ht hv)
    · exact h2.2 b e t ht hv

/-- The heads of the bindings, in order and once each. -/
def headT (hs : List Int) (p : PL) : List Int := hs.map (bval p.1 p.2)
def tupAll (l : TL) (ts : TL) : TL := ts.foldl addT l
def tupA (hs : List Int) (ps : List PL) : TL := tupAll [] (ps.map (headT hs))
theorem tupA_snoc (hs : List Int) (ps : List PL) (p : PL) : tupA hs (ps ++ [p]) = addT (tupA hs ps) (headT hs p) := by
  unfold tupA tupAll
  rw [List.map_append, List.foldl_append]
  rfl
theorem tupA_take (hs : List Int) (ps : List PL) {k : Nat} (hk : k < ps.length) {p : PL} (hf : ps.getD k ([], []) = p) : tupA hs (ps.take (k + 1)) = addT (tupA hs (ps.take k)) (headT hs p) := by
  have e : ps[k] = p := by rw [← hf]; simp [List.getD_eq_getElem?_getD, hk]
  rw [List.take_succ_eq_append_getElem hk, e, tupA_snoc]
theorem addTI_mem : ∀ (l : TL) (t x : List Int), x ∈ addTI l t ↔ x = t ∨ x ∈ l
  | [], t, x => by simp [addTI]
  | g :: r, t, x => by
    unfold addTI
    split
    · simp
    · rw [List.mem_cons, addTI_mem r t x, List.mem_cons]
      constructor
      · rintro (h | h | h)
        · exact .inr (.inl h)
        · exact .inl h
        · exact .inr (.inr h)
      · rintro (h | h | h)
        · exact .inr (.inl h)
        · exact .inl h
        · exact .inr (.inr h)
theorem addTI_asc : ∀ (l : TL) (t : List Int), AscT l → t ∉ l → AscT (addTI l t)
  | [], t, _, _ => by simp [addTI]
  | g :: r, t, h, hn => by
    have h' := List.pairwise_cons.1 h
    unfold addTI
    split
    · rename_i hlt
      exact List.pairwise_cons.2 ⟨fun b hb => by
        rcases List.mem_cons.1 hb with e | e
        · rw [e]; exact hlt
        · exact ltL_trans hlt (h'.1 b e), h⟩
    · rename_i hge
      have hl : ltL g t := ltL_total (xs := t) (ys := g) hge fun e => hn (by rw [e]; simp)
      refine List.pairwise_cons.2 ⟨fun b hb => ?_, addTI_asc r t h'.2 fun hm => hn (List.mem_cons_of_mem _ hm)⟩
      rcases (addTI_mem r t b).1 hb with e | e
      · rw [e]; exact hl
      · exact h'.1 b e
theorem addT_asc {l : TL} {t : List Int} (h : AscT l) : AscT (addT l t) := by
  unfold addT
  split
  · exact h
  · exact addTI_asc l t h (by assumption)
theorem addT_iff (l : TL) (t x : List Int) : x ∈ addT l t ↔ x = t ∨ x ∈ l := by
  unfold addT
  split
  · rename_i hm
    exact ⟨.inr, fun h => by
      rcases h with h | h
      · rw [h]; exact hm
      · exact h⟩
  · exact addTI_mem l t x
theorem tupAll_ok : ∀ (ts l : TL), AscT l → AscT (tupAll l ts) ∧ ∀ x, x ∈ tupAll l ts ↔ x ∈ ts ∨ x ∈ l
  | [], l, h => ⟨h, fun x => by simp [tupAll]⟩
  | t :: ts, l, h => by
    have ih := tupAll_ok ts (addT l t) (addT_asc h)
    show AscT (tupAll (addT l t) ts) ∧ ∀ x, x ∈ tupAll (addT l t) ts ↔ _
    refine ⟨ih.1, fun x => ?_⟩
    rw [ih.2, addT_iff, List.mem_cons]
    constructor
    · rintro (h | h | h)
      · exact .inl (.inr h)
      · exact .inl (.inl h)
      · exact .inr h
    · rintro ((h | h) | h)
      · exact .inr (.inl h)
      · exact .inl h
      · exact .inr (.inr h)
theorem tupA_ok (hs : List Int) (ps : List PL) : AscT (tupA hs ps) ∧ ∀ x, x ∈ tupA hs ps ↔ ∃ p ∈ ps, headT hs p = x := by
  have := tupAll_ok (ps.map (headT hs)) [] List.Pairwise.nil
  refine ⟨this.1, fun x => ?_⟩
  unfold tupA
  rw [this.2, List.mem_map]
  simp
/-- An ascending list of the heads is THE list. -/
theorem tupA_is {hs : List Int} {ps : List PL} {r : TL} (h : AscT r) (hm : ∀ x, x ∈ r ↔ ∃ p ∈ ps, headT hs p = x) : tupA hs ps = r :=
  ascT_unique _ _ (tupA_ok hs ps).1 h fun x => by rw [(tupA_ok hs ps).2, hm]
end Go.Proofs.YtimlpdcambmcjaaGreat
