/- Lists of lists of numbers in memory: their size, their copy, their comparison by the law. Conditions: none beyond each theorem's own. Lists of lists of the call's own that grow; where one more stands; marks on them. Conditions: none beyond each theorem's own. Trees of numbers in memory: what adding a number does. Conditions: none beyond each theorem's own. Trees of numbers in memory: their list. Conditions: none beyond each theorem's own. -/
import Derived.Test.YtnmhppiccganoaaDoorEqList
import Derived.Test.YtnmhppiccganoaaDoorAg4
import Derived.Test.YtnmhppiccganoaaDoorMark
import Derived.Test.YtnmhppiccganoaaDoorAg1
import Derived.Test.YtnmhppiccganoaaDoorCmp
import Derived.Deep.Trees
import Derived.Deep.RegionHeld3

namespace Go.Proofs.YtnmhppiccganoaaDoor
open Go.ChangeShapes Go.WideShapes Go.ChangeAt Go.RowKit
set_option linter.unusedVariables false
set_option linter.unusedSimpArgs false

abbrev TL := List (List Int)
/-- At the address A lie the lists ts, all of it in blocks from lo to below hi. -/
def Tups (w : World) (lo hi : Nat) (A : Option Addr) (ts : TL) : Prop :=
  ts ≠ [] → ∃ b off, A = some ⟨b, off, none⟩ ∧ lo ≤ b ∧ b < hi ∧ ∀ k, k < ts.length → ∃ B c, w.cell? ⟨b, off + k, none⟩ = some (.slice B (ts.getD k []).length c) ∧ (ts.getD k []).length ≤ c ∧ c ≤ maxLen ∧ Ints w lo hi B (ts.getD k [])
theorem Tups.keep {w w' : World} {lo hi : Nat} {A : Option Addr} {ts : TL} (h : Tups w lo hi A ts) (hk : ∀ b, lo ≤ b → b < hi → w'.heap[b]? = w.heap[b]?) : Tups w' lo hi A ts := fun hx => by
  obtain ⟨b, off, h1, h2, h3, h4⟩ := h hx
  refine ⟨b, off, h1, h2, h3, fun k hkx => ?_⟩
  obtain ⟨B, c, h6, h7, h8, h9⟩ := h4 k hkx
  exact ⟨B, c, (World.cell?_of_block (w := w) (a := ⟨b, off + k, none⟩) (hk b h2 h3)).trans h6, h7, h8, h9.keep hk⟩
theorem Tups.mono {w : World} {lo hi lo' hi' : Nat} {A : Option Addr} {ts : TL} (h : Tups w lo hi A ts) (h1 : lo' ≤ lo) (h2 : hi ≤ hi') : Tups w lo' hi' A ts := fun hx => by
  obtain ⟨b, off, e, h3, h4, h5⟩ := h hx
  refine ⟨b, off, e, by omega, by omega, fun k hk => ?_⟩
  obtain ⟨B, c, g2, g3, g4, g5⟩ := h5 k hk
  exact ⟨B, c, g2, g3, g4, g5.mono h1 h2⟩
/-- At A lie the lists ts. -/
def RT (w : World) (A : Option Addr) (ts : TL) : Prop := Tups w 0 w.heap.size A ts
theorem RT.step {w w' : World} {A : Option Addr} {ts : TL} (h : RT w A ts) (b : Below w.heap.size w w') : RT w' A ts := (Tups.keep h fun k _ h2 => b.block k h2).mono (Nat.le_refl _) b.size
theorem RT.at_ {w : World} {A : Option Addr} {ts : TL} (h : RT w A ts) {k : Nat} (hk : k < ts.length) {xs : List Int} (hf : ts.getD k [] = xs) :
    ∃ b off B c, A = some ⟨b, off, none⟩ ∧ b < w.heap.size ∧ w.cell? ⟨b, off + k, none⟩ = some (.slice B xs.length c) ∧ xs.length ≤ c ∧ c ≤ maxLen ∧ RI w B xs := by
  obtain ⟨b, off, h1, h2, h3, h4⟩ := h (by rintro rfl; simp at hk)
  obtain ⟨B, c, h6, h7, h8, h9⟩ := h4 k hk
  subst hf
  exact ⟨b, off, B, c, h1, h3, h6, h7, h8, h9⟩

section
variable {H : Type} {enc : TypeId × Value → H} {w : World}
set_option maxRecDepth 100000 in
theorem open_tupsT {r : Reach} {base : Nat} {v : Value} {d : DataW H} {p : List MemPlace} (hv : Value.okWide Tryd.prog w r base 63 v) (h : DataW.Trod enc Tryd.prog w 0 (fun _ => true) true 63 v d p) :
    ∃ (A : Option Addr) (c : Nat) (ts : TL), v = .slice A ts.length c ∧ ts.length ≤ c ∧ c ≤ maxLen ∧ RT w A ts := by
  obtain ⟨fuel, hf⟩ := h
  obtain ⟨A0, l0, c0, rfl⟩ := okWide_slice Tryd.underlying63 hv
  have hC : Tryd.prog.cellsOf 22 = 1 := by kernel_rfl
  rcases Go.Deep.open_slice Tryd.underlying63 hf with ⟨hv, _⟩ | ⟨a, len, cap, m, n, D, Pl, hv, _, hl, hm, hmm, _, hi⟩
  · injection hv with hv
    exact ⟨none, 0, [], hv, Nat.le_refl _, by unfold maxLen; omega, fun h => absurd rfl h⟩
  · injection hv with hv
    rw [hC] at hi
    simp only [if_true] at hmm
    have each : ∀ i, i < len → ∃ x : List Int, ∃ B c', w.cell? (a.add (i * 1)) = some (.slice B x.length c') ∧ x.length ≤ c' ∧ c' ≤ maxLen ∧ Ints w 0 w.heap.size B x := by
      intro i hil
      obtain ⟨cs, hc, ht⟩ := hi i (by omega)
      obtain ⟨_, hcl, hat⟩ := World.cells?_some hc
      have k1 : Tryd.prog.cellsOf 3 = 1 := by kernel_rfl
      have e0 := hat 0 (by omega)
      match cs, hcl with
      | [u0], _ =>
        obtain ⟨B, c', xs, hv1, hl, hm, hii⟩ := open_nums (v := u0) Tryd.underlying22 Tryd.underlying3 k1 ht
        subst hv1
        refine ⟨xs, B, c', ?_, hl, hm, hii⟩
        simpa [Go.Deep.add_add] using e0
    obtain ⟨f, hfx⟩ := Go.Deep.choose_lt each
    have hlen : ((List.range len).map f).length = len := by simp
    refine ⟨some a, cap, (List.range len).map f, by rw [hlen]; exact hv, by rw [hlen]; exact hl, hm, fun hne => ?_⟩
    have hpos : 0 < len := by
      rcases Nat.eq_zero_or_pos len with h0 | h0
      · subst h0; simp at hne
      · exact h0
    obtain ⟨b, off, spot⟩ := a
    obtain ⟨_, _, hc0, _⟩ := hfx 0 hpos
    have hspot : spot = none := by simpa [Addr.add] using World.cell?_spot hc0
    subst hspot
    have hb := World.block_lt_of_cell? w _ hc0
    refine ⟨b, off, rfl, by omega, by simpa [Addr.add] using hb, fun k hk => ?_⟩
    have hk' : k < len := by rw [hlen] at hk; exact hk
    have e : ∀ j, (⟨b, off, none⟩ : Addr).add j = ⟨b, off + j, none⟩ := fun j => by unfold Addr.add; split <;> simp_all
    obtain ⟨B, c', g2, g3, g4, g5⟩ := hfx k hk'
    rw [e, Nat.mul_one] at g2
    have hx : ((List.range len).map f).getD k [] = f k := by simp [List.getD_eq_getElem?_getD, hk']
    rw [hx]
    exact ⟨B, c', g2, g3, g4, g5⟩
end

def sumT (l : TL) : Nat := (l.map fun f => f.length).sum
/-- How many values a list of lists holds, each list counted, too. -/
def szT (l : TL) : Int := (l.length : Int) + (sumT l : Int)
theorem szT_nonneg (l : TL) : 0 ≤ szT l := by unfold szT; omega
theorem szT_len {l : TL} (h : szT l ≤ 1048576) : l.length ≤ 1048576 := by unfold szT at h; omega
theorem sumT_take (l : TL) (k : Nat) (hk : k < l.length) : sumT (l.take (k + 1)) = sumT (l.take k) + (l.getD k []).length := by
  unfold sumT
  rw [List.take_succ_eq_append_getElem hk, List.map_append, List.sum_append]
  simp [List.getD_eq_getElem?_getD, hk]
theorem sumT_le (l : TL) (k : Nat) : sumT (l.take k) ≤ sumT l := by
  have : sumT l = sumT (l.take k) + sumT (l.drop k) := by
    unfold sumT
    rw [← List.sum_append, ← List.map_append, List.take_append_drop]
  omega
theorem szT_elem {l : TL} (h : szT l ≤ 1048576) {k : Nat} (hk : k < l.length) : (l.getD k []).length ≤ 1048576 := by
  have h1 := sumT_take l k hk
  have h2 := sumT_le l (k + 1)
  unfold szT at h
  omega

set_option maxRecDepth 100000 in
theorem ints_info : (Tryd.prog.info? 22).map (fun i => (i.zero, i.size, i.bytes)) = some (some (.slice none 0 0), 1, 24) := by kernel_rfl

/-- Block g begins with the first k of the lists ts, their numbers each in a block of its own, all from lo to below hi. -/
def OwnT (w : World) (lo hi g m k : Nat) (ts : TL) : Prop :=
  lo ≤ g ∧ g < hi ∧ ∃ (F : Nat → Value) (bs : Nat → Nat), w.rowIs g 22 m F ∧ (∀ j, j < k → OwnV w lo hi (F j) (bs j) (ts.getD j [])) ∧
    (∀ i j, i < j → j < k → 0 < (ts.getD i []).length → 0 < (ts.getD j []).length → bs i ≠ bs j)

theorem OwnT.tups {w : World} {lo hi g m : Nat} {ts : TL} (h : OwnT w lo hi g m ts.length ts) (hm : ts.length ≤ m) : Tups w lo hi (some ⟨g, 0, none⟩) ts := fun _ => by
  obtain ⟨h1, h2, F, bs, hr, he, _⟩ := h
  refine ⟨g, 0, rfl, h1, h2, fun k hk => ?_⟩
  have e1 := he k hk
  obtain ⟨A, c, hv, _⟩ := id e1
  rw [hv] at e1
  obtain ⟨_, hc, hcm, hi⟩ := e1.ints
  refine ⟨A, c, ?_, hc, hcm, hi⟩
  rw [Nat.zero_add, World.rowIs.cell hr (show k < m by omega), hv]
theorem OwnT.rt {w : World} {lo g m : Nat} {ts : TL} (h : OwnT w lo w.heap.size g m ts.length ts) (hm : ts.length ≤ m) : RT w (some ⟨g, 0, none⟩) ts := (h.tups hm).mono (Nat.zero_le _) (Nat.le_refl _)

/-- One list more is stored. -/
theorem ownT_step {wr u : World} {lo g m k : Nat} {ts : TL} (h : OwnT wr lo wr.heap.size g m k ts) (hkm : k < m) {xs : List Int} (hf : ts.getD k [] = xs) (hb : Below wr.heap.size wr u)
    {v : Value} {q : Nat} (hv : OwnV u lo u.heap.size v q xs) (hq : 0 < xs.length → wr.heap.size ≤ q) :
    OwnT (u.setCell ⟨g, k, none⟩ v) lo (u.setCell ⟨g, k, none⟩ v).heap.size g m (k + 1) ts := by
  rw [set_size]
  obtain ⟨h1, h2, F, bs, hr, he, hd⟩ := h
  have hs := hb.size
  have hr2 : u.rowIs g 22 m F := World.rowIs.of_block hr (hb.block g h2)
  have far : ∀ b, b ≠ g → (u.setCell ⟨g, k, none⟩ v).heap[b]? = u.heap[b]? := fun b hbg => Below.heap_setCell _ ⟨g, k, none⟩ _ b hbg
  have ne : ∀ b, (∃ c, u.heap[b]? = some (.cells c 3 (0, 0))) → b ≠ g := by
    rintro b ⟨c, hc⟩ rfl
    obtain ⟨c2, hc2, _⟩ := hr2
    rw [hc] at hc2
    injection hc2 with hc2
    injection hc2 with _ ht
    exact absurd ht (by decide)
  have hlt : ∀ j, j < k → 0 < (ts.getD j []).length → bs j < wr.heap.size := fun j hj hp => by
    obtain ⟨A, c, _, _, _, hx⟩ := he j hj
    exact (hx hp).2.2.1
  refine ⟨h1, by omega, _, fun j => if j = k then q else bs j, hr2.set k _, fun j hj => ?_, fun i j hij hj hi0 hj0 => ?_⟩
  · by_cases e : j = k
    · subst e
      simp only [if_pos, hf]
      exact hv.keep fun _ _ hc => far _ (ne _ hc)
    · simp only [e, if_false]
      have e2 : OwnV u lo wr.heap.size (F j) (bs j) (ts.getD j []) := (he j (by omega)).keep fun _ a _ => hb.block _ a
      exact (e2.mono (Nat.le_refl _) hs).keep fun _ _ hc => far _ (ne _ hc)
  · by_cases e : j = k
    · subst e
      have e' : i ≠ j := by omega
      simp only [if_pos, e', if_false]
      have := hlt i hij hi0
      rw [hf] at hj0
      have := hq hj0
      omega
    · have e' : i ≠ k := by omega
      simp only [e, e', if_false]
      exact hd i j hij (by omega) hi0 hj0

theorem makeTups (n : Nat) (hn : n ≤ 1048576) :
    ∃ C : Array Value, (∀ i, i < n → C[i]? = some (.slice none 0 0)) ∧ C.size = n ∧ ∀ W : World, (Instr.makeSlice 63 (.int .i64 (n : Int)) (.int .i64 (n : Int))).run Tryd.prog W = .ok (.slice (some ⟨W.heap.size, 0, none⟩) n n) (W.alloc (.cells C 22)) := by
  obtain ⟨i0, hi, hz0, hz1, hz2⟩ := info_parts ints_info
  refine ⟨madeCells #[.slice none 0 0] (n * 1), fun i hin => ?_, by rw [size_madeCells]; omega, fun W => ?_⟩
  · simp [madeCells, hin, Nat.mod_one]
  · have h := run_make (P := Tryd.prog) W 63 22 i0 (.slice none 0 0) Tryd.underlying63 hi hz0 .i64 .i64 (n : Int) (n : Int) (by omega) (by omega) (by rw [hz2]; omega) (by omega)
    rw [hz1, show ((n : Int)).toNat = n by omega] at h
    exact h

theorem ownT_new (w : World) (n : Nat) (C : Array Value) (hC : ∀ i, i < n → C[i]? = some (.slice none 0 0)) (hS : C.size = n) (ts : TL) :
    OwnT (w.alloc (.cells C 22)) w.heap.size (w.alloc (.cells C 22)).heap.size w.heap.size n 0 ts :=
  ⟨Nat.le_refl _, by simp, fun _ => .slice none 0 0, fun _ => 0, ⟨C, by rw [heap_alloc_new], hS, fun i hi => hC i hi⟩, fun j hj => by omega, fun i j _ hj => by omega⟩

end Go.Proofs.YtnmhppiccganoaaDoor

namespace Go.Proofs.YtnmhppiccganoaaDoor
open Go.ChangeShapes Go.WideShapes Go.ChangeAt Go.RowKit Go.Sort
set_option linter.unusedVariables false
set_option linter.unusedSimpArgs false

/-- The cells cs are the lists ts, their numbers each in a block of its own from lo to below hi. -/
def ItemsT (w : World) (lo hi : Nat) (ts : TL) (cs : List Value) (bs : Nat → Nat) : Prop :=
  cs.length = ts.length ∧ (∀ k, k < ts.length → ∃ v1, cs[k]? = some v1 ∧ OwnV w lo hi v1 (bs k) (ts.getD k [])) ∧
    (∀ i j, i < j → j < ts.length → 0 < (ts.getD i []).length → 0 < (ts.getD j []).length → bs i ≠ bs j)
/-- The slice value v owns a row that is the lists ts. -/
def OwnCT (w : World) (lo hi : Nat) (v : Value) (ts : TL) (cs : List Value) (bs : Nat → Nat) : Prop := w.ownsRow lo 22 1 v ts.length cs ∧ ItemsT w lo hi ts cs bs
theorem ItemsT.keep {w w' : World} {lo hi : Nat} {ts : TL} {cs : List Value} {bs : Nat → Nat} (h : ItemsT w lo hi ts cs bs) (hk : ∀ q, lo ≤ q → q < hi → (∃ c, w.heap[q]? = some (.cells c 3 (0, 0))) → w'.heap[q]? = w.heap[q]?) : ItemsT w' lo hi ts cs bs := by
  obtain ⟨h1, h2, h3⟩ := h
  refine ⟨h1, fun k hkl => ?_, h3⟩
  obtain ⟨v1, e1, hv⟩ := h2 k hkl
  exact ⟨v1, e1, hv.keep (hk _)⟩
theorem ItemsT.mono {w : World} {lo hi lo' hi' : Nat} {ts : TL} {cs : List Value} {bs : Nat → Nat} (h : ItemsT w lo hi ts cs bs) (a : lo' ≤ lo) (b : hi ≤ hi') : ItemsT w lo' hi' ts cs bs := by
  obtain ⟨h1, h2, h3⟩ := h
  refine ⟨h1, fun k hkl => ?_, h3⟩
  obtain ⟨v1, e1, hv⟩ := h2 k hkl
  exact ⟨v1, e1, hv.mono a b⟩
theorem ItemsT.rng {w : World} {lo hi : Nat} {ts : TL} {cs : List Value} {bs : Nat → Nat} (h : ItemsT w lo hi ts cs bs) {k : Nat} (hk : k < ts.length) (hp : 0 < (ts.getD k []).length) : lo ≤ bs k ∧ bs k < hi := by
  obtain ⟨v1, _, hv⟩ := h.2.1 k hk
  exact hv.rng hp
theorem ItemsT.nil (w : World) (lo hi : Nat) : ItemsT w lo hi [] [] (fun _ => 0) := ⟨rfl, fun k hk => by simp at hk, fun i j _ hj => by simp at hj⟩
theorem ItemsT.insert {w : World} {lo mid hi : Nat} {ts : TL} {cs : List Value} {bs : Nat → Nat} (h : ItemsT w lo mid ts cs bs) {q : Nat} {xs : List Int} {v : Value} (hv : OwnV w mid hi v q xs) (a : lo ≤ mid) (b : mid ≤ hi) (k : Nat) (hk : k ≤ ts.length) :
    ItemsT w lo hi (ts.take k ++ xs :: ts.drop k) (cs.take k ++ [v] ++ cs.drop k) (fun j => if j < k then bs j else if j = k then q else bs (j - 1)) := by
  have H := h
  obtain ⟨h1, h2, h3⟩ := h
  have hm : k ≤ cs.length := by omega
  have hc : cs.take k ++ [v] ++ cs.drop k = cs.take k ++ v :: cs.drop k := by simp
  rw [hc]
  refine ⟨?_, fun j hj => ?_, fun i j hij hj hi0 hj0 => ?_⟩
  · rw [ins_len _ _ _ hk, ins_len _ _ _ hm, h1]
  · rw [ins_len _ _ _ hk] at hj
    rw [ins_getD _ _ _ _ hk, ins_get _ _ _ hm]
    by_cases e1 : j < k
    · simp only [if_pos e1]
      obtain ⟨v1, e2, hv1⟩ := h2 j (by omega)
      exact ⟨v1, e2, hv1.mono (Nat.le_refl _) b⟩
    · by_cases e2 : j = k
      · subst e2
        simp only [if_neg e1, if_pos]
        exact ⟨v, rfl, hv.mono a (Nat.le_refl _)⟩
      · simp only [if_neg e1, if_neg e2]
        obtain ⟨v1, e3, hv1⟩ := h2 (j - 1) (by omega)
        exact ⟨v1, e3, hv1.mono (Nat.le_refl _) b⟩
  · rw [ins_len _ _ _ hk] at hj
    rw [ins_getD _ _ _ _ hk] at hi0 hj0
    by_cases j1 : j < k
    · have i1 : i < k := by omega
      simp only [if_pos i1, if_pos j1] at hi0 hj0 ⊢
      exact h3 i j hij (by omega) hi0 hj0
    · by_cases j2 : j = k
      · subst j2
        simp only [if_pos hij, if_neg j1, if_pos] at hi0 hj0 ⊢
        have r1 := H.rng (show i < ts.length by omega) hi0
        have r2 := hv.rng hj0
        omega
      · simp only [if_neg j1, if_neg j2] at hj0 ⊢
        have r2 := H.rng (show j - 1 < ts.length by omega) hj0
        by_cases i1 : i < k
        · simp only [if_pos i1] at hi0 ⊢
          exact h3 i (j - 1) (by omega) (by omega) hi0 hj0
        · by_cases i2 : i = k
          · subst i2
            simp only [if_neg i1, if_pos] at hi0 ⊢
            have r1 := hv.rng hi0
            omega
          · simp only [if_neg i1, if_neg i2] at hi0 ⊢
            exact h3 (i - 1) (j - 1) (by omega) (by omega) hi0 hj0
theorem ItemsT.snoc {w : World} {lo mid hi : Nat} {ts : TL} {cs : List Value} {bs : Nat → Nat} (h : ItemsT w lo mid ts cs bs) {q : Nat} {xs : List Int} {v : Value} (hv : OwnV w mid hi v q xs) (a : lo ≤ mid) (b : mid ≤ hi) :
    ∃ bs2, ItemsT w lo hi (ts ++ [xs]) (cs ++ [v]) bs2 := by
  have := h.insert hv a b ts.length (Nat.le_refl _)
  have hl := h.1
  rw [List.take_length, List.drop_length, List.take_of_length_le (by omega), List.drop_eq_nil_of_le (by omega), List.append_nil] at this
  exact ⟨_, this⟩
theorem OwnCT.step {w w' : World} {lo : Nat} {v : Value} {ts : TL} {cs : List Value} {bs : Nat → Nat} (h : OwnCT w lo w.heap.size v ts cs bs) (b : Below w.heap.size w w') : OwnCT w' lo w'.heap.size v ts cs bs :=
  ⟨h.1.kept (own_none b) (by rcases hv : v.ownBlock with _ | g <;> simp), (h.2.keep fun q _ h2 _ => b.block q h2).mono (Nat.le_refl _) b.size⟩
theorem OwnCT.cur {w w' : World} {lo hi : Nat} {v : Value} {ts : TL} {cs : List Value} {bs : Nat → Nat} (h : OwnCT w lo hi v ts cs bs) (hhi : hi ≤ w.heap.size) (b : Below w.heap.size w w') : OwnCT w' lo hi v ts cs bs :=
  ⟨h.1.kept (own_none b) (by rcases hv : v.ownBlock with _ | g <;> simp), h.2.keep fun q _ h2 _ => b.block q (by omega)⟩
theorem OwnCT.lo {w : World} {lo lo' hi : Nat} {v : Value} {ts : TL} {cs : List Value} {bs : Nat → Nat} (h : OwnCT w lo hi v ts cs bs) (a : lo' ≤ lo) : OwnCT w lo' hi v ts cs bs := ⟨ownsRow_low h.1 a, h.2.mono a (Nat.le_refl _)⟩
/-- Behind an append of one list. -/
theorem ownT_append {w w' : World} {lo mid : Nat} {v v' : Value} {ts : TL} {xs : List Int} {y : Value} {cs : List Value} {bs : Nat → Nat} {q : Nat} (h : OwnCT w lo mid v ts cs bs) (hv : OwnV w mid w.heap.size y q xs) (a : lo ≤ mid) (b : mid ≤ w.heap.size)
    (hown : w'.ownsRow lo 22 1 v' (ts.length + 1) (cs ++ [y])) (hg : w.grownBy w' v.ownBlock) : ∃ bs2, OwnCT w' lo w'.heap.size v' (ts ++ [xs]) (cs ++ [y]) bs2 := by
  obtain ⟨bs2, hI⟩ := h.2.snoc hv a b
  refine ⟨bs2, by rw [List.length_append]; exact hown, (hI.keep fun q _ hq ⟨c, hc⟩ => hg.block q hq fun e => ?_).mono (Nat.le_refl _) hg.size⟩
  rcases h.1.2 with ⟨rfl, _⟩ | ⟨g, cap, cur, rfl, _, hh, _⟩
  · simp [Value.ownBlock] at e
  · have : g = q := own_some e.symm
    subst this
    rw [hc] at hh
    injection hh with hh
    injection hh with _ ht
    exact absurd ht (by decide)
/-- A row that was made in full. -/
theorem OwnCT.of_P {w : World} {lo g : Nat} {ts : TL} (h : OwnT w lo w.heap.size g ts.length ts.length ts) (hl : ts.length ≤ 1048576) : ∃ cs bs, OwnCT w lo w.heap.size (.slice (some ⟨g, 0, none⟩) ts.length ts.length) ts cs bs := by
  obtain ⟨h1, h2, F, bs, hr, he, hd⟩ := h
  obtain ⟨c, hc, hcs, hF⟩ := hr
  refine ⟨c.toList, bs, ⟨by simpa using hcs, .inr ⟨g, ts.length, c, rfl, h1, hc, Nat.le_refl _, by unfold maxLen; omega, by simpa using hcs, ?_⟩⟩, by simpa using hcs, fun k hk => ?_, hd⟩
  · rw [List.take_of_length_le (by simp [hcs])]
  · refine ⟨F k, ?_, he k hk⟩
    rw [Array.getElem?_toList, hF _ (by omega)]
theorem OwnCT.to_P {w : World} {lo g n cap : Nat} {ts : TL} {cs : List Value} {bs : Nat → Nat} (h : OwnCT w lo w.heap.size (.slice (some ⟨g, 0, none⟩) n cap) ts cs bs) : n = ts.length ∧ n ≤ cap ∧ OwnT w lo w.heap.size g cap ts.length ts := by
  obtain ⟨⟨hl, h⟩, h1, h2, h3⟩ := h
  rcases h with ⟨h, _⟩ | ⟨g', cap', cur, hv, hb, hg, hnc, hcm, hcs, htk⟩
  · cases h
  · injection hv with e1 e2 e3
    injection e1 with e1
    injection e1 with e1
    subst e1 e3
    have hlt : g < w.heap.size := by
      rcases Nat.lt_or_ge g w.heap.size with hlt | hge
      · exact hlt
      · rw [Array.getElem?_eq_none hge] at hg; cases hg
    have at_ : ∀ i u, cs[i]? = some u → cur.getD i undef = u := fun i u hu => by
      have hi : i < ts.length * 1 := by have := (List.getElem?_eq_some_iff.1 hu).1; omega
      rw [← htk, List.getElem?_take_of_lt hi, Array.getElem?_toList] at hu
      simp [Array.getD_eq_getD_getElem?, hu]
    refine ⟨e2, by omega, hb, hlt, fun i => cur.getD i undef, bs, ⟨cur, hg, by omega, fun i hi => by simp [Array.getD_eq_getD_getElem?, show i < cur.size by omega]⟩, fun j hj => ?_, h3⟩
    obtain ⟨v1, e1, hv⟩ := h2 j hj
    show OwnV w lo w.heap.size (cur.getD j undef) (bs j) _
    rw [at_ _ _ e1]
    exact hv
theorem OwnCT.form {w : World} {lo hi : Nat} {v : Value} {ts : TL} {cs : List Value} {bs : Nat → Nat} (h : OwnCT w lo hi v ts cs bs) : ∃ A c, v = .slice A ts.length c := by
  rcases h.1.2 with ⟨rfl, h0⟩ | ⟨g, cap, _, rfl, _⟩
  · exact ⟨none, 0, by rw [h0]⟩
  · exact ⟨_, _, rfl⟩
theorem OwnCT.addr {w : World} {lo hi n c : Nat} {A : Option Addr} {ts : TL} {cs : List Value} {bs : Nat → Nat} (h : OwnCT w lo hi (.slice A n c) ts cs bs) : (A = none ∧ ts = []) ∨ ∃ g, A = some ⟨g, 0, none⟩ := by
  rcases h.1.2 with ⟨hv, h0⟩ | ⟨g', cap, _, hv, _⟩
  · injection hv with e1
    exact .inl ⟨e1, List.eq_nil_of_length_eq_zero h0⟩
  · injection hv with e1
    exact .inr ⟨g', e1⟩
theorem OwnCT.rt {w : World} {lo n c : Nat} {A : Option Addr} {ts : TL} {cs : List Value} {bs : Nat → Nat} (h : OwnCT w lo w.heap.size (.slice A n c) ts cs bs) : RT w A ts := by
  rcases h.addr with ⟨rfl, rfl⟩ | ⟨g, rfl⟩
  · exact fun hne => absurd rfl hne
  · obtain ⟨e, hc, hp⟩ := h.to_P
    exact hp.rt (by omega)
theorem ownCT_cells {w : World} {lo hi g n c : Nat} {ts : TL} {cs : List Value} {bs : Nat → Nat} (h : OwnCT w lo hi (.slice (some ⟨g, 0, none⟩) n c) ts cs bs) : ∀ j v, cs[j]? = some v → w.cell? ⟨g, j, none⟩ = some v := fun j v hj => by
  have := h.1.cells (g := g) rfl j v hj
  rwa [add_eq, Nat.zero_add] at this
theorem itemsT_one {w : World} {lo hi : Nat} {ts : TL} {cs : List Value} {bs : Nat → Nat} (h : ItemsT w lo hi ts cs bs) : ∀ x ∈ cs, x.oneCell' = true := fun x hx => by
  obtain ⟨j, hj⟩ := List.getElem?_of_mem hx
  have hlt : j < ts.length := by have := (List.getElem?_eq_some_iff.1 hj).1; have := h.1; omega
  obtain ⟨v1, e1, hv⟩ := h.2.1 j hlt
  rw [hj] at e1
  injection e1 with e1
  subst e1
  obtain ⟨A, c, rfl, _⟩ := hv
  rfl

/-- The list before the first one that is greater. -/
def addTI : TL → List Int → TL
  | [], t => [t]
  | x :: r, t => if cmpL t x < 0 then t :: x :: r else x :: addTI r t
def addT (l : TL) (t : List Int) : TL := if t ∈ l then l else addTI l t
theorem addTI_at : ∀ (l : TL) (t : List Int) (k : Nat), k ≤ l.length → (∀ j, j < k → ¬ cmpL t (l.getD j []) < 0) → (k < l.length → cmpL t (l.getD k []) < 0) → addTI l t = l.take k ++ t :: l.drop k
  | [], t, k, hk, _, _ => by
    have : k = 0 := by simpa using hk
    subst this
    rfl
  | g :: r, t, 0, _, _, h2 => by
    have h := h2 (by simp)
    simp only [List.getD_cons_zero] at h
    rw [addTI, if_pos h]
    rfl
  | g :: r, t, k + 1, hk, h1, h2 => by
    have h := h1 0 (by omega)
    simp only [List.getD_cons_zero] at h
    have ih := addTI_at r t k (by simpa using hk) (fun j hj => by have := h1 (j + 1) (by omega); simpa using this) (fun hlt => by have := h2 (by simpa using hlt); simpa using this)
    rw [addTI, if_neg h, ih]
    rfl
theorem getD_memT {l : TL} {k : Nat} (hk : k < l.length) : l.getD k [] ∈ l := by
  rw [List.getD_eq_getElem?_getD, List.getElem?_eq_getElem hk]
  exact List.getElem_mem _
theorem memT_iff (l : TL) (t : List Int) : t ∈ l ↔ ∃ k, k < l.length ∧ decide (cmpL (l.getD k []) t = 0) = true := by
  constructor
  · intro h
    obtain ⟨k, hk, rfl⟩ := List.getElem_of_mem h
    exact ⟨k, hk, decide_eq_true ((cmpL_zero _ _).2 (by simp [List.getD_eq_getElem?_getD, hk]))⟩
  · rintro ⟨k, hk, h⟩
    have := (cmpL_zero _ _).1 (of_decide_eq_true h)
    rw [← this]
    exact getD_memT hk
theorem addTI_gr {l : TL} {t : List Int} (h : t ∉ l) {k : Nat} (hk : k ≤ l.length) (h1 : ∀ j, j < k → decide (cmpL (l.getD j []) t > 0) = false) (h2 : k < l.length → decide (cmpL (l.getD k []) t > 0) = true) : addTI l t = l.take k ++ t :: l.drop k := by
  refine addTI_at l t k hk (fun j hj => ?_) (fun hlt => ?_)
  · have := of_decide_eq_false (h1 j hj)
    have a := cmpL_anti t (l.getD j [])
    omega
  · have := of_decide_eq_true (h2 hlt)
    have a := cmpL_anti t (l.getD k [])
    omega
theorem sumT_ins (l : TL) (t : List Int) (k : Nat) : sumT (l.take k ++ t :: l.drop k) = sumT l + t.length := by
  have : sumT l = sumT (l.take k) + sumT (l.drop k) := by
    unfold sumT
    rw [← List.sum_append, ← List.map_append, List.take_append_drop]
  rw [this]
  simp [sumT]; omega
theorem addTI_form : ∀ (l : TL) (t : List Int), ∃ k, k ≤ l.length ∧ addTI l t = l.take k ++ t :: l.drop k
  | [], t => ⟨0, by simp, rfl⟩
  | x :: r, t => by
    obtain ⟨k, hk, e⟩ := addTI_form r t
    by_cases h : cmpL t x < 0
    · exact ⟨0, by simp, by rw [addTI, if_pos h]; rfl⟩
    · exact ⟨k + 1, by simpa using hk, by rw [addTI, if_neg h, e]; rfl⟩
theorem addT_mem {l : TL} {t x : List Int} (h : x ∈ addT l t) : x ∈ l ∨ x = t := by
  unfold addT at h
  split at h
  · exact .inl h
  · obtain ⟨k, _, e⟩ := addTI_form l t
    rw [e, List.mem_append, List.mem_cons] at h
    rcases h with h | h | h
    · exact .inl (List.mem_of_mem_take h)
    · exact .inr h
    · exact .inl (List.mem_of_mem_drop h)
theorem addT_len (l : TL) (t : List Int) : (addT l t).length ≤ l.length + 1 := by
  unfold addT
  split
  · omega
  · obtain ⟨k, hk, e⟩ := addTI_form l t
    rw [e, ins_len _ _ _ hk]
    exact Nat.le_refl _
theorem addT_sum (l : TL) (t : List Int) : sumT (addT l t) ≤ sumT l + t.length := by
  unfold addT
  split
  · omega
  · obtain ⟨k, hk, e⟩ := addTI_form l t
    rw [e, sumT_ins]
    exact Nat.le_refl _

/-- A list of lists of the call's own is returned. -/
def AddOutT (w : World) (res : TL) (e : Ending) (w' : World) : Prop :=
  ∃ A c cs bs, e = .returned (.slice A res.length c) ∧ OwnCT w' w.heap.size w'.heap.size (.slice A res.length c) res cs bs ∧ Below w.heap.size w w'

/-! Marks. -/
def offT (q : Int) (ts : TL) (k : Nat) : Int := q + (sumT (ts.take k) : Int)
theorem offT_succ (q : Int) (ts : TL) (k : Nat) (hk : k < ts.length) : offT q ts (k + 1) = offT q ts k + ((ts.getD k []).length : Int) := by
  unfold offT
  rw [sumT_take ts k hk]
  omega
theorem offT_end (q : Int) (ts : TL) : offT q ts ts.length = q + sumT ts := by
  unfold offT
  rw [take_all]
theorem offT_rng (q : Int) (ts : TL) (k : Nat) : q ≤ offT q ts k ∧ offT q ts k ≤ q + sumT ts := by
  have := sumT_le ts k
  unfold offT
  omega
/-- The first k lists are marked. -/
def mkT (q : Int) (ts : TL) (k : Nat) : TL := (List.range ts.length).map fun j => if j < k then marks (offT q ts j) (ts.getD j []).length else ts.getD j []
theorem mkT_length (q : Int) (ts : TL) (k : Nat) : (mkT q ts k).length = ts.length := by simp [mkT]
theorem mkT_getD (q : Int) (ts : TL) (k j : Nat) (hj : j < ts.length) : (mkT q ts k).getD j [] = if j < k then marks (offT q ts j) (ts.getD j []).length else ts.getD j [] := by
  simp [mkT, List.getD_eq_getElem?_getD, hj]
theorem mkT_len (q : Int) (ts : TL) (k j : Nat) (hj : j < ts.length) : ((mkT q ts k).getD j []).length = (ts.getD j []).length := by
  rw [mkT_getD q ts k j hj]
  split
  · rw [marks_length]
  · rfl
theorem OwnT.congr {w : World} {lo hi g m k : Nat} {fs gs : TL} (h : OwnT w lo hi g m k fs) (e : ∀ j, j < k → gs.getD j [] = fs.getD j []) : OwnT w lo hi g m k gs := by
  obtain ⟨h1, h2, F, bs, hr, he, hd⟩ := h
  refine ⟨h1, h2, F, bs, hr, fun j hj => by rw [e j hj]; exact he j hj, fun i j hij hj => ?_⟩
  rw [e i (by omega), e j hj]
  exact hd i j hij hj
/-- List k is marked. -/
theorem markT_step {w w2 : World} {lo hi g m k : Nat} {q : Int} {ts : TL} {F : Nat → Value} {bs : Nat → Nat} (h1 : lo ≤ g) (h2 : g < hi) (hr : w.rowIs g 22 m F)
    (he : ∀ j, j < ts.length → OwnV w lo hi (F j) (bs j) ((mkT q ts k).getD j []))
    (hd : ∀ i j, i < j → j < ts.length → 0 < ((mkT q ts k).getD i []).length → 0 < ((mkT q ts k).getD j []).length → bs i ≠ bs j)
    (hk : k < ts.length)
    (hw : (0 < (ts.getD k []).length ∧ Within (bs k) (bs k + 1) w w2 ∧
        ∃ (mk : Nat) (Fk : Nat → Value), (ts.getD k []).length ≤ mk ∧ w2.rowIs (bs k) 3 mk (fun i => if i < (ts.getD k []).length then .int .i64 (offT q ts k + i) else Fk i)) ∨
      ((ts.getD k []).length = 0 ∧ w2 = w)) :
    OwnT w2 lo hi g m ts.length (mkT q ts (k + 1)) ∧ Within lo hi w w2 := by
  have hk0 := he k hk
  rw [mkT_getD q ts k k hk, if_neg (by omega)] at hk0
  have hwithin : Within lo hi w w2 := by
    rcases hw with ⟨hp, hwi, _⟩ | ⟨_, rfl⟩
    · obtain ⟨a, b⟩ := hk0.rng hp
      exact hwi.mono a (by omega)
    · exact Within.refl _ _ _
  have hne : ∀ j, j < ts.length → 0 < (ts.getD j []).length → bs j ≠ g := fun j hj hp e => by
    obtain ⟨A, c, _, _, _, hx⟩ := he j hj
    obtain ⟨_, _, _, mm, FF, _, hrow, _⟩ := hx (by rw [mkT_len q ts k j hj]; exact hp)
    obtain ⟨c1, hc1, _⟩ := hrow
    obtain ⟨c2, hc2, _⟩ := hr
    rw [e] at hc1
    rw [hc1] at hc2
    injection hc2 with hc2
    injection hc2 with _ ht
    exact absurd ht (by decide)
  have hg2 : w2.rowIs g 22 m F := by
    rcases hw with ⟨hp, hwi, _⟩ | ⟨_, rfl⟩
    · have hn := hne k hk hp
      exact World.rowIs.of_block hr (hwi.block g (by omega))
    · exact hr
  refine ⟨⟨h1, h2, F, bs, hg2, fun j hj => ?_, fun i j hij hj hi0 hj0 => ?_⟩, hwithin⟩
  · by_cases e : j = k
    · subst e
      rw [mkT_getD q ts (j + 1) j hj, if_pos (by omega)]
      obtain ⟨A, c, hv, hc, hcm, hx⟩ := hk0
      refine ⟨A, c, by rw [hv, marks_length], by rw [marks_length]; exact hc, hcm, fun hp => ?_⟩
      rw [marks_length] at hp
      rcases hw with ⟨_, hwi, mk, Fk, hmk, hrk⟩ | ⟨h0, _⟩
      · obtain ⟨a1, a2, a3, _⟩ := hx hp
        refine ⟨a1, a2, a3, mk, _, by rw [marks_length]; exact hmk, hrk, fun i hi => ?_⟩
        rw [marks_length] at hi
        rw [marks_getD _ _ _ hi, if_pos hi]
      · omega
    · rw [mkT_getD q ts (k + 1) j hj]
      have hj1 := he j hj
      rw [mkT_getD q ts k j hj] at hj1
      have e2 : (if j < k + 1 then marks (offT q ts j) (ts.getD j []).length else ts.getD j []) = (if j < k then marks (offT q ts j) (ts.getD j []).length else ts.getD j []) := by
        by_cases h : j < k
        · rw [if_pos h, if_pos (by omega)]
        · rw [if_neg h, if_neg (by omega)]
      rw [e2]
      refine hj1.keep_len fun hp _ _ => ?_
      have hp2 : 0 < (ts.getD j []).length := by
        have := mkT_len q ts k j hj
        rw [mkT_getD q ts k j hj] at this
        omega
      rcases hw with ⟨hpk, hwi, _⟩ | ⟨_, rfl⟩
      · have hjk : bs j ≠ bs k := by
          rcases Nat.lt_or_gt_of_ne e with h | h
          · exact hd j k h hk (by rw [mkT_len q ts k j hj]; exact hp2) (by rw [mkT_len q ts k k hk]; exact hpk)
          · exact fun x => hd k j h hj (by rw [mkT_len q ts k k hk]; exact hpk) (by rw [mkT_len q ts k j hj]; exact hp2) x.symm
        exact hwi.block (bs j) (by omega)
      · rfl
  · rw [mkT_len q ts (k + 1) i (by omega)] at hi0
    rw [mkT_len q ts (k + 1) j hj] at hj0
    exact hd i j hij hj (by rw [mkT_len q ts k i (by omega)]; exact hi0) (by rw [mkT_len q ts k j hj]; exact hj0)

end Go.Proofs.YtnmhppiccganoaaDoor

namespace Go.Proofs.YtnmhppiccganoaaDoor
open Go.ChangeShapes Go.WideShapes Go.ChangeAt Go.RowKit Go.Sort
open Go.Deep (BT)
set_option linter.unusedVariables false
set_option linter.unusedSimpArgs false

/-- The numbers of a tree in their order. -/
def tl : BT Int → List Int
  | .nil => []
  | .node _ _ x l r => tl l ++ x :: tl r
/-- The blocks of its nodes. -/
def tb : BT Int → List Nat
  | .nil => []
  | .node a _ _ l r => a :: (tb l ++ tb r)
theorem ptr_form (t : BT Int) : ∃ p, t.ptr = .pointer p := by cases t <;> exact ⟨_, rfl⟩

/-- The numbers behind an addition. -/
def putT : BT Int → Int → List Int
  | .nil, x => [x]
  | .node _ _ y l r, x => if x < y then putT l x ++ y :: tl r else if y < x then tl l ++ y :: putT r x else tl l ++ y :: tl r

theorem nodup_node {a o : Nat} {x : Int} {l r : BT Int} (h : (tb (.node a o x l r)).Nodup) : a ∉ tb l ∧ a ∉ tb r ∧ (tb l).Nodup ∧ (tb r).Nodup ∧ ∀ b, b ∈ tb l → b ∉ tb r := by
  simp only [tb, List.nodup_cons, List.mem_append, List.nodup_append, not_or] at h
  obtain ⟨⟨h1, h2⟩, h3, h4, h5⟩ := h
  exact ⟨h1, h2, h3, h4, fun b hb hb' => h5 b hb b hb' rfl⟩
theorem node_nodup {a o : Nat} {x : Int} {l r : BT Int} (h1 : a ∉ tb l) (h2 : a ∉ tb r) (h3 : (tb l).Nodup) (h4 : (tb r).Nodup) (h5 : ∀ b, b ∈ tb l → b ∉ tb r) : (tb (.node a o x l r)).Nodup := by
  simp only [tb, List.nodup_cons, List.mem_append, List.nodup_append, not_or]
  exact ⟨⟨h1, h2⟩, h3, h4, fun b hb b' hb' e => h5 b hb (e ▸ hb')⟩

end Go.Proofs.YtnmhppiccganoaaDoor

namespace Go.Proofs.YtnmhppiccganoaaDoor
open Go.ChangeShapes Go.WideShapes Go.ChangeAt Go.RowKit Go.Sort
open Go.Deep (BT)
set_option linter.unusedVariables false
set_option linter.unusedSimpArgs false

theorem ownsRow_lo {w : World} {base base' : Nat} {e : TypeId} {size : Nat} {v : Value} {n : Nat} {cs : List Value} (h : w.ownsRow base e size v n cs) (hb : base' ≤ base) : w.ownsRow base' e size v n cs := by
  refine ⟨h.1, ?_⟩
  rcases h.2 with h2 | ⟨g, cap, cur, hv, hg, hr⟩
  · exact .inl h2
  · exact .inr ⟨g, cap, cur, hv, Nat.le_trans hb hg, hr⟩

/-- append(v, y) of one element as one step of a region that draws. -/
theorem step_pushG {P : Program} {w : World} {ops : Array Oper} {o : Oper} {a : Act} {K : Act → World → Prop} {Q : Exit → Act → World → Prop} {E : Prop} (hgd : o.guard = none) (s x : Operand) (t e : TypeId)
    (ho : o.op = .call { callee := .builtin .append, args := #[s, x], argTypes := #[t, t] })
    (i : TypeInfo) (ht : P.underlying t = some (.slice e)) (hi : P.info? e = some i) (hz : i.zero = some (.int .i64 0)) (hz1 : i.size = 1) (hz2 : i.bytes = 8)
    (base n : Nat) (v : Value) (cs : List Value) (ad : Addr) (c : Nat) (y : Value) (hs : a.eval s = v) (hx : a.eval x = .slice (some ad) 1 c) (hy : y.oneCell' = true)
    (hown : w.ownsRow base e 1 v n cs) (hbase : base ≤ w.heap.size) (hn : n + 1 ≤ 1048580)
    (hc0 : w.cell? (ad.add 0) = some y)
    (h : ∀ v' w', w'.ownsRow base e 1 v' (n + 1) (cs ++ [y]) → w.grownBy w' v.ownBlock → K (a.put o.dst v') w') :
    if Region.wanted o (yielded ops a.tmps) = true then Oper.wp P o a w K Q else E := by
  have hw : Region.wanted o (yielded ops a.tmps) = true := by simp [Region.wanted, hgd]
  rw [if_pos hw]
  refine wp_append_own (P := P) _ s x t ho base e i _ 1 8 ht hi hz hz1 hz2 rfl (by omega) v n _ hs hown ad 1 c [y] hx rfl
    (fun j u hj => by
      rcases j with _ | j
      · simp at hj; subst hj; exact hc0
      · simp at hj) (by intro u hu; simp at hu; subst hu; exact hy)
    (by unfold maxLen; omega) (by omega) hbase ?_
  intro v' w' hown' hg _
  exact h v' w' hown' hg

def ListT (w : World) (xs : List Int) (e : Ending) (w' : World) : Prop := ∃ v, e = .returned v ∧ w'.ownsRow w.heap.size 3 1 v xs.length (xs.map (Value.int .i64)) ∧ Below w.heap.size w w'

end Go.Proofs.YtnmhppiccganoaaDoor
