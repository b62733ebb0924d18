/- Methods sized, copied and compared by the laws. Conditions: none beyond each theorem's own. -/
import Derived.Test.YtenondgjipmhnaaDoorMeth
import Derived.Test.YtenondgjipmhnaaDoorEqList
import Derived.Lib.QuietBelow
namespace Go.Proofs.YtenondgjipmhnaaDoor
open Go.ChangeShapes Go.WideShapes Go.ChangeAt Go.RowKit Go.Sort
set_option linter.unusedVariables false
set_option linter.unusedSimpArgs false

def sumM (l : ML) : Nat := (l.map fun f => f.2.1.length).sum
/-- How many inputs a list of methods holds, each method counted, too. -/
def szM (l : ML) : Int := (l.length : Int) + (sumM l : Int)
theorem szM_nonneg (l : ML) : 0 ≤ szM l := by unfold szM; omega
theorem szM_len {l : ML} (h : szM l ≤ 1048576) : l.length ≤ 1048576 := by unfold szM at h; omega
theorem sumM_take (l : ML) (k : Nat) (hk : k < l.length) : sumM (l.take (k + 1)) = sumM (l.take k) + (l.getD k noM).2.1.length := by
  unfold sumM
  rw [List.take_succ_eq_append_getElem hk, List.map_append, List.sum_append]
  simp [List.getD_eq_getElem?_getD, hk]
theorem sumM_le (l : ML) (k : Nat) : sumM (l.take k) ≤ sumM l := by
  have : sumM l = sumM (l.take k) + sumM (l.drop k) := by
    unfold sumM
    rw [← List.sum_append, ← List.map_append, List.take_append_drop]
  omega
theorem szM_elem {l : ML} (h : szM l ≤ 1048576) {k : Nat} (hk : k < l.length) : (l.getD k noM).2.1.length ≤ 1048576 := by
  have h1 := sumM_take l k hk
  have h2 := sumM_le l (k + 1)
  unfold szM at h
  omega

set_option maxRecDepth 100000 in
theorem szMethod_any (f : Met) (A : Option Addr) (c : Nat) (left : Int) (hl : f.2.1.length ≤ 9223372036854775807) (h0 : 0 ≤ left) (h1 : left ≤ 1048576) (w : World) :
    Calls Tryd.prog 5 #[.agg #[.int .i64 f.1, .slice A f.2.1.length c, .int .i64 f.2.2.1, .int .i64 f.2.2.2.1, .int .i64 f.2.2.2.2], .int .i64 left] w fun e w' => e = .returned (.int .i64 (if left - f.2.1.length < 0 then -1 else left - f.2.1.length)) ∧ Below w.heap.size w w' := by
  obtain ⟨r, xs, li, co, qu⟩ := f
  simp only at hl ⊢
  by_cases h : left - (xs.length : Int) < 0
  · go_enter Tryd.func5, Tryd.ntmps5
    go_wp2_with fail
    refine (szIntS_any A c xs.length left hl h0 h1 _).mono ?_
    rintro e w1 ⟨rfl, rfl⟩
    rw [if_pos h]
    go_wp2
    go_ret
    exact ⟨rfl, (Below.refl _ _).alloc (Nat.le_refl _) _⟩
  · go_enter Tryd.func5, Tryd.ntmps5
    go_wp2_with fail
    refine (szIntS_any A c xs.length left hl h0 h1 _).mono ?_
    rintro e w1 ⟨rfl, rfl⟩
    have h' : (xs.length : Int) ≤ left := by omega
    rw [if_neg (by omega)]
    go_wp2
    go_ret
    exact ⟨rfl, (Below.refl _ _).alloc (Nat.le_refl _) _⟩

set_option maxHeartbeats 1000000 in
set_option maxRecDepth 100000 in
theorem toMethod_r (r : Int) (xs : List Int) (li co qu : Int) (A : Option Addr) (c : Nat) (hl : xs.length ≤ 1048576) (w : World) (h : RI w A xs) :
    Calls Tryd.prog 7 #[.agg #[.int .i64 r, .slice A xs.length c, .int .i64 li, .int .i64 co, .int .i64 qu]] w fun e w' => e = .returned (.agg #[.int .i64 r, .slice (some ⟨w.heap.size + 3, 0, none⟩) xs.length xs.length, .int .i64 li, .int .i64 co, .int .i64 qu]) ∧
      Row w' (w.heap.size + 3) xs ∧ Below w.heap.size w w' ∧ w'.heap.size = w.heap.size + 4 := by
  have HI := Lib.hid h
  clear h
  go_enter Tryd.func7, Tryd.ntmps7
  go_wp2_with fail
  refine (toIntS_any 0 w.heap.size A c xs hl _ (by simp [World.setCell]; omega) (Ints.below HI.out (((((Below.refl _ _).alloc (Nat.le_refl _) _).alloc (by simp) _).alloc (by simp; omega) _)) (Nat.le_refl _))).mono ?_
  rintro e w1 ⟨rfl, hr, hb, hz⟩
  obtain ⟨hc, hf⟩ := bcell hb
  have hs : (w.heap.size + 1 + 1 + 1 + 1 = w1.heap.size) := by rw [hz]; simp
  have HR := Lib.hid hr
  have HB := Lib.hid hb
  have HS := Lib.hid hs
  have HZ : w.heap.size + 2 < w1.heap.size := by omega
  clear hr hb hz hs
  go_wp2
  refine bodyPost_ret (v := .agg #[.int .i64 r, .slice (some ⟨w.heap.size + 3, 0, none⟩) xs.length xs.length, .int .i64 li, .int .i64 co, .int .i64 qu]) (by simp [results, Tryd.results7, go_sem, hc, HZ]) rfl ⟨rfl, ?_, ?_, ?_⟩
  · have := HR.out
    simp at this
    repeat (refine Row.set_other ?_ (by simp <;> omega))
    exact this
  · have B := HB.out
    have B' : Below w.heap.size w w1 := by
      refine (((((Below.refl _ _).alloc (Nat.le_refl _) _).alloc (by simp) _).alloc (by simp; omega) _)).trans (B.mono ?_)
      simp
      omega
    repeat (refine Below.setCell ?_ (by (try simp) <;> omega) _)
    exact B'
  · rw [HS.out]
    simp [World.setCell]

set_option maxHeartbeats 1000000 in
set_option maxRecDepth 100000 in
theorem eqMethod_r (r : Int) (xs : List Int) (li co qu : Int) (A A' : Option Addr) (c c' : Nat) (hl : xs.length ≤ 1048576) (w : World) (h : RI w A xs) (h' : RI w A' xs) :
    Calls Tryd.prog 9 #[.agg #[.int .i64 r, .slice A xs.length c, .int .i64 li, .int .i64 co, .int .i64 qu], .agg #[.int .i64 r, .slice A' xs.length c', .int .i64 li, .int .i64 co, .int .i64 qu]] w fun e w' => e = .returned (.bool true) ∧ Below w.heap.size w w' := by
  have hb := step (below_alloc w (.cells #[.int .i64 r, .slice A xs.length c, .int .i64 li, .int .i64 co, .int .i64 qu] 27)) (below_alloc _ (.cells #[.int .i64 r, .slice A' xs.length c', .int .i64 li, .int .i64 co, .int .i64 qu] 27))
  have HB := Lib.hid hb
  have XA := (Box.new w #[.int .i64 r, .slice A xs.length c, .int .i64 li, .int .i64 co, .int .i64 qu] 27).step (below_alloc _ (.cells #[.int .i64 r, .slice A' xs.length c', .int .i64 li, .int .i64 co, .int .i64 qu] 27))
  have XB := Box.new (w.alloc (.cells #[.int .i64 r, .slice A xs.length c, .int .i64 li, .int .i64 co, .int .i64 qu] 27)) #[.int .i64 r, .slice A' xs.length c', .int .i64 li, .int .i64 co, .int .i64 qu] 27
  rw [al_size] at XB
  have HA := Lib.hid XA
  have HC := Lib.hid XB
  have XE := Lib.hid (eqIntS_r A A' c c' xs hl _ (h.step hb) (h'.step hb))
  clear h h' hb XA XB
  go_enter Tryd.func9, Tryd.ntmps9
  go_wp2_with fail
  refine XE.out.mono ?_
  rintro e u ⟨rfl, d⟩
  have a2 := (HA.out.step d).cell 2
  have a3 := (HA.out.step d).cell 3
  have a4 := (HA.out.step d).cell 4
  have b2 := (HC.out.step d).cell 2
  have b3 := (HC.out.step d).cell 3
  have b4 := (HC.out.step d).cell 4
  simp only [List.getElem?_toArray, List.getElem?_cons_zero, List.getElem?_cons_succ] at a2 a3 a4 b2 b3 b4
  have D := Lib.hid (step HB.out d)
  clear d
  go_wp2
  go_ret
  exact ⟨rfl, by first | exact D.out | exact D.out.drew⟩

set_option maxRecDepth 100000 in
theorem method_info : (Tryd.prog.info? 27).map (fun i => (i.zero, i.size, i.bytes)) = some (some (.agg #[.int .i64 0, .slice none 0 0, .int .i64 0, .int .i64 0, .int .i64 0]), 5, 56) := by kernel_rfl

/-- Block g begins with the first k of the methods ms, their inputs each in a block of its own, all from lo to below hi. -/
def OwnM (w : World) (lo hi g m k : Nat) (ms : ML) : Prop :=
  lo ≤ g ∧ g < hi ∧ ∃ (F : Nat → Value) (bs : Nat → Nat), w.rowIs g 27 m F ∧ (∀ j, j < k → F (j * 5) = .int .i64 (ms.getD j noM).1 ∧ OwnV w lo hi (F (j * 5 + 1)) (bs j) (ms.getD j noM).2.1 ∧
      F (j * 5 + 2) = .int .i64 (ms.getD j noM).2.2.1 ∧ F (j * 5 + 3) = .int .i64 (ms.getD j noM).2.2.2.1 ∧ F (j * 5 + 4) = .int .i64 (ms.getD j noM).2.2.2.2) ∧
    (∀ i j, i < j → j < k → 0 < (ms.getD i noM).2.1.length → 0 < (ms.getD j noM).2.1.length → bs i ≠ bs j)
theorem OwnM.meths {w : World} {lo hi g m : Nat} {ms : ML} (h : OwnM w lo hi g m ms.length ms) (hm : ms.length * 5 ≤ m) : Meths w lo hi (some ⟨g, 0, none⟩) ms := fun _ => by
  obtain ⟨h1, h2, F, bs, hr, he, _⟩ := h
  refine ⟨g, 0, rfl, h1, h2, fun k hk => ?_⟩
  obtain ⟨e0, e1, e2, e3, e4⟩ := he k hk
  obtain ⟨A, c, hv, _⟩ := id e1
  rw [hv] at e1
  obtain ⟨_, hc, hcm, hi⟩ := e1.ints
  refine ⟨A, c, ?_, ?_, ?_, ?_, ?_, hc, hcm, hi⟩
  · rw [Nat.zero_add, World.rowIs.cell hr (show k * 5 < m by omega), e0]
  · rw [Nat.zero_add, World.rowIs.cell hr (show k * 5 + 1 < m by omega), hv]
  · rw [Nat.zero_add, World.rowIs.cell hr (show k * 5 + 2 < m by omega), e2]
  · rw [Nat.zero_add, World.rowIs.cell hr (show k * 5 + 3 < m by omega), e3]
  · rw [Nat.zero_add, World.rowIs.cell hr (show k * 5 + 4 < m by omega), e4]
theorem OwnM.rm {w : World} {lo g m : Nat} {ms : ML} (h : OwnM w lo w.heap.size g m ms.length ms) (hm : ms.length * 5 ≤ m) : RM w (some ⟨g, 0, none⟩) ms := (h.meths hm).mono (Nat.zero_le _) (Nat.le_refl _)

/-- The five stores of a method. -/
def set5 (u : World) (g k : Nat) (r : Int) (v : Value) (li co qu : Int) : World :=
  ((((u.setCell ⟨g, k * 5, none⟩ (.int .i64 r)).setCell ⟨g, k * 5 + 1, none⟩ v).setCell ⟨g, k * 5 + 2, none⟩ (.int .i64 li)).setCell ⟨g, k * 5 + 3, none⟩ (.int .i64 co)).setCell ⟨g, k * 5 + 4, none⟩ (.int .i64 qu)
theorem set5_size (u : World) (g k : Nat) (r : Int) (v : Value) (li co qu : Int) : (set5 u g k r v li co qu).heap.size = u.heap.size := by simp [set5, World.setCell]
theorem set5_far (u : World) (g k : Nat) (r : Int) (v : Value) (li co qu : Int) (b : Nat) (hb : b ≠ g) : (set5 u g k r v li co qu).heap[b]? = u.heap[b]? := by
  unfold set5
  rw [Below.heap_setCell _ ⟨g, k * 5 + 4, none⟩ _ b hb, Below.heap_setCell _ ⟨g, k * 5 + 3, none⟩ _ b hb, Below.heap_setCell _ ⟨g, k * 5 + 2, none⟩ _ b hb, Below.heap_setCell _ ⟨g, k * 5 + 1, none⟩ _ b hb, Below.heap_setCell _ ⟨g, k * 5, none⟩ _ b hb]
theorem set5_below {B : Nat} {w u : World} (h : Below B w u) (g k : Nat) (hg : B ≤ g) (r : Int) (v : Value) (li co qu : Int) : Below B w (set5 u g k r v li co qu) :=
  ((((h.setCell hg _).setCell hg _).setCell hg _).setCell hg _).setCell hg _

/-- One method more is stored. -/
theorem ownM_step {wr u : World} {lo g m k : Nat} {ms : ML} (h : OwnM wr lo wr.heap.size g m k ms) (hkm : k * 5 + 4 < m) {r li co qu : Int} {xs : List Int} (hf : ms.getD k noM = (r, xs, li, co, qu)) (hb : Below wr.heap.size wr u)
    {v : Value} {q : Nat} (hv : OwnV u lo u.heap.size v q xs) (hq : 0 < xs.length → wr.heap.size ≤ q) :
    OwnM (set5 u g k r v li co qu) lo (set5 u g k r v li co qu).heap.size g m (k + 1) ms := by
  rw [set5_size]
  obtain ⟨h1, h2, F, bs, hr, he, hd⟩ := h
  have hs := hb.size
  have hr2 : u.rowIs g 27 m F := World.rowIs.of_block hr (hb.block g h2)
  have ne : ∀ b, (∃ c, u.heap[b]? = some (.cells c 3 (0, 0))) → b ≠ g := by
    rintro b ⟨c, hc⟩ rfl
    obtain ⟨c2, hc2, _⟩ := hr2
    rw [hc] at hc2
    injection hc2 with hc2
    injection hc2 with _ ht
    exact absurd ht (by decide)
  have hlt : ∀ j, j < k → 0 < (ms.getD j noM).2.1.length → bs j < wr.heap.size := fun j hj hp => by
    obtain ⟨_, ⟨A, c, _, _, _, hx⟩, _⟩ := he j hj
    exact (hx hp).2.2.1
  have hset := ((((hr2.set (k * 5) (.int .i64 r)).set (k * 5 + 1) v).set (k * 5 + 2) (.int .i64 li)).set (k * 5 + 3) (.int .i64 co)).set (k * 5 + 4) (.int .i64 qu)
  refine ⟨h1, by omega, _, fun j => if j = k then q else bs j, hset, fun j hj => ?_, fun i j hij hj hi0 hj0 => ?_⟩
  · by_cases e : j = k
    · subst e
      have hv2 : OwnV (set5 u g j r v li co qu) lo u.heap.size v q xs := hv.keep fun _ _ hc => set5_far u g j r v li co qu _ (ne _ hc)
      rw [hf]
      refine ⟨?_, ?_, ?_, ?_, ?_⟩
      · simp [show ¬ (j * 5 = j * 5 + 1) by omega, show ¬ (j * 5 = j * 5 + 2) by omega, show ¬ (j * 5 = j * 5 + 3) by omega, show ¬ (j * 5 = j * 5 + 4) by omega]
      · simpa using hv2
      · simp
      · simp
      · simp
    · obtain ⟨e0, e1, e2, e3, e4⟩ := he j (by omega)
      have e1' : OwnV u lo wr.heap.size (F (j * 5 + 1)) (bs j) (ms.getD j noM).2.1 := e1.keep fun _ a _ => hb.block _ a
      have e1'' : OwnV (set5 u g k r v li co qu) lo u.heap.size (F (j * 5 + 1)) (bs j) (ms.getD j noM).2.1 := (e1'.mono (Nat.le_refl _) hs).keep fun _ _ hc => set5_far u g k r v li co qu _ (ne _ hc)
      have far : ∀ a, a < 5 → ∀ b, b < 5 → ¬ (j * 5 + a = k * 5 + b) := fun a ha b hb => by omega
      have f0 : ∀ b, b < 5 → ¬ (j * 5 = k * 5 + b) := fun b hb => far 0 (by omega) b hb
      have g0 : ∀ a, a < 5 → ¬ (j * 5 + a = k * 5) := fun a ha => far a ha 0 (by omega)
      have z0 : ¬ (j * 5 = k * 5) := by omega
      refine ⟨?_, ?_, ?_, ?_, ?_⟩
      · simp only [z0, f0 1 (by omega), f0 2 (by omega), f0 3 (by omega), f0 4 (by omega), if_false]; exact e0
      · simp only [e, g0 1 (by omega), far 1 (by omega) 1 (by omega), far 1 (by omega) 2 (by omega), far 1 (by omega) 3 (by omega), far 1 (by omega) 4 (by omega), if_false]; exact e1''
      · simp only [g0 2 (by omega), far 2 (by omega) 1 (by omega), far 2 (by omega) 2 (by omega), far 2 (by omega) 3 (by omega), far 2 (by omega) 4 (by omega), if_false]; exact e2
      · simp only [g0 3 (by omega), far 3 (by omega) 1 (by omega), far 3 (by omega) 2 (by omega), far 3 (by omega) 3 (by omega), far 3 (by omega) 4 (by omega), if_false]; exact e3
      · simp only [g0 4 (by omega), far 4 (by omega) 1 (by omega), far 4 (by omega) 2 (by omega), far 4 (by omega) 3 (by omega), far 4 (by omega) 4 (by omega), if_false]; exact e4
  · by_cases e : j = k
    · subst e
      have e' : i ≠ j := by omega
      simp only [if_pos, e', if_false]
      have := hlt i hij hi0
      rw [hf] at hj0
      have := hq hj0
      omega
    · have e' : i ≠ k := by omega
      simp only [e, e', if_false]
      exact hd i j hij (by omega) hi0 hj0

end Go.Proofs.YtenondgjipmhnaaDoor
