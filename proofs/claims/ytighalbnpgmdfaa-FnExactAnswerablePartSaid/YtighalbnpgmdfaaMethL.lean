/- Methods sized, copied and compared by the laws. Conditions: none beyond each theorem's own. -/
import Derived.Test.YtighalbnpgmdfaaMeth
import Derived.Test.YtighalbnpgmdfaaEqList
import Derived.Lib.QuietBelow
namespace Go.Proofs.Ytighalbnpgmdfaa
open Go.ChangeShapes Go.WideShapes Go.ChangeAt Go.RowKit Go.Sort
set_option linter.unusedVariables false
set_option linter.unusedSimpArgs false

def sumM (l : ML) : Nat := (l.map fun f => f.2.1.length).sum
/-- How many inputs a list of methods holds, each method counted, too. -/
def szM (l : ML) : Int := (l.length : Int) + (sumM l : Int)
theorem szM_nonneg (l : ML) : 0 ≤ szM l := by unfold szM; omega
theorem szM_len {l : ML} (h : szM l ≤ 1048576) : l.length ≤ 1048576 := by unfold szM at h; omega
theorem sumM_take (l : ML) (k : Nat) (hk : k < l.length) : sumM (l.take (k + 1)) = sumM (l.take k) + (l.getD k noM).2.1.length := by
  unfold sumM
  rw [List.take_succ_eq_append_getElem hk, List.map_append, List.sum_append]
  simp [List.getD_eq_getElem?_getD, hk]
theorem sumM_le (l : ML) (k : Nat) : sumM (l.take k) ≤ sumM l := by
  have : sumM l = sumM (l.take k) + sumM (l.drop k) := by
    unfold sumM
    rw [← List.sum_append, ← List.map_append, List.take_append_drop]
  omega
theorem szM_elem {l : ML} (h : szM l ≤ 1048576) {k : Nat} (hk : k < l.length) : (l.getD k noM).2.1.length ≤ 1048576 := by
  have h1 := sumM_take l k hk
  have h2 := sumM_le l (k + 1)
  unfold szM at h
  omega

set_option maxRecDepth 100000 in
theorem szMethod_any (f : Met) (A : Option Addr) (c : Nat) (left : Int) (hl : f.2.1.length ≤ 9223372036854775807) (h0 : 0 ≤ left) (h1 : left ≤ 1048576) (w : World) :
    Calls Try.prog 45 #[.agg #[.int .i64 f.1, .slice A f.2.1.length c, .int .i64 f.2.2.1, .int .i64 f.2.2.2.1, .int .i64 f.2.2.2.2], .int .i64 left] w fun e w' => e = .returned (.int .i64 (if left - f.2.1.length < 0 then -1 else left - f.2.1.length)) ∧ Below w.heap.size w w' := by
  obtain ⟨r, xs, li, co, qu⟩ := f
  simp only at hl ⊢
  by_cases h : left - (xs.length : Int) < 0
  · go_enter Try.func45, Try.ntmps45
    go_wp2_with fail
    refine (szIntS_any A c xs.length left hl h0 h1 _).mono ?_
    rintro e w1 ⟨rfl, rfl⟩
    rw [if_pos h]
    go_wp2
    go_ret
    exact ⟨rfl, (Below.refl _ _).alloc (Nat.le_refl _) _⟩
  · go_enter Try.func45, Try.ntmps45
    go_wp2_with fail
    refine (szIntS_any A c xs.length left hl h0 h1 _).mono ?_
    rintro e w1 ⟨rfl, rfl⟩
    have h' : (xs.length : Int) ≤ left := by omega
    rw [if_neg (by omega)]
    go_wp2
    go_ret
    exact ⟨rfl, (Below.refl _ _).alloc (Nat.le_refl _) _⟩

set_option maxHeartbeats 1000000 in
set_option maxRecDepth 100000 in
theorem toMethod_r (r : Int) (xs : List Int) (li co qu : Int) (A : Option Addr) (c : Nat) (hl : xs.length ≤ 1048576) (w : World) (h : RI w A xs) :
    Calls Try.prog 53 #[.agg #[.int .i64 r, .slice A xs.length c, .int .i64 li, .int .i64 co, .int .i64 qu]] w fun e w' => e = .returned (.agg #[.int .i64 r, .slice (some ⟨w.heap.size + 3, 0, none⟩) xs.length xs.length, .int .i64 li, .int .i64 co, .int .i64 qu]) ∧
      Row w' (w.heap.size + 3) xs ∧ Below w.heap.size w w' ∧ w'.heap.size = w.heap.size + 4 := by
  have HI := Lib.hid h
  clear h
  go_enter Try.func53, Try.ntmps53
  go_wp2_with fail
  refine (toIntS_any 0 w.heap.size A c xs hl _ (by simp [World.setCell]; omega) (Ints.below HI.out (((((Below.refl _ _).alloc (Nat.le_refl _) _).alloc (by simp) _).alloc (by simp; omega) _)) (Nat.le_refl _))).mono ?_
  rintro e w1 ⟨rfl, hr, hb, hz⟩
  obtain ⟨hc, hf⟩ := bcell hb
  have hs : (w.heap.size + 1 + 1 + 1 + 1 = w1.heap.size) := by rw [hz]; simp
  have HR := Lib.hid hr
  have HB := Lib.hid hb
  have HS := Lib.hid hs
  have HZ : w.heap.size + 2 < w1.heap.size := by omega
  clear hr hb hz hs
  go_wp2
  refine bodyPost_ret (v := .agg #[.int .i64 r, .slice (some ⟨w.heap.size + 3, 0, none⟩) xs.length xs.length, .int .i64 li, .int .i64 co, .int .i64 qu]) (by simp [results, Try.results53, go_sem, hc, HZ]) rfl ⟨rfl, ?_, ?_, ?_⟩
  · have := HR.out
    simp at this
    repeat (refine Row.set_other ?_ (by simp <;> omega))
    exact this
  · have B := HB.out
    have B' : Below w.heap.size w w1 := by
      refine (((((Below.refl _ _).alloc (Nat.le_refl _) _).alloc (by simp) _).alloc (by simp; omega) _)).trans (B.mono ?_)
      simp
      omega
    repeat (refine Below.setCell ?_ (by (try simp) <;> omega) _)
    exact B'
  · rw [HS.out]
    simp [World.setCell]

set_option maxHeartbeats 1000000 in
set_option maxRecDepth 100000 in
theorem eqMethod_r (r : Int) (xs : List Int) (li co qu : Int) (A A' : Option Addr) (c c' : Nat) (hl : xs.length ≤ 1048576) (w : World) (h : RI w A xs) (h' : RI w A' xs) :
    Calls Try.prog 60 #[.agg #[.int .i64 r, .slice A xs.length c, .int .i64 li, .int .i64 co, .int .i64 qu], .agg #[.int .i64 r, .slice A' xs.length c', .int .i64 li, .int .i64 co, .int .i64 qu]] w fun e w' => e = .returned (.bool true) ∧ Below w.heap.size w w' := by
  have hb := step (below_alloc w (.cells #[.int .i64 r, .slice A xs.length c, .int .i64 li, .int .i64 co, .int .i64 qu] 71)) (below_alloc _ (.cells #[.int .i64 r, .slice A' xs.length c', .int .i64 li, .int .i64 co, .int .i64 qu] 71))
  have HB := Lib.hid hb
  have XA := (Box.new w #[.int .i64 r, .slice A xs.length c, .int .i64 li, .int .i64 co, .int .i64 qu] 71).step (below_alloc _ (.cells #[.int .i64 r, .slice A' xs.length c', .int .i64 li, .int .i64 co, .int .i64 qu] 71))
  have XB := Box.new (w.alloc (.cells #[.int .i64 r, .slice A xs.length c, .int .i64 li, .int .i64 co, .int .i64 qu] 71)) #[.int .i64 r, .slice A' xs.length c', .int .i64 li, .int .i64 co, .int .i64 qu] 71
  rw [al_size] at XB
  have HA := Lib.hid XA
  have HC := Lib.hid XB
  have XE := Lib.hid (eqIntS_r A A' c c' xs hl _ (h.step hb) (h'.step hb))
  clear h h' hb XA XB
  go_enter Try.func60, Try.ntmps60
  go_wp2_with fail
  refine XE.out.mono ?_
  rintro e u ⟨rfl, d⟩
  have a2 := (HA.out.step d).cell 2
  have a3 := (HA.out.step d).cell 3
  have a4 := (HA.out.step d).cell 4
  have b2 := (HC.out.step d).cell 2
  have b3 := (HC.out.step d).cell 3
  have b4 := (HC.out.step d).cell 4
  simp only [List.getElem?_toArray, List.getElem?_cons_zero, List.getElem?_cons_succ] at a2 a3 a4 b2 b3 b4
  have D := Lib.hid (step HB.out d)
  clear d
  go_wp2
  go_ret
  exact ⟨rfl, by first | exact D.out | exact D.out.drew⟩

set_option maxHeartbeats 400000 in
set_option maxRecDepth 100000 in
theorem szMethodS_w (A : Option Addr) (c : Nat) (l : ML) (left : Int) (hc : l.length ≤ 9223372036854775807) (h0 : 0 ≤ left) (h1 : left ≤ 1048576) (w : World) (h : RM w A l) :
    Calls Try.prog 11 #[.slice A l.length c, .int .i64 left] w fun e w' => e = .returned (.int .i64 (szR left (szM l))) ∧ Below w.heap.size w w' := by
  have hc' : (l.length : Int) ≤ 9223372036854775807 := by omega
  have HI := Lib.hid h
  clear h
  by_cases hb : left - (l.length : Int) < 0
  · have HE : left - szM l < 0 := by unfold szM; omega
    rw [szR_neg HE]
    clear HE
    go_enter Try.func11, Try.ntmps11
    go_wp2
    go_ret
    exact ⟨rfl, Below.refl _ _⟩
  · have hb' : (l.length : Int) ≤ left := by omega
    go_enter Try.func11, Try.ntmps11
    go_wp2
    go_loopw [1, 5] (fun z i wr => ∃ k : Nat, k ≤ l.length ∧ i = .int .i64 k ∧ z = .int .i64 (left - l.length - (sumM (l.take k) : Int)) ∧ (sumM (l.take k) : Int) ≤ left - l.length ∧ Below w.heap.size w wr) (fun _ i _ => l.length - (intOf i).toNat)
    case atStart => exact ⟨0, by omega, rfl, by simp [sumM], by simp [sumM]; omega, Below.refl _ _⟩
    case round =>
      obtain ⟨k, hk, rfl, rfl, hs, hB⟩ := hrel
      by_cases hlt : k < l.length
      · generalize hf : l.getD k noM = f
        obtain ⟨r, xs, li, co, qu⟩ := f
        have S := Lib.hid (show sumM (l.take (k + 1)) = sumM (l.take k) + xs.length by rw [sumM_take _ _ hlt, hf])
        have SL := Lib.hid (sumM_le l (k + 1))
        obtain ⟨b, off, B, c2, rfl, _, e0, e1, e2, e3, e4, hxc, hcm, hI⟩ := (HI.out.step hB).at_ hlt hf
        unfold maxLen at hcm
        have HX := Lib.hid hI
        clear hI hf
        have hk0 : (0 : Int) ≤ (k : Int) := by omega
        go_wp2_with fail
        refine (szMethod_any (r, xs, li, co, qu) B c2 (left - l.length - (sumM (l.take k) : Int)) (by simp; omega) (by omega) (by omega) _).mono ?_
        rintro e u ⟨he, d⟩
        simp only at he
        have hB2 := hB.trans (d.mono hB.size)
        clear d
        by_cases hn : left - (l.length : Int) - (sumM (l.take k) : Int) - (xs.length : Int) < 0
        · rw [if_pos hn] at he
          subst he
          go_wp2
          go_ret
          exact ⟨ret_int (szR_neg (by have := S.out; have := SL.out; unfold szM; omega)).symm, hB2⟩
        · rw [if_neg hn] at he
          subst he
          have hn' : 0 ≤ left - (l.length : Int) - (sumM (l.take k) : Int) - (xs.length : Int) := by omega
          go_wp2
          go_roundw
          case rel => exact ⟨k + 1, by omega, by go_num, by rw [S.out]; congr 1; omega, by rw [S.out]; omega, hB2⟩
          case measure => simp [intOf]; omega
      · obtain rfl : k = l.length := by omega
        go_wp2
        go_ret
        exact ⟨ret_int (by rw [take_all] at hs ⊢; rw [szR_pos (by unfold szM; omega)]; unfold szM; omega), hB⟩
theorem szMethodS_any (A : Option Addr) (c : Nat) (l : ML) (left : Int) (hc : l.length ≤ 9223372036854775807) (h0 : 0 ≤ left) (h1 : left ≤ 1048576) (w : World) (h : RM w A l) :
    Calls Try.prog 11 #[.slice A l.length c, .int .i64 left] w fun e w' => e = .returned (.int .i64 (if left - szM l < 0 then -1 else left - szM l)) ∧ Below w.heap.size w w' :=
  szMethodS_w A c l left hc h0 h1 w h

set_option maxRecDepth 100000 in
theorem method_info : (Try.prog.info? 71).map (fun i => (i.zero, i.size, i.bytes)) = some (some (.agg #[.int .i64 0, .slice none 0 0, .int .i64 0, .int .i64 0, .int .i64 0]), 5, 56) := by kernel_rfl

/-- Block g begins with the first k of the methods ms, their inputs each in a block of its own, all from lo to below hi. -/
def OwnM (w : World) (lo hi g m k : Nat) (ms : ML) : Prop :=
  lo ≤ g ∧ g < hi ∧ ∃ (F : Nat → Value) (bs : Nat → Nat), w.rowIs g 71 m F ∧ (∀ j, j < k → F (j * 5) = .int .i64 (ms.getD j noM).1 ∧ OwnV w lo hi (F (j * 5 + 1)) (bs j) (ms.getD j noM).2.1 ∧
      F (j * 5 + 2) = .int .i64 (ms.getD j noM).2.2.1 ∧ F (j * 5 + 3) = .int .i64 (ms.getD j noM).2.2.2.1 ∧ F (j * 5 + 4) = .int .i64 (ms.getD j noM).2.2.2.2) ∧
    (∀ i j, i < j → j < k → 0 < (ms.getD i noM).2.1.length → 0 < (ms.getD j noM).2.1.length → bs i ≠ bs j)
theorem OwnM.meths {w : World} {lo hi g m : Nat} {ms : ML} (h : OwnM w lo hi g m ms.length ms) (hm : ms.length * 5 ≤ m) : Meths w lo hi (some ⟨g, 0, none⟩) ms := fun _ => by
  obtain ⟨h1, h2, F, bs, hr, he, _⟩ := h
  refine ⟨g, 0, rfl, h1, h2, fun k hk => ?_⟩
  obtain ⟨e0, e1, e2, e3, e4⟩ := he k hk
  obtain ⟨A, c, hv, _⟩ := id e1
  rw [hv] at e1
  obtain ⟨_, hc, hcm, hi⟩ := e1.ints
  refine ⟨A, c, ?_, ?_, ?_, ?_, ?_, hc, hcm, hi⟩
  · rw [Nat.zero_add, World.rowIs.cell hr (show k * 5 < m by omega), e0]
  · rw [Nat.zero_add, World.rowIs.cell hr (show k * 5 + 1 < m by omega), hv]
  · rw [Nat.zero_add, World.rowIs.cell hr (show k * 5 + 2 < m by omega), e2]
  · rw [Nat.zero_add, World.rowIs.cell hr (show k * 5 + 3 < m by omega), e3]
  · rw [Nat.zero_add, World.rowIs.cell hr (show k * 5 + 4 < m by omega), e4]
theorem OwnM.rm {w : World} {lo g m : Nat} {ms : ML} (h : OwnM w lo w.heap.size g m ms.length ms) (hm : ms.length * 5 ≤ m) : RM w (some ⟨g, 0, none⟩) ms := (h.meths hm).mono (Nat.zero_le _) (Nat.le_refl _)

/-- The five stores of a method. -/
def set5 (u : World) (g k : Nat) (r : Int) (v : Value) (li co qu : Int) : World :=
  ((((u.setCell ⟨g, k * 5, none⟩ (.int .i64 r)).setCell ⟨g, k * 5 + 1, none⟩ v).setCell ⟨g, k * 5 + 2, none⟩ (.int .i64 li)).setCell ⟨g, k * 5 + 3, none⟩ (.int .i64 co)).setCell ⟨g, k * 5 + 4, none⟩ (.int .i64 qu)
theorem set5_size (u : World) (g k : Nat) (r : Int) (v : Value) (li co qu : Int) : (set5 u g k r v li co qu).heap.size = u.heap.size := by simp [set5, World.setCell]
theorem set5_far (u : World) (g k : Nat) (r : Int) (v : Value) (li co qu : Int) (b : Nat) (hb : b ≠ g) : (set5 u g k r v li co qu).heap[b]? = u.heap[b]? := by
  unfold set5
  rw [Below.heap_setCell _ ⟨g, k * 5 + 4, none⟩ _ b hb, Below.heap_setCell _ ⟨g, k * 5 + 3, none⟩ _ b hb, Below.heap_setCell _ ⟨g, k * 5 + 2, none⟩ _ b hb, Below.heap_setCell _ ⟨g, k * 5 + 1, none⟩ _ b hb, Below.heap_setCell _ ⟨g, k * 5, none⟩ _ b hb]
theorem set5_below {B : Nat} {w u : World} (h : Below B w u) (g k : Nat) (hg : B ≤ g) (r : Int) (v : Value) (li co qu : Int) : Below B w (set5 u g k r v li co qu) :=
  ((((h.setCell hg _).setCell hg _).setCell hg _).setCell hg _).setCell hg _

/-- One method more is stored. -/
theorem ownM_step {wr u : World} {lo g m k : Nat} {ms : ML} (h : OwnM wr lo wr.heap.size g m k ms) (hkm : k * 5 + 4 < m) {r li co qu : Int} {xs : List Int} (hf : ms.getD k noM = (r, xs, li, co, qu)) (hb : Below wr.heap.size wr u)
    {v : Value} {q : Nat} (hv : OwnV u lo u.heap.size v q xs) (hq : 0 < xs.length → wr.heap.size ≤ q) :
    OwnM (set5 u g k r v li co qu) lo (set5 u g k r v li co qu).heap.size g m (k + 1) ms := by
  rw [set5_size]
  obtain ⟨h1, h2, F, bs, hr, he, hd⟩ := h
  have hs := hb.size
  have hr2 : u.rowIs g 71 m F := World.rowIs.of_block hr (hb.block g h2)
  have ne : ∀ b, (∃ c, u.heap[b]? = some (.cells c 3 (0, 0))) → b ≠ g := by
    rintro b ⟨c, hc⟩ rfl
    obtain ⟨c2, hc2, _⟩ := hr2
    rw [hc] at hc2
    injection hc2 with hc2
    injection hc2 with _ ht
    exact absurd ht (by decide)
  have hlt : ∀ j, j < k → 0 < (ms.getD j noM).2.1.length → bs j < wr.heap.size := fun j hj hp => by
    obtain ⟨_, ⟨A, c, _, _, _, hx⟩, _⟩ := he j hj
    exact (hx hp).2.2.1
  have hset := ((((hr2.set (k * 5) (.int .i64 r)).set (k * 5 + 1) v).set (k * 5 + 2) (.int .i64 li)).set (k * 5 + 3) (.int .i64 co)).set (k * 5 + 4) (.int .i64 qu)
  refine ⟨h1, by omega, _, fun j => if j = k then q else bs j, hset, fun j hj => ?_, fun i j hij hj hi0 hj0 => ?_⟩
  · by_cases e : j = k
    · subst e
      have hv2 : OwnV (set5 u g j r v li co qu) lo u.heap.size v q xs := hv.keep fun _ _ hc => set5_far u g j r v li co qu _ (ne _ hc)
      rw [hf]
      refine ⟨?_, ?_, ?_, ?_, ?_⟩
      · simp [show ¬ (j * 5 = j * 5 + 1) by omega, show ¬ (j * 5 = j * 5 + 2) by omega, show ¬ (j * 5 = j * 5 + 3) by omega, show ¬ (j * 5 = j * 5 + 4) by omega]
      · simpa using hv2
      · simp
      · simp
      · simp
    · obtain ⟨e0, e1, e2, e3, e4⟩ := he j (by omega)
      have e1' : OwnV u lo wr.heap.size (F (j * 5 + 1)) (bs j) (ms.getD j noM).2.1 := e1.keep fun _ a _ => hb.block _ a
      have e1'' : OwnV (set5 u g k r v li co qu) lo u.heap.size (F (j * 5 + 1)) (bs j) (ms.getD j noM).2.1 := (e1'.mono (Nat.le_refl _) hs).keep fun _ _ hc => set5_far u g k r v li co qu _ (ne _ hc)
      have far : ∀ a, a < 5 → ∀ b, b < 5 → ¬ (j * 5 + a = k * 5 + b) := fun a ha b hb => by omega
      have f0 : ∀ b, b < 5 → ¬ (j * 5 = k * 5 + b) := fun b hb => far 0 (by omega) b hb
      have g0 : ∀ a, a < 5 → ¬ (j * 5 + a = k * 5) := fun a ha => far a ha 0 (by omega)
      have z0 : ¬ (j * 5 = k * 5) := by omega
      refine ⟨?_, ?_, ?_, ?_, ?_⟩
      · simp only [z0, f0 1 (by omega), f0 2 (by omega), f0 3 (by omega), f0 4 (by omega), if_false]; exact e0
      · simp only [e, g0 1 (by omega), far 1 (by omega) 1 (by omega), far 1 (by omega) 2 (by omega), far 1 (by omega) 3 (by omega), far 1 (by omega) 4 (by omega), if_false]; exact e1''
      · simp only [g0 2 (by omega), far 2 (by omega) 1 (by omega), far 2 (by omega) 2 (by omega), far 2 (by omega) 3 (by omega), far 2 (by omega) 4 (by omega), if_false]; exact e2
      · simp only [g0 3 (by omega), far 3 (by omega) 1 (by omega), far 3 (by omega) 2 (by omega), far 3 (by omega) 3 (by omega), far 3 (by omega) 4 (by omega), if_false]; exact e3
      · simp only [g0 4 (by omega), far 4 (by omega) 1 (by omega), far 4 (by omega) 2 (by omega), far 4 (by omega) 3 (by omega), far 4 (by omega) 4 (by omega), if_false]; exact e4
  · by_cases e : j = k
    · subst e
      have e' : i ≠ j := by omega
      simp only [if_pos, e', if_false]
      have := hlt i hij hi0
      rw [hf] at hj0
      have := hq hj0
      omega
    · have e' : i ≠ k := by omega
      simp only [e, e', if_false]
      exact hd i j hij (by omega) hi0 hj0

theorem makeMethods (n : Nat) (hn : n ≤ 1048576) :
    ∃ C : Array Value, C.size = n * 5 ∧ ∀ W : World, (Instr.makeSlice 33 (.int .i64 (n : Int)) (.int .i64 (n : Int))).run Try.prog W = .ok (.slice (some ⟨W.heap.size, 0, none⟩) n n) (W.alloc (.cells C 71)) := by
  obtain ⟨i0, hi, hz0, hz1, hz2⟩ := info_parts method_info
  refine ⟨madeCells #[.int .i64 0, .slice none 0 0, .int .i64 0, .int .i64 0, .int .i64 0] (n * 5), size_madeCells _ _, fun W => ?_⟩
  have h := run_make (P := Try.prog) W 33 71 i0 (.agg #[.int .i64 0, .slice none 0 0, .int .i64 0, .int .i64 0, .int .i64 0]) Try.underlying33 hi hz0 .i64 .i64 (n : Int) (n : Int) (by omega) (by omega) (by rw [hz2]; omega) (by omega)
  rw [hz1, show ((n : Int)).toNat = n by omega] at h
  exact h

set_option maxHeartbeats 1000000 in
set_option maxRecDepth 100000 in
theorem toMethodS_any (A : Option Addr) (c : Nat) (ms : ML) (hz : szM ms ≤ 1048576) (w : World) (h : RM w A ms) :
    Calls Try.prog 16 #[.slice A ms.length c] w fun e w' => e = .returned (.slice (some ⟨w.heap.size, 0, none⟩) ms.length ms.length) ∧ OwnM w' w.heap.size w'.heap.size w.heap.size (ms.length * 5) ms.length ms ∧ Below w.heap.size w w' ∧ w.heap.size < w'.heap.size := by
  have hl := szM_len hz
  obtain ⟨C, hCs, hmk⟩ := makeMethods ms.length hl
  have HI := Lib.hid h
  have HS := Lib.hid hCs
  clear h hCs
  have hl' : (ms.length : Int) ≤ 1048576 := by omega
  go_enter Try.func16, Try.ntmps16
  go_wp2
  go_loopw [4] (fun i wr => ∃ k : Nat, k ≤ ms.length ∧ i = .int .i64 k ∧ OwnM wr w.heap.size wr.heap.size w.heap.size (ms.length * 5) k ms ∧ Below w.heap.size w wr) (fun i _ => ms.length - (intOf i).toNat)
  case atStart =>
    refine ⟨0, by omega, rfl, ⟨Nat.le_refl _, by simp, fun i => C.getD i undef, fun _ => 0, ⟨C, by rw [heap_alloc_new], HS.out, fun i hi => by simp only [Array.getD_eq_getD_getElem?, Array.getElem?_eq_getElem (show i < C.size by rw [HS.out]; exact hi)]; rfl⟩, fun j hj => by omega, fun i j _ hj => by omega⟩, below_alloc _ _⟩
  case round =>
    obtain ⟨k, hk, rfl, ho, hb⟩ := hrel
    have HO := Lib.hid ho
    clear ho
    by_cases hlt : k < ms.length
    · generalize hf : ms.getD k noM = f
      obtain ⟨r, xs, li, co, qu⟩ := f
      have HF := Lib.hid hf
      have hxl : xs.length ≤ 1048576 := by have := szM_elem hz hlt; rw [hf] at this; exact this
      obtain ⟨b, off, B, c2, rfl, _, e0, e1, e2, e3, e4, hxc, hcm, hI⟩ := (HI.out.step hb).at_ hlt hf
      clear hf
      unfold maxLen at hcm
      have HX := Lib.hid hI
      clear hI
      go_wp2_with fail
      refine (toMethod_r r xs li co qu B c2 hxl _ HX.out).mono ?_
      rintro e u ⟨rfl, hr, d, hz⟩
      have hg : w.heap.size < wr.heap.size := HO.out.2.1
      obtain ⟨F, bs, hrow, _, _⟩ := HO.out.2.2
      have hrow2 : u.rowIs w.heap.size 71 (ms.length * 5) F := World.rowIs.of_block hrow (d.block _ hg)
      have q0 := hrow2.cell (show k * 5 < ms.length * 5 by omega)
      have q1 := hrow2.cell (show k * 5 + 1 < ms.length * 5 by omega)
      have q2 := hrow2.cell (show k * 5 + 2 < ms.length * 5 by omega)
      have q3 := hrow2.cell (show k * 5 + 3 < ms.length * 5 by omega)
      have q4 := hrow2.cell (show k * 5 + 4 < ms.length * 5 by omega)
      have f0 := hrow2.frozen (k * 5)
      have f1 := hrow2.frozen (k * 5 + 1)
      have f2 := hrow2.frozen (k * 5 + 2)
      have f3 := hrow2.frozen (k * 5 + 3)
      have f4 := hrow2.frozen (k * 5 + 4)
      have HU := Lib.hid hz
      have HR := Lib.hid hr
      clear hrow hrow2 hz hr
      go_wp2
      go_roundw
      case rel =>
        refine ⟨k + 1, by omega, by go_num, ownM_step HO.out (by omega) HF.out d (OwnV.of_row HR.out (by omega) (by rw [HU.out]; omega) (Nat.le_refl _) (by unfold maxLen; omega)) (fun _ => by omega), ?_⟩
        exact set5_below (hb.trans (d.mono hb.size)) _ _ (Nat.le_refl _) _ _ _ _ _
      case measure => simp [intOf]; omega
    · obtain rfl : k = ms.length := by omega
      go_wp2
      go_ret
      exact ⟨rfl, HO.out, hb, HO.out.2.1⟩
theorem toMethodS_r (A : Option Addr) (c : Nat) (ms : ML) (hz : szM ms ≤ 1048576) (w : World) (h : RM w A ms) :
    Calls Try.prog 16 #[.slice A ms.length c] w fun e w' => e = .returned (.slice (some ⟨w.heap.size, 0, none⟩) ms.length ms.length) ∧ RM w' (some ⟨w.heap.size, 0, none⟩) ms ∧ Below w.heap.size w w' ∧ w.heap.size < w'.heap.size :=
  (toMethodS_any A c ms hz w h).mono fun _ _ ⟨a, b, c, d⟩ => ⟨a, b.rm (Nat.le_refl _), c, d⟩

set_option maxRecDepth 100000 in
set_option maxHeartbeats 1000000 in
theorem eqMethodS_r (A A' : Option Addr) (c c' : Nat) (ms : ML) (hz : szM ms ≤ 1048576) (w : World) (h : RM w A ms) (h' : RM w A' ms) :
    Calls Try.prog 21 #[.slice A ms.length c, .slice A' ms.length c'] w fun e w' => e = .returned (.bool true) ∧ Below w.heap.size w w' := by
  have hl := szM_len hz
  have hl' : (ms.length : Int) ≤ 1048576 := by omega
  have HI := Lib.hid h
  have HJ := Lib.hid h'
  clear h h'
  go_enter Try.func21, Try.ntmps21
  go_wp2
  go_loopw [5] (fun i wr => ∃ k : Nat, k ≤ ms.length ∧ i = .int .i64 k ∧ Below w.heap.size w wr) (fun i _ => ms.length - (intOf i).toNat)
  case atStart => exact ⟨0, by omega, rfl, Below.refl _ _⟩
  case round =>
    obtain ⟨k, hk, rfl, hb⟩ := hrel
    by_cases hlt : k < ms.length
    · generalize hf : ms.getD k noM = f
      obtain ⟨r, xs, li, co, qu⟩ := f
      have hxl : xs.length ≤ 1048576 := by have := szM_elem hz hlt; rw [hf] at this; exact this
      obtain ⟨b, off, B, c2, rfl, n1, e0, e1, e2, e3, e4, _, _, hI⟩ := (HI.out.step hb).at_ hlt hf
      obtain ⟨b', off', B', c2', rfl, n2, e0', e1', e2', e3', e4', _, _, hI'⟩ := (HJ.out.step hb).at_ hlt hf
      have HX := Lib.hid hI
      have HX' := Lib.hid hI'
      clear hf hI hI'
      have hk0 : (0 : Int) ≤ (k : Int) := by omega
      have hk1 : (k : Int) < (ms.length : Int) := by omega
      have k0 := cell_regrown e0
      have k1 := cell_regrown e1
      have k2 := cell_regrown e2
      have k3 := cell_regrown e3
      have k4 := cell_regrown e4
      have k0' := cell_regrown e0'
      have k1' := cell_regrown e1'
      have k2' := cell_regrown e2'
      have k3' := cell_regrown e3'
      have k4' := cell_regrown e4'
      have X1 := Lib.hid fun (W : World) (hW : Below wr.heap.size wr W) => eqMethod_r r xs li co qu B B' c2 c2' hxl W (HX.out.step hW) (HX'.out.step hW)
      go_wp2
      refine wp_region_quiet_below (by kernel_rfl) (by kernel_rfl) ?_
      repeat (go_big_quiet_step (first | (go_at_call 60; with_reducible exact Calls.regrown_of (X1.out _ (below_regrown _ _ _)))))
      refine wpQuiet_nil ?_
      intro u hw'
      have hb2 := step hb (show Below wr.heap.size wr u by obtain ⟨⟨dq, osq⟩, rfl⟩ := hw'; exact below_regrown _ _ _)
      clear hw' k0 k1 k2 k3 k4 k0' k1' k2' k3' k4'
      go_wp2
      go_roundw
      case rel => exact ⟨k + 1, by omega, by go_num, hb2⟩
      case measure => simp [intOf]; omega
    · obtain rfl : k = ms.length := by omega
      go_wp2
      go_ret
      exact ⟨rfl, hb⟩
end Go.Proofs.Ytighalbnpgmdfaa
