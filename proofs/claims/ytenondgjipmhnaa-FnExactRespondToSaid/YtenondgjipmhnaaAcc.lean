/- Accesses in memory, read, sized, copied and compared by the laws. Conditions: none beyond each theorem's own. -/
import Derived.Test.YtenondgjipmhnaaEqList
namespace Go.Proofs.Ytenondgjipmhnaa
open Go.ChangeShapes Go.WideShapes Go.ChangeAt Go.RowKit Go.Sort
set_option linter.unusedVariables false
set_option linter.unusedSimpArgs false

section
variable {H : Type} {enc : TypeId × Value → H} {w : World}

set_option maxRecDepth 100000 in
theorem open_accessT {r : Reach} {base : Nat} {v : Value} {d : DataW H} {p : List MemPlace} (hv : Value.okWide Try.prog w r base 41 v) (h : DataW.Trod enc Try.prog w 0 (fun _ => true) true 41 v d p) :
    ∃ (f : Int × List Int) (A : Option Addr) (c : Nat), v = .agg #[.int .i64 f.1, .slice A f.2.length c] ∧ f.2.length ≤ c ∧ c ≤ maxLen ∧ Ints w 0 w.heap.size A f.2 := by
  obtain ⟨v0, v1, y0, y1, n, rfl, _, _, h0, h1⟩ := Go.Joins.open_agg2 Try.underlying41 (by kernel_rfl) (by kernel_rfl) hv h
  obtain ⟨z, hz, _, _⟩ := DataW.trod_int Try.underlying3 h0
  injection hz with hz
  obtain ⟨A, c, xs, hv1, hl, hm, hi⟩ := open_nums (v := v1) Try.underlying22 Try.underlying3 (by kernel_rfl) h1
  subst hz hv1
  exact ⟨(z, xs), A, c, rfl, hl, hm, hi⟩

end

set_option maxRecDepth 100000 in
theorem szAccess_any (f : Int × List Int) (A : Option Addr) (c : Nat) (left : Int) (hl : f.2.length ≤ 9223372036854775807) (h0 : 0 ≤ left) (h1 : left ≤ 1048576) (w : World) :
    Calls Try.prog 25 #[.agg #[.int .i64 f.1, .slice A f.2.length c], .int .i64 left] w fun e w' => e = .returned (.int .i64 (if left - f.2.length < 0 then -1 else left - f.2.length)) ∧ Below w.heap.size w w' := by
  obtain ⟨r, xs⟩ := f
  simp only at hl ⊢
  by_cases h : left - (xs.length : Int) < 0
  · go_enter Try.func25, Try.ntmps25
    go_wp2_with fail
    refine (szIntS_any A c xs.length left hl h0 h1 _).mono ?_
    rintro e w1 ⟨rfl, rfl⟩
    rw [if_pos h]
    go_wp2
    go_ret
    exact ⟨rfl, (Below.refl _ _).alloc (Nat.le_refl _) _⟩
  · go_enter Try.func25, Try.ntmps25
    go_wp2_with fail
    refine (szIntS_any A c xs.length left hl h0 h1 _).mono ?_
    rintro e w1 ⟨rfl, rfl⟩
    have h' : (xs.length : Int) ≤ left := by omega
    rw [if_neg (by omega)]
    go_wp2
    go_ret
    exact ⟨rfl, (Below.refl _ _).alloc (Nat.le_refl _) _⟩

set_option maxHeartbeats 400000 in
set_option maxRecDepth 100000 in
theorem toAccess_any (lo hi : Nat) (r : Int) (xs : List Int) (A : Option Addr) (c : Nat) (hl : xs.length ≤ 1048576) (w : World) (hhi : hi ≤ w.heap.size) (h : Ints w lo hi A xs) :
    Calls Try.prog 27 #[.agg #[.int .i64 r, .slice A xs.length c]] w fun e w' => e = .returned (.agg #[.int .i64 r, .slice (some ⟨w.heap.size + 3, 0, none⟩) xs.length xs.length]) ∧
      Row w' (w.heap.size + 3) xs ∧ Below w.heap.size w w' ∧ w'.heap.size = w.heap.size + 4 := by
  have HI := Lib.hid h
  clear h
  go_enter Try.func27, Try.ntmps27
  go_wp2_with fail
  refine (toIntS_any lo hi A c xs hl _ (by simp [World.setCell]; omega) (HI.out.below (((((Below.refl _ _).alloc (Nat.le_refl _) _).alloc (by simp) _).alloc (by simp; omega) _)) hhi)).mono ?_
  rintro e w1 ⟨rfl, hr, hb, hz⟩
  obtain ⟨hc, hf⟩ := bcell hb
  have hs : (w.heap.size + 1 + 1 + 1 + 1 = w1.heap.size) := by rw [hz]; simp
  have HR := Lib.hid hr
  have HB := Lib.hid hb
  have HS := Lib.hid hs
  have HZ : w.heap.size + 2 < w1.heap.size := by omega
  clear hr hb hz hs
  go_wp2
  refine bodyPost_ret (v := .agg #[.int .i64 r, .slice (some ⟨w.heap.size + 3, 0, none⟩) xs.length xs.length]) (by simp [results, Try.results27, go_sem, hc, HZ]) rfl ⟨rfl, ?_, ?_, ?_⟩
  · have := HR.out
    simp at this
    exact ((this.set_other (by simp <;> omega)).set_other (by simp <;> omega)).set_other (by simp <;> omega)
  · have B := HB.out
    refine Below.setCell (Below.setCell (Below.setCell ((((((Below.refl _ _).alloc (Nat.le_refl _) _).alloc (by simp) _).alloc (by simp; omega) _)).trans (B.mono ?_)) ?_ _) ?_ _) ?_ _
    all_goals (simp; try omega)
  · rw [set_size, set_size, set_size, ← HS.out]

set_option maxHeartbeats 400000 in
set_option maxRecDepth 100000 in
theorem eqAccess_any (lo hi lo' hi' : Nat) (r r' : Int) (xs ys : List Int) (A A' : Option Addr) (c c' : Nat) (hl : xs.length ≤ 140737488355328) (hl2 : ys.length ≤ 140737488355328) (w : World) (hhi : hi ≤ w.heap.size) (hhi' : hi' ≤ w.heap.size)
    (h : Ints w lo hi A xs) (h' : Ints w lo' hi' A' ys) :
    Calls Try.prog 29 #[.agg #[.int .i64 r, .slice A xs.length c], .agg #[.int .i64 r', .slice A' ys.length c']] w fun e w' => e = .returned (.bool (decide (r = r') && decide (xs = ys))) ∧ Below w.heap.size w w' := by
  have HI := Lib.hid h
  have HJ := Lib.hid h'
  clear h h'
  by_cases hr : r = r'
  · subst hr
    by_cases he : xs = ys
    · have D := Lib.hid (show decide (xs = ys) = true by simpa using he)
      have H : (decide (r = r) && decide (xs = ys)) = true := by simp [he]
      rw [H]
      clear H he
      go_enter Try.func29, Try.ntmps29
      go_wp2_with fail
      refine (eqIntS_any lo hi lo' hi' A A' c c' xs ys hl hl2 _ (HI.out.below (((Below.refl _ _).alloc (Nat.le_refl _) _).alloc (by simp) _) hhi) (HJ.out.below (((Below.refl _ _).alloc (Nat.le_refl _) _).alloc (by simp) _) hhi')).mono ?_
      rintro e w1 ⟨he, hb⟩
      rw [D.out] at he
      subst he
      have B : Below w.heap.size w w1 := (((Below.refl _ _).alloc (Nat.le_refl _) _).alloc (by simp) _).trans (hb.mono (by simp; omega))
      clear hb
      go_wp2
      go_ret
      exact ⟨rfl, B⟩
    · have D := Lib.hid (show decide (xs = ys) = false by simpa using he)
      have H : (decide (r = r) && decide (xs = ys)) = false := by simp [he]
      rw [H]
      clear H he
      go_enter Try.func29, Try.ntmps29
      go_wp2_with fail
      refine (eqIntS_any lo hi lo' hi' A A' c c' xs ys hl hl2 _ (HI.out.below (((Below.refl _ _).alloc (Nat.le_refl _) _).alloc (by simp) _) hhi) (HJ.out.below (((Below.refl _ _).alloc (Nat.le_refl _) _).alloc (by simp) _) hhi')).mono ?_
      rintro e w1 ⟨he, hb⟩
      rw [D.out] at he
      subst he
      have B : Below w.heap.size w w1 := (((Below.refl _ _).alloc (Nat.le_refl _) _).alloc (by simp) _).trans (hb.mono (by simp; omega))
      clear hb
      go_wp2
      go_ret
      exact ⟨rfl, B⟩
  · have H : (decide (r = r') && decide (xs = ys)) = false := by simp [hr]
    rw [H]
    have d1 : (r == r') = false := by simpa using hr
    have d2 : (r != r') = true := by simpa using hr
    clear H hr
    go_enter Try.func29, Try.ntmps29
    go_wp2
    go_ret
    exact ⟨rfl, ((Below.refl _ _).alloc (Nat.le_refl _) _).alloc (by simp) _⟩

theorem toAccess_r (r : Int) (xs : List Int) (A : Option Addr) (c : Nat) (hl : xs.length ≤ 1048576) (w : World) (h : RI w A xs) :
    Calls Try.prog 27 #[.agg #[.int .i64 r, .slice A xs.length c]] w fun e w' => e = .returned (.agg #[.int .i64 r, .slice (some ⟨w.heap.size + 3, 0, none⟩) xs.length xs.length]) ∧
      Row w' (w.heap.size + 3) xs ∧ Below w.heap.size w w' ∧ w'.heap.size = w.heap.size + 4 :=
  toAccess_any 0 w.heap.size r xs A c hl w (Nat.le_refl _) h

theorem eqAccess_r (r : Int) (xs : List Int) (A A' : Option Addr) (c c' : Nat) (hl : xs.length ≤ 1048576) (w : World) (h : RI w A xs) (h' : RI w A' xs) :
    Calls Try.prog 29 #[.agg #[.int .i64 r, .slice A xs.length c], .agg #[.int .i64 r, .slice A' xs.length c']] w fun e w' => e = .returned (.bool true) ∧ Below w.heap.size w w' := by
  have := eqAccess_any _ _ _ _ r r xs xs A A' c c' (by omega) (by omega) w (Nat.le_refl _) (Nat.le_refl _) h h'
  rwa [decide_eq_true rfl, decide_eq_true rfl] at this

set_option maxRecDepth 100000 in
theorem access_info : (Try.prog.info? 44).map (fun i => (i.zero, i.size, i.bytes)) = some (some (.agg #[.int .i64 0, .slice none 0 0]), 2, 32) := by kernel_rfl

/-- Block g begins with the first k of the facts fs, their numbers each in a block of its own, all from lo to below hi. -/
def OwnPa (w : World) (lo hi g m k : Nat) (fs : FL) : Prop :=
  lo ≤ g ∧ g < hi ∧ ∃ (F : Nat → Value) (bs : Nat → Nat), w.rowIs g 44 m F ∧ (∀ j, j < k → F (j * 2) = .int .i64 (fs.getD j (0, [])).1 ∧ OwnV w lo hi (F (j * 2 + 1)) (bs j) (fs.getD j (0, [])).2) ∧
    (∀ i j, i < j → j < k → 0 < (fs.getD i (0, [])).2.length → 0 < (fs.getD j (0, [])).2.length → bs i ≠ bs j)

theorem OwnPa.facts {w : World} {lo hi g m : Nat} {fs : FL} (h : OwnPa w lo hi g m fs.length fs) (hm : fs.length * 2 ≤ m) : Facts w lo hi (some ⟨g, 0, none⟩) fs := fun _ => by
  obtain ⟨h1, h2, F, bs, hr, he, _⟩ := h
  refine ⟨g, 0, rfl, h1, h2, fun k hk => ?_⟩
  obtain ⟨e0, e1⟩ := he k hk
  obtain ⟨A, c, hv, _⟩ := id e1
  rw [hv] at e1
  obtain ⟨_, hc, hcm, hi⟩ := e1.ints
  refine ⟨A, c, ?_, ?_, hc, hcm, hi⟩
  · rw [Nat.zero_add, World.rowIs.cell hr (show k * 2 < m by omega), e0]
  · rw [Nat.zero_add, World.rowIs.cell hr (show k * 2 + 1 < m by omega), hv]

/-- One fact more is stored. -/
theorem ownA_step {wr u : World} {lo g m k : Nat} {fs : FL} (h : OwnPa wr lo wr.heap.size g m k fs) (hkm : k * 2 + 1 < m) {r : Int} {xs : List Int} (hf : fs.getD k (0, []) = (r, xs)) (hb : Below wr.heap.size wr u)
    {v : Value} {q : Nat} (hv : OwnV u lo u.heap.size v q xs) (hq : 0 < xs.length → wr.heap.size ≤ q) :
    OwnPa ((u.setCell ⟨g, k * 2, none⟩ (.int .i64 r)).setCell ⟨g, k * 2 + 1, none⟩ v) lo ((u.setCell ⟨g, k * 2, none⟩ (.int .i64 r)).setCell ⟨g, k * 2 + 1, none⟩ v).heap.size g m (k + 1) fs := by
  rw [size2]
  obtain ⟨h1, h2, F, bs, hr, he, hd⟩ := h
  have hs := hb.size
  have hr2 : u.rowIs g 44 m F := World.rowIs.of_block hr (hb.block g h2)
  have far : ∀ b, b ≠ g → ((u.setCell ⟨g, k * 2, none⟩ (.int .i64 r)).setCell ⟨g, k * 2 + 1, none⟩ v).heap[b]? = u.heap[b]? := fun b hbg =>
    (Below.heap_setCell _ ⟨g, k * 2 + 1, none⟩ _ b hbg).trans (Below.heap_setCell _ ⟨g, k * 2, none⟩ _ b hbg)
  have ne : ∀ b, (∃ c, u.heap[b]? = some (.cells c 3 (0, 0))) → b ≠ g := by
    rintro b ⟨c, hc⟩ rfl
    obtain ⟨c2, hc2, _⟩ := hr2
    rw [hc] at hc2
    injection hc2 with hc2
    injection hc2 with _ ht
    exact absurd ht (by decide)
  have hlt : ∀ j, j < k → 0 < (fs.getD j (0, [])).2.length → bs j < wr.heap.size := fun j hj hp => by
    obtain ⟨_, A, c, _, _, _, hx⟩ := he j hj
    exact (hx hp).2.2.1
  refine ⟨h1, by omega, _, fun j => if j = k then q else bs j, (hr2.set (k * 2) _).set (k * 2 + 1) _, fun j hj => ?_, fun i j hij hj hi0 hj0 => ?_⟩
  · by_cases e : j = k
    · subst e
      have t1 : ¬ (j * 2 = j * 2 + 1) := by omega
      simp only [if_pos, t1, if_false, hf]
      exact ⟨trivial, hv.keep fun _ _ hc => far _ (ne _ hc)⟩
    · have t1 : ¬ (j * 2 = k * 2 + 1) := by omega
      have t2 : ¬ (j * 2 = k * 2) := by omega
      have t3 : ¬ (j * 2 + 1 = k * 2 + 1) := by omega
      have t4 : ¬ (j * 2 + 1 = k * 2) := by omega
      simp only [t1, t2, t3, t4, if_false, e]
      obtain ⟨e0, e1⟩ := he j (by omega)
      have e2 : OwnV u lo wr.heap.size (F (j * 2 + 1)) (bs j) (fs.getD j (0, [])).2 := e1.keep fun _ a _ => hb.block _ a
      exact ⟨e0, (e2.mono (Nat.le_refl _) hs).keep fun _ _ hc => far _ (ne _ hc)⟩
  · by_cases e : j = k
    · subst e
      have e' : i ≠ j := by omega
      simp only [if_pos, e', if_false]
      have := hlt i hij hi0
      rw [hf] at hj0
      have := hq hj0
      omega
    · have e' : i ≠ k := by omega
      simp only [e, e', if_false]
      exact hd i j hij (by omega) hi0 hj0

theorem OwnPa.rf {w : World} {lo g m : Nat} {fs : FL} (h : OwnPa w lo w.heap.size g m fs.length fs) (hm : fs.length * 2 ≤ m) : RF w (some ⟨g, 0, none⟩) fs := (h.facts hm).mono (Nat.zero_le _) (Nat.le_refl _)

end Go.Proofs.Ytenondgjipmhnaa
