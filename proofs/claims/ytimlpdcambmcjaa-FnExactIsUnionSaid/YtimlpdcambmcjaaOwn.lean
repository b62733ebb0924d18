/- Lists of facts of the call's own. Conditions: none beyond each theorem's own. -/
import Derived.Test.YtimlpdcambmcjaaList
namespace Go.Proofs.Ytimlpdcambmcjaa
open Go.ChangeShapes Go.WideShapes Go.ChangeAt Go.RowKit
set_option linter.unusedVariables false
set_option linter.unusedSimpArgs false

set_option maxRecDepth 100000 in
theorem fact_info : (Try.prog.info? 73).map (fun i => (i.zero, i.size, i.bytes)) = some (some (.agg #[.int .i64 0, .slice none 0 0]), 2, 32) := by kernel_rfl

/-- v1 is a slice of the numbers xs that owns block q (if it has any), which lies from lo to below hi. -/
def OwnV (w : World) (lo hi : Nat) (v1 : Value) (q : Nat) (xs : List Int) : Prop :=
  ∃ A c, v1 = .slice A xs.length c ∧ xs.length ≤ c ∧ c ≤ maxLen ∧ (0 < xs.length → A = some ⟨q, 0, none⟩ ∧ lo ≤ q ∧ q < hi ∧ ∃ m F, xs.length ≤ m ∧ w.rowIs q 3 m F ∧ ∀ i, i < xs.length → F i = .int .i64 (xs.getD i 0))
/-- Block g begins with the first k of the facts fs, their numbers each in a block of its own, all from lo to below hi. -/
def OwnP (w : World) (lo hi g m k : Nat) (fs : FL) : Prop :=
  lo ≤ g ∧ g < hi ∧ ∃ (F : Nat → Value) (bs : Nat → Nat), w.rowIs g 73 m F ∧ (∀ j, j < k → F (j * 2) = .int .i64 (fs.getD j (0, [])).1 ∧ OwnV w lo hi (F (j * 2 + 1)) (bs j) (fs.getD j (0, [])).2) ∧
    (∀ i j, i < j → j < k → 0 < (fs.getD i (0, [])).2.length → 0 < (fs.getD j (0, [])).2.length → bs i ≠ bs j)

theorem OwnV.mono {w : World} {lo hi lo' hi' q : Nat} {v : Value} {xs : List Int} (h : OwnV w lo hi v q xs) (h1 : lo' ≤ lo) (h2 : hi ≤ hi') : OwnV w lo' hi' v q xs := by
  obtain ⟨A, c, e, hc, hm, hx⟩ := h
  exact ⟨A, c, e, hc, hm, fun hp => by
    obtain ⟨a, b, d, r⟩ := hx hp
    exact ⟨a, by omega, by omega, r⟩⟩
theorem OwnV.keep {w w' : World} {lo hi q : Nat} {v : Value} {xs : List Int} (h : OwnV w lo hi v q xs) (hk : lo ≤ q → q < hi → (∃ c, w.heap[q]? = some (.cells c 3 (0, 0))) → w'.heap[q]? = w.heap[q]?) : OwnV w' lo hi v q xs := by
  obtain ⟨A, c, e, hc, hm, hx⟩ := h
  exact ⟨A, c, e, hc, hm, fun hp => by
    obtain ⟨a, b, d, m, F, h1, h2, h3⟩ := hx hp
    refine ⟨a, b, d, m, F, h1, World.rowIs.of_block h2 (hk b d ?_), h3⟩
    obtain ⟨cc, hcc, _⟩ := h2
    exact ⟨cc, hcc⟩⟩
theorem OwnV.ints {w : World} {lo hi q : Nat} {A : Option Addr} {n c : Nat} {xs : List Int} (h : OwnV w lo hi (.slice A n c) q xs) : n = xs.length ∧ xs.length ≤ c ∧ c ≤ maxLen ∧ Ints w lo hi A xs := by
  obtain ⟨A', c', e, hc, hm, hx⟩ := h
  injection e with e1 e2 e3
  subst e1 e2 e3
  refine ⟨rfl, hc, hm, fun hne => ?_⟩
  obtain ⟨ha, b, d, m, F, h1, h2, h3⟩ := hx (List.length_pos_iff.2 hne)
  exact ⟨q, 0, ha, b, d, fun k hk => by rw [Nat.zero_add, World.rowIs.cell h2 (show k < m by omega), h3 k hk]⟩
theorem OwnV.of_row {w : World} {lo hi q c : Nat} {xs : List Int} (h : Row w q xs) (h1 : lo ≤ q) (h2 : q < hi) (hc : xs.length ≤ c) (hm : c ≤ maxLen) : OwnV w lo hi (.slice (some ⟨q, 0, none⟩) xs.length c) q xs :=
  ⟨_, _, rfl, hc, hm, fun _ => ⟨rfl, h1, h2, _, _, Nat.le_refl _, h, fun _ _ => rfl⟩⟩

theorem OwnP.facts {w : World} {lo hi g m : Nat} {fs : FL} (h : OwnP w lo hi g m fs.length fs) (hm : fs.length * 2 ≤ m) : Facts w lo hi (some ⟨g, 0, none⟩) fs := fun _ => by
  obtain ⟨h1, h2, F, bs, hr, he, _⟩ := h
  refine ⟨g, 0, rfl, h1, h2, fun k hk => ?_⟩
  obtain ⟨e0, e1⟩ := he k hk
  obtain ⟨A, c, hv, _⟩ := id e1
  rw [hv] at e1
  obtain ⟨_, hc, hcm, hi⟩ := e1.ints
  refine ⟨A, c, ?_, ?_, hc, hcm, hi⟩
  · rw [Nat.zero_add, World.rowIs.cell hr (show k * 2 < m by omega), e0]
  · rw [Nat.zero_add, World.rowIs.cell hr (show k * 2 + 1 < m by omega), hv]

theorem size2 (w : World) (p p' : Addr) (u u' : Value) : ((w.setCell p u).setCell p' u').heap.size = w.heap.size := by rw [set_size, set_size]

/-- One fact more is stored. -/
theorem own_step {wr u : World} {lo g m k : Nat} {fs : FL} (h : OwnP wr lo wr.heap.size g m k fs) (hkm : k * 2 + 1 < m) {r : Int} {xs : List Int} (hf : fs.getD k (0, []) = (r, xs)) (hb : Below wr.heap.size wr u)
    {v : Value} {q : Nat} (hv : OwnV u lo u.heap.size v q xs) (hq : 0 < xs.length → wr.heap.size ≤ q) :
    OwnP ((u.setCell ⟨g, k * 2, none⟩ (.int .i64 r)).setCell ⟨g, k * 2 + 1, none⟩ v) lo ((u.setCell ⟨g, k * 2, none⟩ (.int .i64 r)).setCell ⟨g, k * 2 + 1, none⟩ v).heap.size g m (k + 1) fs := by
  rw [size2]
  obtain ⟨h1, h2, F, bs, hr, he, hd⟩ := h
  have hs := hb.size
  have hr2 : u.rowIs g 73 m F := World.rowIs.of_block hr (hb.block g h2)
  have far : ∀ b, b ≠ g → ((u.setCell ⟨g, k * 2, none⟩ (.int .i64 r)).setCell ⟨g, k * 2 + 1, none⟩ v).heap[b]? = u.heap[b]? := fun b hbg =>
    (Below.heap_setCell _ ⟨g, k * 2 + 1, none⟩ _ b hbg).trans (Below.heap_setCell _ ⟨g, k * 2, none⟩ _ b hbg)
  have ne : ∀ b, (∃ c, u.heap[b]? = some (.cells c 3 (0, 0))) → b ≠ g := by
    rintro b ⟨c, hc⟩ rfl
    obtain ⟨c2, hc2, _⟩ := hr2
    rw [hc] at hc2
    injection hc2 with hc2
    injection hc2 with _ ht
    exact absurd ht (by decide)
  have hlt : ∀ j, j < k → 0 < (fs.getD j (0, [])).2.length → bs j < wr.heap.size := fun j hj hp => by
    obtain ⟨_, A, c, _, _, _, hx⟩ := he j hj
    exact (hx hp).2.2.1
  refine ⟨h1, by omega, _, fun j => if j = k then q else bs j, (hr2.set (k * 2) _).set (k * 2 + 1) _, fun j hj => ?_, fun i j hij hj hi0 hj0 => ?_⟩
  · by_cases e : j = k
    · subst e
      have t1 : ¬ (j * 2 = j * 2 + 1) := by omega
      simp only [if_pos, t1, if_false, hf]
      exact ⟨trivial, hv.keep fun _ _ hc => far _ (ne _ hc)⟩
    · have t1 : ¬ (j * 2 = k * 2 + 1) := by omega
      have t2 : ¬ (j * 2 = k * 2) := by omega
      have t3 : ¬ (j * 2 + 1 = k * 2 + 1) := by omega
      have t4 : ¬ (j * 2 + 1 = k * 2) := by omega
      simp only [t1, t2, t3, t4, if_false, e]
      obtain ⟨e0, e1⟩ := he j (by omega)
      have e2 : OwnV u lo wr.heap.size (F (j * 2 + 1)) (bs j) (fs.getD j (0, [])).2 := e1.keep fun _ a _ => hb.block _ a
      exact ⟨e0, (e2.mono (Nat.le_refl _) hs).keep fun _ _ hc => far _ (ne _ hc)⟩
  · by_cases e : j = k
    · subst e
      have e' : i ≠ j := by omega
      simp only [if_pos, e', if_false]
      have := hlt i hij hi0
      rw [hf] at hj0
      have := hq hj0
      omega
    · have e' : i ≠ k := by omega
      simp only [e, e', if_false]
      exact hd i j hij (by omega) hi0 hj0

theorem makeFacts (n : Nat) (hn : n ≤ 1048576) :
    ∃ C : Array Value, (∀ i, i < n * 2 → C[i]? = some (if i % 2 = 0 then .int .i64 0 else .slice none 0 0)) ∧ C.size = n * 2 ∧ ∀ W : World, (Instr.makeSlice 48 (.int .i64 (n : Int)) (.int .i64 (n : Int))).run Try.prog W = .ok (.slice (some ⟨W.heap.size, 0, none⟩) n n) (W.alloc (.cells C 73)) := by
  obtain ⟨i0, hi, hz0, hz1, hz2⟩ := info_parts fact_info
  refine ⟨madeCells #[.int .i64 0, .slice none 0 0] (n * 2), fun i hin => ?_, size_madeCells _ _, fun W => ?_⟩
  · rcases Nat.mod_two_eq_zero_or_one i with h | h
    · simp [madeCells, hin, h]
    · simp [madeCells, hin, h]
  · have h := run_make (P := Try.prog) W 48 73 i0 (.agg #[.int .i64 0, .slice none 0 0]) Try.underlying48 hi hz0 .i64 .i64 (n : Int) (n : Int) (by omega) (by omega) (by rw [hz2]; omega) (by omega)
    rw [hz1, show ((n : Int)).toNat = n by omega] at h
    exact h

end Go.Proofs.Ytimlpdcambmcjaa
