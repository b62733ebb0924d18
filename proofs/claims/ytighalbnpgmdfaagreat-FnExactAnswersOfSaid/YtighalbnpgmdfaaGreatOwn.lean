/- Lists of facts of the call's own. Conditions: none beyond each theorem's own. -/
import Derived.Test.YtighalbnpgmdfaaGreatList
namespace Go.Proofs.YtighalbnpgmdfaaGreat
open Go.ChangeShapes Go.WideShapes Go.ChangeAt Go.RowKit
set_option linter.unusedVariables false
set_option linter.unusedSimpArgs false

set_option maxRecDepth 100000 in
theorem fact_info : (Tryz.prog.info? 59).map (fun i => (i.zero, i.size, i.bytes)) = some (some (.agg #[.int .i64 0, .slice none 0 0]), 2, 32) := by kernel_rfl

/-- v1 is a slice of the numbers xs that owns block q (if it has any), which lies from lo to below hi. -/
def OwnV (w : World) (lo hi : Nat) (v1 : Value) (q : Nat) (xs : List Int) : Prop :=
  ∃ A c, v1 = .slice A xs.length c ∧ xs.length ≤ c ∧ c ≤ maxLen ∧ (0 < xs.length → A = some ⟨q, 0, none⟩ ∧ lo ≤ q ∧ q < hi ∧ ∃ m F, xs.length ≤ m ∧ w.rowIs q 3 m F ∧ ∀ i, i < xs.length → F i = .int .i64 (xs.getD i 0))
/-- Block g begins with the first k of the facts fs, their numbers each in a block of its own, all from lo to below hi. -/
def OwnP (w : World) (lo hi g m k : Nat) (fs : FL) : Prop :=
  lo ≤ g ∧ g < hi ∧ ∃ (F : Nat → Value) (bs : Nat → Nat), w.rowIs g 59 m F ∧ (∀ j, j < k → F (j * 2) = .int .i64 (fs.getD j (0, [])).1 ∧ OwnV w lo hi (F (j * 2 + 1)) (bs j) (fs.getD j (0, [])).2) ∧
    (∀ i j, i < j → j < k → 0 < (fs.getD i (0, [])).2.length → 0 < (fs.getD j (0, [])).2.length → bs i ≠ bs j)

theorem OwnV.mono {w : World} {lo hi lo' hi' q : Nat} {v : Value} {xs : List Int} (h : OwnV w lo hi v q xs) (h1 : lo' ≤ lo) (h2 : hi ≤ hi') : OwnV w lo' hi' v q xs := by
  obtain ⟨A, c, e, hc, hm, hx⟩ := h
  exact ⟨A, c, e, hc, hm, fun hp => by
    obtain ⟨a, b, d, r⟩ := hx hp
    exact ⟨a, by omega, by omega, r⟩⟩
theorem OwnV.keep {w w' : World} {lo hi q : Nat} {v : Value} {xs : List Int} (h : OwnV w lo hi v q xs) (hk : lo ≤ q → q < hi → (∃ c, w.heap[q]? = some (.cells c 3 (0, 0))) → w'.heap[q]? = w.heap[q]?) : OwnV w' lo hi v q xs := by
  obtain ⟨A, c, e, hc, hm, hx⟩ := h
  exact ⟨A, c, e, hc, hm, fun hp => by
    obtain ⟨a, b, d, m, F, h1, h2, h3⟩ := hx hp
    refine ⟨a, b, d, m, F, h1, World.rowIs.of_block h2 (hk b d ?_), h3⟩
    obtain ⟨cc, hcc, _⟩ := h2
    exact ⟨cc, hcc⟩⟩
theorem OwnV.ints {w : World} {lo hi q : Nat} {A : Option Addr} {n c : Nat} {xs : List Int} (h : OwnV w lo hi (.slice A n c) q xs) : n = xs.length ∧ xs.length ≤ c ∧ c ≤ maxLen ∧ Ints w lo hi A xs := by
  obtain ⟨A', c', e, hc, hm, hx⟩ := h
  injection e with e1 e2 e3
  subst e1 e2 e3
  refine ⟨rfl, hc, hm, fun hne => ?_⟩
  obtain ⟨ha, b, d, m, F, h1, h2, h3⟩ := hx (List.length_pos_iff.2 hne)
  exact ⟨q, 0, ha, b, d, fun k hk => by rw [Nat.zero_add, World.rowIs.cell h2 (show k < m by omega), h3 k hk]⟩
theorem OwnV.of_row {w : World} {lo hi q c : Nat} {xs : List Int} (h : Row w q xs) (h1 : lo ≤ q) (h2 : q < hi) (hc : xs.length ≤ c) (hm : c ≤ maxLen) : OwnV w lo hi (.slice (some ⟨q, 0, none⟩) xs.length c) q xs :=
  ⟨_, _, rfl, hc, hm, fun _ => ⟨rfl, h1, h2, _, _, Nat.le_refl _, h, fun _ _ => rfl⟩⟩

theorem OwnP.facts {w : World} {lo hi g m : Nat} {fs : FL} (h : OwnP w lo hi g m fs.length fs) (hm : fs.length * 2 ≤ m) : Facts w lo hi (some ⟨g, 0, none⟩) fs := fun _ => by
  obtain ⟨h1, h2, F, bs, hr, he, _⟩ := h
  refine ⟨g, 0, rfl, h1, h2, fun k hk => ?_⟩
  obtain ⟨e0, e1⟩ := he k hk
  obtain ⟨A, c, hv, _⟩ := id e1
  rw [hv] at e1
  obtain ⟨_, hc, hcm, hi⟩ := e1.ints
  refine ⟨A, c, ?_, ?_, hc, hcm, hi⟩
  · rw [Nat.zero_add, World.rowIs.cell hr (show k * 2 < m by omega), e0]
  · rw [Nat.zero_add, World.rowIs.cell hr (show k * 2 + 1 < m by omega), hv]

theorem size2 (w : World) (p p' : Addr) (u u' : Value) : ((w.setCell p u).setCell p' u').heap.size = w.heap.size := by rw [set_size, set_size]

/-- One fact more is stored. -/
theorem own_step {wr u : World} {lo g m k : Nat} {fs : FL} (h : OwnP wr lo wr.heap.size g m k fs) (hkm : k * 2 + 1 < m) {r : Int} {xs : List Int} (hf : fs.getD k (0, []) = (r, xs)) (hb : Below wr.heap.size wr u)
    {v : Value} {q : Nat} (hv : OwnV u lo u.heap.size v q xs) (hq : 0 < xs.length → wr.heap.size ≤ q) :
    OwnP ((u.setCell ⟨g, k * 2, none⟩ (.int .i64 r)).setCell ⟨g, k * 2 + 1, none⟩ v) lo ((u.setCell ⟨g, k * 2, none⟩ (.int .i64 r)).setCell ⟨g, k * 2 + 1, none⟩ v).heap.size g m (k + 1) fs := by
  rw [size2]
  obtain ⟨h1, h2, F, bs, hr, he, hd⟩ := h
  have hs := hb.size
  have hr2 : u.rowIs g 59 m F := World.rowIs.of_block hr (hb.block g h2)
  have far : ∀ b, b ≠ g → ((u.setCell ⟨g, k * 2, none⟩ (.int .i64 r)).setCell ⟨g, k * 2 + 1, none⟩ v).heap[b]? = u.heap[b]? := fun b hbg =>
    (Below.heap_setCell _ ⟨g, k * 2 + 1, none⟩ _ b hbg).trans (Below.heap_setCell _ ⟨g, k * 2, none⟩ _ b hbg)
  have ne : ∀ b, (∃ c, u.heap[b]? = some (.cells c 3 (0, 0))) → b ≠ g := by
    rintro b ⟨c, hc⟩ rfl
    obtain ⟨c2, hc2, _⟩ := hr2
    rw [hc] at hc2
    injection hc2 with hc2
    injection hc2 with _ ht
    exact absurd ht (by decide)
  have hlt : ∀ j, j < k → 0 < (fs.getD j (0, [])).2.length → bs j < wr.heap.size := fun j hj hp => by
    obtain ⟨_, A, c, _, _, _, hx⟩ := he j hj
    exact (hx hp).2.2.1
  refine ⟨h1, by omega, _, fun j => if j = k then q else bs j, (hr2.set (k * 2) _).set (k * 2 + 1) _, fun j hj => ?_, fun i j hij hj hi0 hj0 => ?_⟩
  · by_cases e : j = k
    · subst e
      have t1 : ¬ (j * 2 = j * 2 + 1) := by omega
      simp only [if_pos, t1, if_false, hf]
      exact ⟨trivial, hv.keep fun _ _ hc => far _ (ne _ hc)⟩
    · have t1 : ¬ (j * 2 = k * 2 + 1) := by omega
      have t2 : ¬ (j * 2 = k * 2) := by omega
      have t3 : ¬ (j * 2 + 1 = k * 2 + 1) := by omega
      have t4 : ¬ (j * 2 + 1 = k * 2) := by omega
      simp only [t1, t2, t3, t4, if_false, e]
      obtain ⟨e0, e1⟩ := he j (by omega)
      have e2 : OwnV u lo wr.heap.size (F (j * 2 + 1)) (bs j) (fs.getD j (0, [])).2 := e1.keep fun _ a _ => hb.block _ a
      exact ⟨e0, (e2.mono (Nat.le_refl _) hs).keep fun _ _ hc => far _ (ne _ hc)⟩
  · by_cases e : j = k
    · subst e
      have e' : i ≠ j := by omega
      simp only [if_pos, e', if_false]
      have := hlt i hij hi0
      rw [hf] at hj0
      have := hq hj0
      omega
    · have e' : i ≠ k := by omega
      simp only [e, e', if_false]
      exact hd i j hij (by omega) hi0 hj0

theorem makeFacts (n : Nat) (hn : n ≤ 1048576) :
    ∃ C : Array Value, (∀ i, i < n * 2 → C[i]? = some (if i % 2 = 0 then .int .i64 0 else .slice none 0 0)) ∧ C.size = n * 2 ∧ ∀ W : World, (Instr.makeSlice 36 (.int .i64 (n : Int)) (.int .i64 (n : Int))).run Tryz.prog W = .ok (.slice (some ⟨W.heap.size, 0, none⟩) n n) (W.alloc (.cells C 59)) := by
  obtain ⟨i0, hi, hz0, hz1, hz2⟩ := info_parts fact_info
  refine ⟨madeCells #[.int .i64 0, .slice none 0 0] (n * 2), fun i hin => ?_, size_madeCells _ _, fun W => ?_⟩
  · rcases Nat.mod_two_eq_zero_or_one i with h | h
    · simp [madeCells, hin, h]
    · simp [madeCells, hin, h]
  · have h := run_make (P := Tryz.prog) W 36 59 i0 (.agg #[.int .i64 0, .slice none 0 0]) Tryz.underlying36 hi hz0 .i64 .i64 (n : Int) (n : Int) (by omega) (by omega) (by rw [hz2]; omega) (by omega)
    rw [hz1, show ((n : Int)).toNat = n by omega] at h
    exact h

set_option maxHeartbeats 1000000 in
set_option maxRecDepth 100000 in
theorem toFactS_any (A : Option Addr) (c : Nat) (fs : FL) (hz : szF fs ≤ 1048576) (w : World) (h : RF w A fs) :
    Calls Tryz.prog 10 #[.slice A fs.length c] w fun e w' => e = .returned (.slice (some ⟨w.heap.size, 0, none⟩) fs.length fs.length) ∧ OwnP w' w.heap.size w'.heap.size w.heap.size (fs.length * 2) fs.length fs ∧ Below w.heap.size w w' ∧ w.heap.size < w'.heap.size := by
  have hl := szF_len hz
  obtain ⟨C, hC, hCs, hmk⟩ := makeFacts fs.length hl
  have HI := Lib.hid h
  have HC := Lib.hid hC
  have HS := Lib.hid hCs
  clear h hC hCs
  have hl' : (fs.length : Int) ≤ 1048576 := by omega
  go_enter Tryz.func10, Tryz.ntmps10
  go_wp2
  go_loopw [4] (fun i wr => ∃ k : Nat, k ≤ fs.length ∧ i = .int .i64 k ∧ OwnP wr w.heap.size wr.heap.size w.heap.size (fs.length * 2) k fs ∧ Below w.heap.size w wr) (fun i _ => fs.length - (intOf i).toNat)
  case atStart =>
    refine ⟨0, by omega, rfl, ⟨Nat.le_refl _, by simp, fun i => if i % 2 = 0 then .int .i64 0 else .slice none 0 0, fun _ => 0, ⟨C, by rw [heap_alloc_new], HS.out, fun i hi => HC.out i hi⟩, fun j hj => by omega, fun i j _ hj => by omega⟩, below_alloc _ _⟩
  case round =>
    obtain ⟨k, hk, rfl, ho, hb⟩ := hrel
    have HO := Lib.hid ho
    clear ho
    by_cases hlt : k < fs.length
    · generalize hf : fs.getD k (0, []) = f
      obtain ⟨r, xs⟩ := f
      have HF := Lib.hid hf
      have hxl : xs.length ≤ 1048576 := by have := szF_elem hz hlt; rw [hf] at this; exact this
      obtain ⟨b, off, B, c2, rfl, _, e0, e1, hxc, hcm, hI⟩ := (HI.out.step hb).at_ hlt hf
      clear hf
      unfold maxLen at hcm
      have HX := Lib.hid hI
      clear hI
      go_wp2_with fail
      refine (toFact_r r xs B c2 hxl _ HX.out).mono ?_
      rintro e u ⟨rfl, hr, d, hz⟩
      have hg : w.heap.size < wr.heap.size := HO.out.2.1
      obtain ⟨F, bs, hrow, _, _⟩ := HO.out.2.2
      have hrow2 : u.rowIs w.heap.size 59 (fs.length * 2) F := World.rowIs.of_block hrow (d.block _ hg)
      have q0 := hrow2.cell (show k * 2 < fs.length * 2 by omega)
      have q1 := hrow2.cell (show k * 2 + 1 < fs.length * 2 by omega)
      have q2 := hrow2.frozen (k * 2)
      have q3 := hrow2.frozen (k * 2 + 1)
      have HU := Lib.hid hz
      have HR := Lib.hid hr
      clear hrow hrow2 hz hr
      go_wp2
      go_roundw
      case rel =>
        refine ⟨k + 1, by omega, by go_num, own_step HO.out (by omega) HF.out d (OwnV.of_row HR.out (by omega) (by rw [HU.out]; omega) (Nat.le_refl _) (by unfold maxLen; omega)) (fun _ => by omega), ?_⟩
        exact ((hb.trans (d.mono hb.size)).setCell (Nat.le_refl _) _).setCell (Nat.le_refl _) _
      case measure => simp [intOf]; omega
    · obtain rfl : k = fs.length := by omega
      go_wp2
      go_ret
      exact ⟨rfl, HO.out, hb, HO.out.2.1⟩
end Go.Proofs.YtighalbnpgmdfaaGreat
