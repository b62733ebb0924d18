/- Lists of facts: their size, their copy, their comparison by the law. Conditions: none beyond each theorem's own. Lists of facts of the call's own. Conditions: none beyond each theorem's own. Two lists of the same facts are found equal by the law's own comparison. Conditions: none beyond each theorem's own. Bindings in memory: their size, their copy, their comparison by the law. Conditions: none beyond each theorem's own. What the two functions ValueOf answer. Conditions: none beyond each theorem's own. What matching an atom with a fact gives: plain lists. Conditions: none beyond each theorem's own. -/
import Derived.Test.YtimlpdcambmcjaaGreatS2
import Derived.Lib.QuietBelow

namespace Go.Proofs.YtimlpdcambmcjaaGreat
open Go.ChangeShapes Go.WideShapes Go.ChangeAt Go.RowKit
set_option linter.unusedVariables false
set_option linter.unusedSimpArgs false

abbrev FL := List (Int × List Int)
def sumN (l : FL) : Nat := (l.map fun f => f.2.length).sum
/-- How many values a list of facts holds, each fact counted, too. -/
def szF (l : FL) : Int := (l.length : Int) + (sumN l : Int)
theorem szF_nonneg (l : FL) : 0 ≤ szF l := by unfold szF; omega
theorem szF_len {l : FL} (h : szF l ≤ 1048576) : l.length ≤ 1048576 := by unfold szF at h; omega
theorem sumN_take (l : FL) (k : Nat) (hk : k < l.length) : sumN (l.take (k + 1)) = sumN (l.take k) + (l.getD k (0, [])).2.length := by
  unfold sumN
  rw [List.take_succ_eq_append_getElem hk, List.map_append, List.sum_append]
  simp [List.getD_eq_getElem?_getD, hk]
theorem sumN_le (l : FL) (k : Nat) : sumN (l.take k) ≤ sumN l := by
  have : sumN l = sumN (l.take k) + sumN (l.drop k) := by
    unfold sumN
    rw [← List.sum_append, ← List.map_append, List.take_append_drop]
  omega
theorem szF_elem {l : FL} (h : szF l ≤ 1048576) {k : Nat} (hk : k < l.length) : (l.getD k (0, [])).2.length ≤ 1048576 := by
  have h1 := sumN_take l k hk
  have h2 := sumN_le l (k + 1)
  unfold szF at h
  omega

/-- What is left, or -1. -/
def szR (left z : Int) : Int := if left - z < 0 then -1 else left - z
theorem szR_neg {left z : Int} (h : left - z < 0) : szR left z = -1 := if_pos h
theorem szR_pos {left z : Int} (h : ¬ left - z < 0) : szR left z = left - z := if_neg h

set_option maxHeartbeats 400000 in
set_option maxRecDepth 100000 in
theorem szFactS_w (A : Option Addr) (c : Nat) (l : FL) (left : Int) (hc : l.length ≤ 9223372036854775807) (h0 : 0 ≤ left) (h1 : left ≤ 1048576) (w : World) (h : RF w A l) :
    Calls Tryz.prog 18 #[.slice A l.length c, .int .i64 left] w fun e w' => e = .returned (.int .i64 (szR left (szF l))) ∧ Below w.heap.size w w' := by
  have hc' : (l.length : Int) ≤ 9223372036854775807 := by omega
  have HI := Lib.hid h
  clear h
  by_cases hb : left - (l.length : Int) < 0
  · have HE : left - szF l < 0 := by unfold szF; omega
    rw [szR_neg HE]
    clear HE
    go_enter Tryz.func18, Tryz.ntmps18
    go_wp2
    go_ret
    exact ⟨rfl, Below.refl _ _⟩
  · have hb' : (l.length : Int) ≤ left := by omega
    go_enter Tryz.func18, Tryz.ntmps18
    go_wp2
    go_loopw [1, 5] (fun z i wr => ∃ k : Nat, k ≤ l.length ∧ i = .int .i64 k ∧ z = .int .i64 (left - l.length - (sumN (l.take k) : Int)) ∧ (sumN (l.take k) : Int) ≤ left - l.length ∧ Below w.heap.size w wr) (fun _ i _ => l.length - (intOf i).toNat)
    case atStart => exact ⟨0, by omega, rfl, by simp [sumN], by simp [sumN]; omega, Below.refl _ _⟩
    case round =>
      obtain ⟨k, hk, rfl, rfl, hs, hB⟩ := hrel
      by_cases hlt : k < l.length
      · generalize hf : l.getD k (0, []) = f
        obtain ⟨r, xs⟩ := f
        have S := Lib.hid (show sumN (l.take (k + 1)) = sumN (l.take k) + xs.length by rw [sumN_take _ _ hlt, hf])
        have SL := Lib.hid (sumN_le l (k + 1))
        obtain ⟨b, off, B, c2, rfl, _, e0, e1, hxc, hcm, hI⟩ := (HI.out.step hB).at_ hlt hf
        unfold maxLen at hcm
        have HX := Lib.hid hI
        clear hI hf
        have hk0 : (0 : Int) ≤ (k : Int) := by omega
        go_wp2_with fail
        refine (szFact_any (r, xs) B c2 (left - l.length - (sumN (l.take k) : Int)) (by simp; omega) (by omega) (by omega) _).mono ?_
        rintro e u ⟨he, d⟩
        simp only at he
        have hB2 := hB.trans (d.mono hB.size)
        clear d
        by_cases hn : left - (l.length : Int) - (sumN (l.take k) : Int) - (xs.length : Int) < 0
        · rw [if_pos hn] at he
          subst he
          go_wp2
          go_ret
          exact ⟨ret_int (szR_neg (by have := S.out; have := SL.out; unfold szF; omega)).symm, hB2⟩
        · rw [if_neg hn] at he
          subst he
          have hn' : 0 ≤ left - (l.length : Int) - (sumN (l.take k) : Int) - (xs.length : Int) := by omega
          go_wp2
          go_roundw
          case rel => exact ⟨k + 1, by omega, by go_num, by rw [S.out]; congr 1; omega, by rw [S.out]; omega, hB2⟩
          case measure => simp [intOf]; omega
      · obtain rfl : k = l.length := by omega
        go_wp2
        go_ret
        exact ⟨ret_int (by rw [take_all] at hs ⊢; rw [szR_pos (by unfold szF; omega)]; unfold szF; omega), hB⟩
theorem szFactS_any (A : Option Addr) (c : Nat) (l : FL) (left : Int) (hc : l.length ≤ 9223372036854775807) (h0 : 0 ≤ left) (h1 : left ≤ 1048576) (w : World) (h : RF w A l) :
    Calls Tryz.prog 18 #[.slice A l.length c, .int .i64 left] w fun e w' => e = .returned (.int .i64 (if left - szF l < 0 then -1 else left - szF l)) ∧ Below w.heap.size w w' :=
  szFactS_w A c l left hc h0 h1 w h
end Go.Proofs.YtimlpdcambmcjaaGreat

namespace Go.Proofs.YtimlpdcambmcjaaGreat
open Go.ChangeShapes Go.WideShapes Go.ChangeAt Go.RowKit
set_option linter.unusedVariables false
set_option linter.unusedSimpArgs false

set_option maxRecDepth 100000 in
theorem fact_info : (Tryz.prog.info? 77).map (fun i => (i.zero, i.size, i.bytes)) = some (some (.agg #[.int .i64 0, .slice none 0 0]), 2, 32) := by kernel_rfl

/-- v1 is a slice of the numbers xs that owns block q (if it has any), which lies from lo to below hi. -/
def OwnV (w : World) (lo hi : Nat) (v1 : Value) (q : Nat) (xs : List Int) : Prop :=
  ∃ A c, v1 = .slice A xs.length c ∧ xs.length ≤ c ∧ c ≤ maxLen ∧ (0 < xs.length → A = some ⟨q, 0, none⟩ ∧ lo ≤ q ∧ q < hi ∧ ∃ m F, xs.length ≤ m ∧ w.rowIs q 3 m F ∧ ∀ i, i < xs.length → F i = .int .i64 (xs.getD i 0))
/-- Block g begins with the first k of the facts fs, their numbers each in a block of its own, all from lo to below hi. -/
def OwnP (w : World) (lo hi g m k : Nat) (fs : FL) : Prop :=
  lo ≤ g ∧ g < hi ∧ ∃ (F : Nat → Value) (bs : Nat → Nat), w.rowIs g 77 m F ∧ (∀ j, j < k → F (j * 2) = .int .i64 (fs.getD j (0, [])).1 ∧ OwnV w lo hi (F (j * 2 + 1)) (bs j) (fs.getD j (0, [])).2) ∧
    (∀ i j, i < j → j < k → 0 < (fs.getD i (0, [])).2.length → 0 < (fs.getD j (0, [])).2.length → bs i ≠ bs j)

theorem OwnV.mono {w : World} {lo hi lo' hi' q : Nat} {v : Value} {xs : List Int} (h : OwnV w lo hi v q xs) (h1 : lo' ≤ lo) (h2 : hi ≤ hi') : OwnV w lo' hi' v q xs := by
  obtain ⟨A, c, e, hc, hm, hx⟩ := h
  exact ⟨A, c, e, hc, hm, fun hp => by
    obtain ⟨a, b, d, r⟩ := hx hp
    exact ⟨a, by omega, by omega, r⟩⟩
theorem OwnV.keep {w w' : World} {lo hi q : Nat} {v : Value} {xs : List Int} (h : OwnV w lo hi v q xs) (hk : lo ≤ q → q < hi → (∃ c, w.heap[q]? = some (.cells c 3 (0, 0))) → w'.heap[q]? = w.heap[q]?) : OwnV w' lo hi v q xs := by
  obtain ⟨A, c, e, hc, hm, hx⟩ := h
  exact ⟨A, c, e, hc, hm, fun hp => by
    obtain ⟨a, b, d, m, F, h1, h2, h3⟩ := hx hp
    refine ⟨a, b, d, m, F, h1, World.rowIs.of_block h2 (hk b d ?_), h3⟩
    obtain ⟨cc, hcc, _⟩ := h2
    exact ⟨cc, hcc⟩⟩
theorem OwnV.ints {w : World} {lo hi q : Nat} {A : Option Addr} {n c : Nat} {xs : List Int} (h : OwnV w lo hi (.slice A n c) q xs) : n = xs.length ∧ xs.length ≤ c ∧ c ≤ maxLen ∧ Ints w lo hi A xs := by
  obtain ⟨A', c', e, hc, hm, hx⟩ := h
  injection e with e1 e2 e3
  subst e1 e2 e3
  refine ⟨rfl, hc, hm, fun hne => ?_⟩
  obtain ⟨ha, b, d, m, F, h1, h2, h3⟩ := hx (List.length_pos_iff.2 hne)
  exact ⟨q, 0, ha, b, d, fun k hk => by rw [Nat.zero_add, World.rowIs.cell h2 (show k < m by omega), h3 k hk]⟩
theorem OwnV.of_row {w : World} {lo hi q c : Nat} {xs : List Int} (h : Row w q xs) (h1 : lo ≤ q) (h2 : q < hi) (hc : xs.length ≤ c) (hm : c ≤ maxLen) : OwnV w lo hi (.slice (some ⟨q, 0, none⟩) xs.length c) q xs :=
  ⟨_, _, rfl, hc, hm, fun _ => ⟨rfl, h1, h2, _, _, Nat.le_refl _, h, fun _ _ => rfl⟩⟩

theorem OwnP.facts {w : World} {lo hi g m : Nat} {fs : FL} (h : OwnP w lo hi g m fs.length fs) (hm : fs.length * 2 ≤ m) : Facts w lo hi (some ⟨g, 0, none⟩) fs := fun _ => by
  obtain ⟨h1, h2, F, bs, hr, he, _⟩ := h
  refine ⟨g, 0, rfl, h1, h2, fun k hk => ?_⟩
  obtain ⟨e0, e1⟩ := he k hk
  obtain ⟨A, c, hv, _⟩ := id e1
  rw [hv] at e1
  obtain ⟨_, hc, hcm, hi⟩ := e1.ints
  refine ⟨A, c, ?_, ?_, hc, hcm, hi⟩
  · rw [Nat.zero_add, World.rowIs.cell hr (show k * 2 < m by omega), e0]
  · rw [Nat.zero_add, World.rowIs.cell hr (show k * 2 + 1 < m by omega), hv]

theorem size2 (w : World) (p p' : Addr) (u u' : Value) : ((w.setCell p u).setCell p' u').heap.size = w.heap.size := by rw [set_size, set_size]

/-- One fact more is stored. -/
theorem own_step {wr u : World} {lo g m k : Nat} {fs : FL} (h : OwnP wr lo wr.heap.size g m k fs) (hkm : k * 2 + 1 < m) {r : Int} {xs : List Int} (hf : fs.getD k (0, []) = (r, xs)) (hb : Below wr.heap.size wr u)
    {v : Value} {q : Nat} (hv : OwnV u lo u.heap.size v q xs) (hq : 0 < xs.length → wr.heap.size ≤ q) :
    OwnP ((u.setCell ⟨g, k * 2, none⟩ (.int .i64 r)).setCell ⟨g, k * 2 + 1, none⟩ v) lo ((u.setCell ⟨g, k * 2, none⟩ (.int .i64 r)).setCell ⟨g, k * 2 + 1, none⟩ v).heap.size g m (k + 1) fs := by
  rw [size2]
  obtain ⟨h1, h2, F, bs, hr, he, hd⟩ := h
  have hs := hb.size
  have hr2 : u.rowIs g 77 m F := World.rowIs.of_block hr (hb.block g h2)
  have far : ∀ b, b ≠ g → ((u.setCell ⟨g, k * 2, none⟩ (.int .i64 r)).setCell ⟨g, k * 2 + 1, none⟩ v).heap[b]? = u.heap[b]? := fun b hbg =>
    (Below.heap_setCell _ ⟨g, k * 2 + 1, none⟩ _ b hbg).trans (Below.heap_setCell _ ⟨g, k * 2, none⟩ _ b hbg)
  have ne : ∀ b, (∃ c, u.heap[b]? = some (.cells c 3 (0, 0))) → b ≠ g := by
    rintro b ⟨c, hc⟩ rfl
    obtain ⟨c2, hc2, _⟩ := hr2
    rw [hc] at hc2
    injection hc2 with hc2
    injection hc2 with _ ht
    exact absurd ht (by decide)
  have hlt : ∀ j, j < k → 0 < (fs.getD j (0, [])).2.length → bs j < wr.heap.size := fun j hj hp => by
    obtain ⟨_, A, c, _, _, _, hx⟩ := he j hj
    exact (hx hp).2.2.1
  refine ⟨h1, by omega, _, fun j => if j = k then q else bs j, (hr2.set (k * 2) _).set (k * 2 + 1) _, fun j hj => ?_, fun i j hij hj hi0 hj0 => ?_⟩
  · by_cases e : j = k
    · subst e
      have t1 : ¬ (j * 2 = j * 2 + 1) := by omega
      simp only [if_pos, t1, if_false, hf]
      exact ⟨trivial, hv.keep fun _ _ hc => far _ (ne _ hc)⟩
    · have t1 : ¬ (j * 2 = k * 2 + 1) := by omega
      have t2 : ¬ (j * 2 = k * 2) := by omega
      have t3 : ¬ (j * 2 + 1 = k * 2 + 1) := by omega
      have t4 : ¬ (j * 2 + 1 = k * 2) := by omega
      simp only [t1, t2, t3, t4, if_false, e]
      obtain ⟨e0, e1⟩ := he j (by omega)
      have e2 : OwnV u lo wr.heap.size (F (j * 2 + 1)) (bs j) (fs.getD j (0, [])).2 := e1.keep fun _ a _ => hb.block _ a
      exact ⟨e0, (e2.mono (Nat.le_refl _) hs).keep fun _ _ hc => far _ (ne _ hc)⟩
  · by_cases e : j = k
    · subst e
      have e' : i ≠ j := by omega
      simp only [if_pos, e', if_false]
      have := hlt i hij hi0
      rw [hf] at hj0
      have := hq hj0
      omega
    · have e' : i ≠ k := by omega
      simp only [e, e', if_false]
      exact hd i j hij (by omega) hi0 hj0

theorem makeFacts (n : Nat) (hn : n ≤ 1048576) :
    ∃ C : Array Value, (∀ i, i < n * 2 → C[i]? = some (if i % 2 = 0 then .int .i64 0 else .slice none 0 0)) ∧ C.size = n * 2 ∧ ∀ W : World, (Instr.makeSlice 46 (.int .i64 (n : Int)) (.int .i64 (n : Int))).run Tryz.prog W = .ok (.slice (some ⟨W.heap.size, 0, none⟩) n n) (W.alloc (.cells C 77)) := by
  obtain ⟨i0, hi, hz0, hz1, hz2⟩ := info_parts fact_info
  refine ⟨madeCells #[.int .i64 0, .slice none 0 0] (n * 2), fun i hin => ?_, size_madeCells _ _, fun W => ?_⟩
  · rcases Nat.mod_two_eq_zero_or_one i with h | h
    · simp [madeCells, hin, h]
    · simp [madeCells, hin, h]
  · have h := run_make (P := Tryz.prog) W 46 77 i0 (.agg #[.int .i64 0, .slice none 0 0]) Tryz.underlying46 hi hz0 .i64 .i64 (n : Int) (n : Int) (by omega) (by omega) (by rw [hz2]; omega) (by omega)
    rw [hz1, show ((n : Int)).toNat = n by omega] at h
    exact h

set_option maxHeartbeats 1000000 in
set_option maxRecDepth 100000 in
theorem toFactS_any (A : Option Addr) (c : Nat) (fs : FL) (hz : szF fs ≤ 1048576) (w : World) (h : RF w A fs) :
    Calls Tryz.prog 21 #[.slice A fs.length c] w fun e w' => e = .returned (.slice (some ⟨w.heap.size, 0, none⟩) fs.length fs.length) ∧ OwnP w' w.heap.size w'.heap.size w.heap.size (fs.length * 2) fs.length fs ∧ Below w.heap.size w w' ∧ w.heap.size < w'.heap.size := by
  have hl := szF_len hz
  obtain ⟨C, hC, hCs, hmk⟩ := makeFacts fs.length hl
  have HI := Lib.hid h
  have HC := Lib.hid hC
  have HS := Lib.hid hCs
  clear h hC hCs
  have hl' : (fs.length : Int) ≤ 1048576 := by omega
  go_enter Tryz.func21, Tryz.ntmps21
  go_wp2
  go_loopw [4] (fun i wr => ∃ k : Nat, k ≤ fs.length ∧ i = .int .i64 k ∧ OwnP wr w.heap.size wr.heap.size w.heap.size (fs.length * 2) k fs ∧ Below w.heap.size w wr) (fun i _ => fs.length - (intOf i).toNat)
  case atStart =>
    refine ⟨0, by omega, rfl, ⟨Nat.le_refl _, by simp, fun i => if i % 2 = 0 then .int .i64 0 else .slice none 0 0, fun _ => 0, ⟨C, by rw [heap_alloc_new], HS.out, fun i hi => HC.out i hi⟩, fun j hj => by omega, fun i j _ hj => by omega⟩, below_alloc _ _⟩
  case round =>
    obtain ⟨k, hk, rfl, ho, hb⟩ := hrel
    have HO := Lib.hid ho
    clear ho
    by_cases hlt : k < fs.length
    · generalize hf : fs.getD k (0, []) = f
      obtain ⟨r, xs⟩ := f
      have HF := Lib.hid hf
      have hxl : xs.length ≤ 1048576 := by have := szF_elem hz hlt; rw [hf] at this; exact this
      obtain ⟨b, off, B, c2, rfl, _, e0, e1, hxc, hcm, hI⟩ := (HI.out.step hb).at_ hlt hf
      clear hf
      unfold maxLen at hcm
      have HX := Lib.hid hI
      clear hI
      go_wp2_with fail
      refine (toFact_r r xs B c2 hxl _ HX.out).mono ?_
      rintro e u ⟨rfl, hr, d, hz⟩
      have hg : w.heap.size < wr.heap.size := HO.out.2.1
      obtain ⟨F, bs, hrow, _, _⟩ := HO.out.2.2
      have hrow2 : u.rowIs w.heap.size 77 (fs.length * 2) F := World.rowIs.of_block hrow (d.block _ hg)
      have q0 := hrow2.cell (show k * 2 < fs.length * 2 by omega)
      have q1 := hrow2.cell (show k * 2 + 1 < fs.length * 2 by omega)
      have q2 := hrow2.frozen (k * 2)
      have q3 := hrow2.frozen (k * 2 + 1)
      have HU := Lib.hid hz
      have HR := Lib.hid hr
      clear hrow hrow2 hz hr
      go_wp2
      go_roundw
      case rel =>
        refine ⟨k + 1, by omega, by go_num, own_step HO.out (by omega) HF.out d (OwnV.of_row HR.out (by omega) (by rw [HU.out]; omega) (Nat.le_refl _) (by unfold maxLen; omega)) (fun _ => by omega), ?_⟩
        exact ((hb.trans (d.mono hb.size)).setCell (Nat.le_refl _) _).setCell (Nat.le_refl _) _
      case measure => simp [intOf]; omega
    · obtain rfl : k = fs.length := by omega
      go_wp2
      go_ret
      exact ⟨rfl, HO.out, hb, HO.out.2.1⟩
end Go.Proofs.YtimlpdcambmcjaaGreat

namespace Go.Proofs.YtimlpdcambmcjaaGreat
open Go.ChangeShapes Go.WideShapes Go.ChangeAt Go.RowKit
set_option linter.unusedVariables false
set_option linter.unusedSimpArgs false

theorem OwnP.rf {w : World} {lo g m : Nat} {fs : FL} (h : OwnP w lo w.heap.size g m fs.length fs) (hm : fs.length * 2 ≤ m) : RF w (some ⟨g, 0, none⟩) fs := (h.facts hm).mono (Nat.zero_le _) (Nat.le_refl _)
theorem toFactS_r (A : Option Addr) (c : Nat) (fs : FL) (hz : szF fs ≤ 1048576) (w : World) (h : RF w A fs) :
    Calls Tryz.prog 21 #[.slice A fs.length c] w fun e w' => e = .returned (.slice (some ⟨w.heap.size, 0, none⟩) fs.length fs.length) ∧ RF w' (some ⟨w.heap.size, 0, none⟩) fs ∧ Below w.heap.size w w' ∧ w.heap.size < w'.heap.size :=
  (toFactS_any A c fs hz w h).mono fun _ _ ⟨a, b, c, d⟩ => ⟨a, b.rf (Nat.le_refl _), c, d⟩

set_option maxRecDepth 100000 in
set_option maxHeartbeats 1000000 in
theorem eqFactS_r (A A' : Option Addr) (c c' : Nat) (fs : FL) (hz : szF fs ≤ 1048576) (w : World) (h : RF w A fs) (h' : RF w A' fs) :
    Calls Tryz.prog 25 #[.slice A fs.length c, .slice A' fs.length c'] w fun e w' => e = .returned (.bool true) ∧ Below w.heap.size w w' := by
  have hl := szF_len hz
  have hl' : (fs.length : Int) ≤ 1048576 := by omega
  have HI := Lib.hid h
  have HJ := Lib.hid h'
  clear h h'
  go_enter Tryz.func25, Tryz.ntmps25
  go_wp2
  go_loopw [5] (fun i wr => ∃ k : Nat, k ≤ fs.length ∧ i = .int .i64 k ∧ Below w.heap.size w wr) (fun i _ => fs.length - (intOf i).toNat)
  case atStart => exact ⟨0, by omega, rfl, Below.refl _ _⟩
  case round =>
    obtain ⟨k, hk, rfl, hb⟩ := hrel
    by_cases hlt : k < fs.length
    · generalize hf : fs.getD k (0, []) = f
      obtain ⟨r, xs⟩ := f
      have hxl : xs.length ≤ 1048576 := by have := szF_elem hz hlt; rw [hf] at this; exact this
      obtain ⟨b, off, B, c2, rfl, n1, e0, e1, _, _, hI⟩ := (HI.out.step hb).at_ hlt hf
      obtain ⟨b', off', B', c2', rfl, n2, e0', e1', _, _, hI'⟩ := (HJ.out.step hb).at_ hlt hf
      have HX := Lib.hid hI
      have HX' := Lib.hid hI'
      clear hf hI hI'
      have hk0 : (0 : Int) ≤ (k : Int) := by omega
      have hk1 : (k : Int) < (fs.length : Int) := by omega
      go_wp2
      go_region_held3 (fun w' => w'.cell? ⟨b, off + k * 2, none⟩ = some (.int .i64 r) ∧ w'.cell? ⟨b, off + k * 2 + 1, none⟩ = some (.slice B xs.length c2) ∧ w'.cell? ⟨b', off' + k * 2, none⟩ = some (.int .i64 r) ∧ w'.cell? ⟨b', off' + k * 2 + 1, none⟩ = some (.slice B' xs.length c2'))
        (first
          | go_keep
          | (go_split_ands; refine ⟨?_, ?_, ?_, ?_⟩ <;> (rw [d.cell (by (try simp) <;> omega)]; assumption)))
        (first
          | (go_at_call 61; refine (eqFact_r r xs B B' c2 c2' hxl _ (by first | exact HX.out | exact HX.out.step (below_drew _)) (by first | exact HX'.out | exact HX'.out.step (below_drew _))).mono ?_; rintro e u ⟨rfl, d⟩))
      have hb2 : Below w.heap.size w u := by first | exact step hb d | exact step hb (und d)
      clear d
      go_wp2
      go_roundw
      case rel => exact ⟨k + 1, by omega, by go_num, by first | exact hb2 | exact hb2.drew⟩
      case measure => simp [intOf]; omega
    · obtain rfl : k = fs.length := by omega
      go_wp2
      go_ret
      exact ⟨rfl, hb⟩
end Go.Proofs.YtimlpdcambmcjaaGreat

namespace Go.Proofs.YtimlpdcambmcjaaGreat
open Go.ChangeShapes Go.WideShapes Go.ChangeAt Go.RowKit
set_option linter.unusedVariables false
set_option linter.unusedSimpArgs false

section
variable {H : Type} {enc : TypeId × Value → H} {w : World}
end

/-- How many values a binding holds. -/
def szB (hs l : List Int) : Int := (hs.length : Int) + (l.length : Int)

/-- A binding of the call's own: its variables in block g, its values in block g + 1. -/
def BX (w : World) (g : Nat) (hs l : List Int) : Prop := Row w g hs ∧ Row w (g + 1) l
theorem BX.step {w w' : World} {g : Nat} {hs l : List Int} (h : BX w g hs l) (b : Below w.heap.size w w') : BX w' g hs l :=
  ⟨h.1.of_block (b.block _ (World.rowIs.lt h.1)), h.2.of_block (b.block _ (World.rowIs.lt h.2))⟩
theorem BX.ri {w : World} {g : Nat} {hs l : List Int} (h : BX w g hs l) : RI w (some ⟨g, 0, none⟩) hs := h.1.ri
theorem BX.rv {w : World} {g : Nat} {hs l : List Int} (h : BX w g hs l) : RI w (some ⟨g + 1, 0, none⟩) l := h.2.ri

end Go.Proofs.YtimlpdcambmcjaaGreat

namespace Go.Proofs.YtimlpdcambmcjaaGreat
open Go.ChangeShapes Go.WideShapes Go.ChangeAt Go.RowKit Go.Sort
set_option linter.unusedVariables false
set_option linter.unusedSimpArgs false

theorem takeI' (v : List Int) {k : Nat} (h : k < v.length) {x : Int} (hx : v.getD k 0 = x) : v.take (k + 1) = v.take k ++ [x] := by
  rw [List.take_succ_eq_append_getElem h]
  have : v[k] = v.getD k 0 := by simp [List.getD_eq_getElem?_getD, h]
  rw [this, hx]
theorem idx_ge : ∀ (hs : List Int) (t : Int) (k : Nat), k ≤ hs.length → t ∉ hs.take k → k ≤ hs.idxOf t
  | _, _, 0, _, _ => Nat.zero_le _
  | [], _, k + 1, h, _ => by simp at h
  | x :: xs, t, k + 1, h, hn => by
    rw [List.take_succ_cons] at hn
    have h1 : ¬ t = x := fun e => hn (by rw [e]; exact List.mem_cons_self)
    have h2 := idx_ge xs t k (by simpa using h) (fun hm => hn (List.mem_cons_of_mem _ hm))
    rw [List.idxOf_cons]
    have e : (x == t) = false := by simpa using fun e => h1 e.symm
    rw [e]
    simp only [cond_false]
    omega
theorem idx_at : ∀ (hs : List Int) (t : Int) (k : Nat), k < hs.length → t ∉ hs.take k → hs.getD k 0 = t → hs.idxOf t = k
  | [], _, k, h, _, _ => by simp at h
  | x :: xs, t, 0, _, _, he => by
    have : x = t := by simpa using he
    subst this
    simp
  | x :: xs, t, k + 1, h, hn, he => by
    rw [List.take_succ_cons] at hn
    have h1 : ¬ t = x := fun e => hn (by rw [e]; exact List.mem_cons_self)
    have h2 := idx_at xs t k (by simpa using h) (fun hm => hn (List.mem_cons_of_mem _ hm)) (by simpa using he)
    rw [List.idxOf_cons]
    have e : (x == t) = false := by simpa using fun e => h1 e.symm
    rw [e]
    simp only [cond_false]
    omega

/-- What a term is worth under the binding of hs to l. -/
def bval (hs l : List Int) (t : Int) : Int :=
  if inB t 10 17 = true then (if hs.idxOf t < hs.length ∧ hs.idxOf t < l.length then l.getD (hs.idxOf t) 0 else -1) else t
theorem bval_no {hs l : List Int} {t : Int} (h : inB t 10 17 = false) : bval hs l t = t := by simp [bval, h]
theorem bval_at {hs l : List Int} {t : Int} (h : inB t 10 17 = true) {k : Nat} (h1 : k < hs.length) (h2 : k < l.length) (h3 : t ∉ hs.take k) (h4 : hs.getD k 0 = t) : bval hs l t = l.getD k 0 := by
  have e := idx_at hs t k h1 h3 h4
  simp [bval, h, e, h1, h2]
theorem bval_none {hs l : List Int} {t : Int} (h : inB t 10 17 = true) {k : Nat} (h1 : k ≤ hs.length) (h3 : t ∉ hs.take k) (h2 : hs.length ≤ k ∨ l.length ≤ k) : bval hs l t = -1 := by
  have e := idx_ge hs t k h1 h3
  have : ¬ (hs.idxOf t < hs.length ∧ hs.idxOf t < l.length) := by omega
  simp [bval, h, this]
theorem notMem_snoc {hs : List Int} {t x : Int} {k : Nat} (hk : k < hs.length) (h3 : t ∉ hs.take k) (hx : hs.getD k 0 = x) (hne : ¬ x = t) : t ∉ hs.take (k + 1) := by
  rw [takeI' hs hk hx]
  simp only [List.mem_append, List.mem_singleton, not_or]
  exact ⟨h3, fun e => hne e.symm⟩

/-- The first place of x in v, or -1. -/
def idxI (v : List Int) (x : Int) : Int := if v.idxOf x < v.length then (v.idxOf x : Int) else -1
set_option maxRecDepth 100000 in
set_option maxHeartbeats 400000 in
theorem index_at (lo hi : Nat) (A : Option Addr) (c : Nat) (v : List Int) (x : Int) (hl : v.length ≤ 1048576) (w : World) (h : Ints w lo hi A v) :
    Calls Tryz.prog 152 #[.slice A v.length c, .int .i64 x] w fun e w' => e = .returned (.int .i64 (idxI v x)) ∧ w = w' := by
  have HI := Lib.hid h
  clear h
  have hl' : (v.length : Int) ≤ 1048576 := by omega
  go_enter Tryz.func152, Tryz.ntmps152
  go_wp2
  go_loop [5, 8] (fun _ i => ∃ k : Nat, k ≤ v.length ∧ i = .int .i64 k ∧ Hid (x ∉ v.take k)) (fun _ i => v.length - (intOf i).toNat)
  case atStart => exact ⟨0, by omega, rfl, Lib.hid (by simp)⟩
  case round =>
    obtain ⟨k, hk, rfl, ha⟩ := hrel
    by_cases hlt : k < v.length
    · obtain ⟨b, off, rfl, _, _, hc⟩ := HI.out.at_ hlt
      generalize hz : v.getD k 0 = z at hc
      have HZ := Lib.hid hz
      clear hz
      by_cases he : x = z
      · subst he
        go_wp2
        go_ret
        exact ⟨ret_int (by have := idx_at v x k hlt ha.out HZ.out; simp [idxI, this, hlt]), rfl⟩
      · have d1 : (x == z) = false := by simpa using he
        go_wp2
        go_round
        case rel => exact ⟨k + 1, by omega, by go_num, Lib.hid (notMem_snoc hlt ha.out HZ.out (fun e => he e.symm))⟩
        case measure => simp [intOf]; omega
    · obtain rfl : k = v.length := by omega
      go_wp2
      go_ret
      exact ⟨ret_int (by have := idx_ge v x v.length (Nat.le_refl _) ha.out; simp [idxI, show ¬ v.idxOf x < v.length by omega]), rfl⟩
end Go.Proofs.YtimlpdcambmcjaaGreat

namespace Go.Proofs.YtimlpdcambmcjaaGreat
open Go.ChangeShapes Go.WideShapes Go.ChangeAt Go.RowKit Go.Sort
set_option linter.unusedVariables false
set_option linter.unusedSimpArgs false

abbrev PL := List Int × List Int
/-- One term against one value. -/
def mst (p : PL) (t v : Int) : Option PL :=
  if inB t 10 17 = true then (if t ∈ p.1 then (if bval p.1 p.2 t = v then some p else none) else some (p.1 ++ [t], p.2 ++ [v])) else (if t = v then some p else none)
def mgo (p : PL) : List Int → List Int → Option PL
  | t :: ts, v :: vs => (mst p t v).bind fun q => mgo q ts vs
  | _, _ => some p
theorem mgo_nil (p : PL) (vs : List Int) : mgo p [] vs = some p := by cases vs <;> rfl
theorem mgo_append : ∀ (ts vs : List Int) (p : PL) (ts' vs' : List Int), ts.length = vs.length → mgo p (ts ++ ts') (vs ++ vs') = (mgo p ts vs).bind fun q => mgo q ts' vs'
  | [], [], p, ts', vs', _ => by simp [mgo_nil]
  | [], _ :: _, _, _, _, h => by simp at h
  | _ :: _, [], _, _, _, h => by simp at h
  | t :: ts, v :: vs, p, ts', vs', h => by
    have hl : ts.length = vs.length := by simpa using h
    show (mst p t v).bind (fun q => mgo q (ts ++ ts') (vs ++ vs')) = ((mst p t v).bind fun q => mgo q ts vs).bind fun q => mgo q ts' vs'
    cases mst p t v with
    | none => rfl
    | some q => exact mgo_append ts vs q ts' vs' hl
theorem split_at (l : List Int) {k : Nat} (hk : k < l.length) {x : Int} (hx : l.getD k 0 = x) : l = l.take k ++ x :: l.drop (k + 1) := by
  have e : l[k] = x := by rw [← hx]; simp [List.getD_eq_getElem?_getD, hk]
  rw [← e, List.getElem_cons_drop, List.take_append_drop]
theorem mgo_step {ts vs : List Int} (hl : ts.length = vs.length) {k : Nat} (hk : k < ts.length) {t v : Int} (ht : ts.getD k 0 = t) (hv : vs.getD k 0 = v) {p0 p : PL} (h : mgo p0 (ts.take k) (vs.take k) = some p) :
    mgo p0 (ts.take (k + 1)) (vs.take (k + 1)) = mst p t v := by
  rw [takeI' ts hk ht, takeI' vs (by omega) hv, mgo_append _ _ _ _ _ (by rw [List.length_take, List.length_take]; omega), h]
  show ((mst p t v).bind fun q => mgo q [] []) = _
  cases mst p t v <;> rfl
theorem mgo_fail {ts vs : List Int} (hl : ts.length = vs.length) {k : Nat} (hk : k < ts.length) {t v : Int} (ht : ts.getD k 0 = t) (hv : vs.getD k 0 = v) {p0 p : PL} (h : mgo p0 (ts.take k) (vs.take k) = some p) (hm : mst p t v = none) :
    mgo p0 ts vs = none := by
  rw [split_at ts hk ht, split_at vs (by omega) hv, mgo_append _ _ _ _ _ (by rw [List.length_take, List.length_take]; omega), h]
  show (mst p t v).bind _ = none
  rw [hm]
  rfl
/-- The value of a place of a binding. -/
def pval (p : PL) (t : Int) : Int := p.2.getD (p.1.idxOf t) 0
theorem bval_mem {p : PL} (hl : p.1.length = p.2.length) {t : Int} (h : inB t 10 17 = true) (hm : t ∈ p.1) : bval p.1 p.2 t = pval p t := by
  have := List.idxOf_lt_length_iff.2 hm
  simp [bval, pval, h, this, ← hl]
theorem pval_old {p : PL} (hl : p.1.length = p.2.length) {t : Int} (hm : t ∈ p.1) (x v : Int) : pval (p.1 ++ [x], p.2 ++ [v]) t = pval p t := by
  have h1 := List.idxOf_lt_length_iff.2 hm
  simp only [pval]
  rw [List.idxOf_append, if_pos hm, List.getD_eq_getElem?_getD, List.getElem?_append_left (by omega), ← List.getD_eq_getElem?_getD]
theorem pval_new {p : PL} (hl : p.1.length = p.2.length) {t : Int} (hm : t ∉ p.1) (v : Int) : pval (p.1 ++ [t], p.2 ++ [v]) t = v := by
  simp only [pval]
  rw [List.idxOf_append, if_neg hm]
  simp [List.getD_eq_getElem?_getD, hl]
theorem mst_len {p q : PL} {t v : Int} (h : mst p t v = some q) (hl : p.1.length = p.2.length) : q.1.length = q.2.length ∧ p.1.length ≤ q.1.length ∧ q.1.length ≤ p.1.length + 1 := by
  unfold mst at h
  split at h
  · split at h
    · split at h
      · injection h with h; subst h; exact ⟨hl, by omega, by omega⟩
      · cases h
    · injection h with h; subst h; simp [hl]
  · split at h
    · injection h with h; subst h; exact ⟨hl, by omega, by omega⟩
    · cases h
theorem mgo_len : ∀ (ts vs : List Int) (p q : PL), mgo p ts vs = some q → p.1.length = p.2.length → q.1.length = q.2.length ∧ p.1.length ≤ q.1.length ∧ q.1.length ≤ p.1.length + ts.length
  | [], vs, p, q, h, hl => by rw [mgo_nil] at h; injection h with h; subst h; exact ⟨hl, by omega, by simp⟩
  | t :: ts, [], p, q, h, hl => by injection h with h; subst h; exact ⟨hl, by omega, by omega⟩
  | t :: ts, v :: vs, p, q, h, hl => by
    change (mst p t v).bind _ = _ at h
    cases hm : mst p t v with
    | none => rw [hm] at h; cases h
    | some r =>
      rw [hm] at h
      have h1 := mst_len hm hl
      have h2 := mgo_len ts vs r q h h1.1
      rw [List.length_cons]
      exact ⟨h2.1, by omega, by omega⟩
/-- What MatchAtom gives. -/
def matB (p : PL) (r : Int) (ts : List Int) (r' : Int) (vs : List Int) : Option PL :=
  if r = r' ∧ ts.length = vs.length ∧ p.1.length = p.2.length then mgo p ts vs else none
end Go.Proofs.YtimlpdcambmcjaaGreat
