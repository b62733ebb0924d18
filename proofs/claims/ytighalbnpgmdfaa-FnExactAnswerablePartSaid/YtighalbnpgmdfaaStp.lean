/- Steps in memory, read, sized, copied and compared by the laws. Conditions: none beyond each theorem's own. -/
import Derived.Test.YtighalbnpgmdfaaEqList
namespace Go.Proofs.Ytighalbnpgmdfaa
open Go.ChangeShapes Go.WideShapes Go.ChangeAt Go.RowKit Go.Sort
set_option linter.unusedVariables false
set_option linter.unusedSimpArgs false

abbrev SL := List (Int × Int)
/-- At the address A lie the steps l, in a block from lo to below hi. -/
def Stps (w : World) (lo hi : Nat) (A : Option Addr) (l : SL) : Prop :=
  l ≠ [] → ∃ b off, A = some ⟨b, off, none⟩ ∧ lo ≤ b ∧ b < hi ∧ ∀ k, k < l.length → w.cell? ⟨b, off + k * 2, none⟩ = some (.int .i64 (l.getD k (0, 0)).1) ∧ w.cell? ⟨b, off + k * 2 + 1, none⟩ = some (.int .i64 (l.getD k (0, 0)).2)
theorem Stps.at_ {w : World} {lo hi : Nat} {A : Option Addr} {l : SL} (h : Stps w lo hi A l) {k : Nat} (hk : k < l.length) {r x : Int} (hf : l.getD k (0, 0) = (r, x)) :
    ∃ b off, A = some ⟨b, off, none⟩ ∧ lo ≤ b ∧ b < hi ∧ w.cell? ⟨b, off + k * 2, none⟩ = some (.int .i64 r) ∧ w.cell? ⟨b, off + k * 2 + 1, none⟩ = some (.int .i64 x) := by
  obtain ⟨b, off, h1, h2, h3, h4⟩ := h (by rintro rfl; simp at hk)
  obtain ⟨h5, h6⟩ := h4 k hk
  rw [hf] at h5 h6
  exact ⟨b, off, h1, h2, h3, h5, h6⟩
theorem Stps.keep {w w' : World} {lo hi : Nat} {A : Option Addr} {l : SL} (h : Stps w lo hi A l) (hk : ∀ b, lo ≤ b → b < hi → w'.heap[b]? = w.heap[b]?) : Stps w' lo hi A l := fun hx => by
  obtain ⟨b, off, h1, h2, h3, h4⟩ := h hx
  exact ⟨b, off, h1, h2, h3, fun k hkx => ⟨(World.cell?_of_block (w := w) (a := ⟨b, off + k * 2, none⟩) (hk b h2 h3)).trans (h4 k hkx).1, (World.cell?_of_block (w := w) (a := ⟨b, off + k * 2 + 1, none⟩) (hk b h2 h3)).trans (h4 k hkx).2⟩⟩
theorem Stps.below {w w' : World} {lo hi N : Nat} {A : Option Addr} {l : SL} (h : Stps w lo hi A l) (hb : Below N w w') (hN : hi ≤ N) : Stps w' lo hi A l :=
  h.keep fun b _ h2 => hb.block b (by omega)
theorem Stps.within {w w' : World} {lo hi l' h' : Nat} {A : Option Addr} {l : SL} (h : Stps w lo hi A l) (hb : Within l' h' w w') (hN : hi ≤ l' ∨ h' ≤ lo) : Stps w' lo hi A l :=
  h.keep fun b _ h2 => hb.block b (by omega)
theorem Stps.mono {w : World} {lo hi lo' hi' : Nat} {A : Option Addr} {l : SL} (h : Stps w lo hi A l) (h1 : lo' ≤ lo) (h2 : hi ≤ hi') : Stps w lo' hi' A l := fun hx => by
  obtain ⟨b, off, e, h3, h4, h5⟩ := h hx
  exact ⟨b, off, e, by omega, by omega, h5⟩
/-- The first n of them. -/
theorem Stps.take {w : World} {lo hi : Nat} {A : Option Addr} {l : SL} (h : Stps w lo hi A l) (n : Nat) : Stps w lo hi A (l.take n) := fun hx => by
  obtain ⟨b, off, e, h3, h4, h5⟩ := h (by rintro rfl; simp at hx)
  refine ⟨b, off, e, h3, h4, fun k hk => ?_⟩
  rw [List.length_take] at hk
  have e : (l.take n).getD k (0, 0) = l.getD k (0, 0) := by simp [List.getD_eq_getElem?_getD, List.getElem?_take, show k < n by omega]
  rw [e]
  exact h5 k (by omega)
def szZ (l : SL) : Int := (l.length : Int)
theorem szZ_nonneg (l : SL) : 0 ≤ szZ l := by unfold szZ; omega
theorem szZ_len {l : SL} (h : szZ l ≤ 1048576) : l.length ≤ 1048576 := by unfold szZ at h; omega
/-- Steps anywhere. -/
def RZ (w : World) (A : Option Addr) (l : SL) : Prop := Stps w 0 w.heap.size A l
theorem RZ.step {w w' : World} {A : Option Addr} {l : SL} (h : RZ w A l) (hb : Below w.heap.size w w') : RZ w' A l :=
  (Stps.below h hb (Nat.le_refl _)).mono (Nat.le_refl _) hb.size
theorem RZ.at_ {w : World} {A : Option Addr} {l : SL} (h : RZ w A l) {k : Nat} (hk : k < l.length) {r x : Int} (hf : l.getD k (0, 0) = (r, x)) :
    ∃ b off, A = some ⟨b, off, none⟩ ∧ b < w.heap.size ∧ w.cell? ⟨b, off + k * 2, none⟩ = some (.int .i64 r) ∧ w.cell? ⟨b, off + k * 2 + 1, none⟩ = some (.int .i64 x) := by
  obtain ⟨b, off, h1, _, h2, h3, h4⟩ := Stps.at_ h hk hf
  exact ⟨b, off, h1, h2, h3, h4⟩
theorem RZ.step_le {w w' : World} {A : Option Addr} {l : SL} (h : RZ w A l) (hb : Below w.heap.size w w') : RZ w' A l := h.step hb
theorem RZ.take {w : World} {A : Option Addr} {l : SL} (h : RZ w A l) (n : Nat) : RZ w A (l.take n) := Stps.take h n
theorem RZ.nil (w : World) (A : Option Addr) : RZ w A [] := fun h => absurd rfl h

section
variable {H : Type} {enc : TypeId × Value → H} {w : World}
set_option maxRecDepth 100000 in
theorem open_steps_at {fuel : Nat} {v : Value} {x : DataW H × List MemPlace} (hf : DataW.trod enc Try.prog w 0 (fun _ => true) true fuel 27 [v] = some x) :
    ∃ (A : Option Addr) (c : Nat) (fs : SL), v = .slice A fs.length c ∧ fs.length ≤ c ∧ c ≤ maxLen ∧ Stps w 0 w.heap.size A fs := by
  have hC : Try.prog.cellsOf 78 = 2 := by kernel_rfl
  rcases Go.Deep.open_slice Try.underlying27 hf with ⟨hv, _⟩ | ⟨a, len, cap, m, n, D, Pl, hv, _, hl, hm, hmm, _, hi⟩
  · injection hv with hv
    exact ⟨none, 0, [], hv, Nat.le_refl _, by unfold maxLen; omega, fun h => absurd rfl h⟩
  · injection hv with hv
    rw [hC] at hi
    simp only [if_true] at hmm
    have each : ∀ i, i < len → ∃ x : Int × Int, w.cell? (a.add (i * 2)) = some (.int .i64 x.1) ∧ w.cell? (a.add (i * 2 + 1)) = some (.int .i64 x.2) := by
      intro i hil
      obtain ⟨cs, hc, ht⟩ := hi i (by omega)
      obtain ⟨_, hcl, hat⟩ := World.cells?_some hc
      obtain ⟨y0, y1, n', _, _, h0, h1⟩ := trod_struct2 Try.underlying78 ht
      have k0 : Try.prog.cellsOf 3 = 1 := by kernel_rfl
      have e0 := hat 0 (by omega)
      have e1 := hat 1 (by omega)
      match cs, hcl with
      | [u0, u1], _ =>
        simp only [k0] at h0 h1
        simp at h0 h1 e0 e1
        obtain ⟨z, hz, _, _⟩ := DataW.trod_int Try.underlying3 h0
        injection hz with hz
        obtain ⟨z1, hz1, _, _⟩ := DataW.trod_int Try.underlying3 h1
        injection hz1 with hz1
        subst hz hz1
        refine ⟨(z, z1), ?_, ?_⟩
        · exact e0
        · rw [Go.Deep.add_add] at e1; exact e1
    obtain ⟨f, hfx⟩ := Go.Deep.choose_lt each
    have hlen : ((List.range len).map f).length = len := by simp
    refine ⟨some a, cap, (List.range len).map f, by rw [hlen]; exact hv, by rw [hlen]; exact hl, hm, fun hne => ?_⟩
    have hpos : 0 < len := by
      rcases Nat.eq_zero_or_pos len with h0 | h0
      · subst h0; simp at hne
      · exact h0
    obtain ⟨b, off, spot⟩ := a
    obtain ⟨hc0, _⟩ := hfx 0 hpos
    have hspot : spot = none := by simpa [Addr.add] using World.cell?_spot hc0
    subst hspot
    have hb := World.block_lt_of_cell? w _ hc0
    refine ⟨b, off, rfl, by omega, by simpa [Addr.add] using hb, fun k hk => ?_⟩
    have hk' : k < len := by rw [hlen] at hk; exact hk
    have e : ∀ j, (⟨b, off, none⟩ : Addr).add j = ⟨b, off + j, none⟩ := fun j => by unfold Addr.add; split <;> simp_all
    obtain ⟨g1, g2⟩ := hfx k hk'
    rw [e] at g1 g2
    have hx : ((List.range len).map f).getD k (0, 0) = f k := by simp [List.getD_eq_getElem?_getD, hk']
    rw [hx]
    exact ⟨g1, g2⟩

set_option maxRecDepth 100000 in
theorem open_stepsT {r : Reach} {base : Nat} {v : Value} {d : DataW H} {p : List MemPlace} (hv : Value.okWide Try.prog w r base 27 v) (h : DataW.Trod enc Try.prog w 0 (fun _ => true) true 27 v d p) :
    ∃ (A : Option Addr) (c : Nat) (fs : SL), v = .slice A fs.length c ∧ fs.length ≤ c ∧ c ≤ maxLen ∧ Stps w 0 w.heap.size A fs := by
  obtain ⟨fuel, hf⟩ := h
  obtain ⟨A, l, c, rfl⟩ := okWide_slice Try.underlying27 hv
  exact open_steps_at hf

end

theorem szStepS_any (A : Option Addr) (c : Nat) (l : SL) (left : Int) (hc : l.length ≤ 9223372036854775807) (h0 : 0 ≤ left) (h1 : left ≤ 1048576) (w : World) :
    Calls Try.prog 13 #[.slice A l.length c, .int .i64 left] w fun e w' => e = .returned (.int .i64 (if left - szZ l < 0 then -1 else left - szZ l)) ∧ Below w.heap.size w w' := by
  have hc' : (l.length : Int) ≤ 9223372036854775807 := by omega
  unfold szZ
  by_cases hb : left - (l.length : Int) < 0
  · rw [if_pos hb]
    go_enter Try.func13, Try.ntmps13
    go_wp2
    go_ret
    exact ⟨rfl, Below.refl _ _⟩
  · rw [if_neg hb]
    have hb' : (l.length : Int) ≤ left := by omega
    go_enter Try.func13, Try.ntmps13
    go_wp2
    go_ret
    exact ⟨rfl, Below.refl _ _⟩

set_option maxRecDepth 100000 in
set_option maxHeartbeats 400000 in
theorem toStep_any (r x : Int) (w : World) :
    Calls Try.prog 55 #[.agg #[.int .i64 r, .int .i64 x]] w fun e w' => e = .returned (.agg #[.int .i64 r, .int .i64 x]) ∧ Below w.heap.size w w' := by
  go_enter Try.func55, Try.ntmps55
  go_wp2
  refine bodyPost_ret (v := .agg #[.int .i64 r, .int .i64 x]) (by simp [results, Try.results55, go_sem]) rfl ⟨rfl, ?_⟩
  repeat (refine Below.setCell ?_ (by (try simp) <;> omega) _)
  first
    | exact step (step (below_alloc _ _) (below_alloc _ _)) (below_alloc _ _)
    | exact step (below_alloc _ _) (below_alloc _ _)
    | exact below_alloc _ _

set_option maxRecDepth 100000 in
theorem step_info : (Try.prog.info? 68).map (fun i => (i.zero, i.size, i.bytes)) = some (some (.agg #[.int .i64 0, .int .i64 0]), 2, 16) := by kernel_rfl

/-- Block g begins with the first k of the steps l. -/
def OwnZ (w : World) (lo hi g m k : Nat) (l : SL) : Prop :=
  lo ≤ g ∧ g < hi ∧ ∃ F : Nat → Value, w.rowIs g 68 m F ∧ ∀ j, j < k → F (j * 2) = .int .i64 (l.getD j (0, 0)).1 ∧ F (j * 2 + 1) = .int .i64 (l.getD j (0, 0)).2
theorem OwnZ.stps {w : World} {lo hi g m : Nat} {l : SL} (h : OwnZ w lo hi g m l.length l) (hm : l.length * 2 ≤ m) : Stps w lo hi (some ⟨g, 0, none⟩) l := fun _ => by
  obtain ⟨h1, h2, F, hr, he⟩ := h
  refine ⟨g, 0, rfl, h1, h2, fun k hk => ?_⟩
  obtain ⟨e0, e1⟩ := he k hk
  exact ⟨by rw [Nat.zero_add, World.rowIs.cell hr (show k * 2 < m by omega), e0], by rw [Nat.zero_add, World.rowIs.cell hr (show k * 2 + 1 < m by omega), e1]⟩
theorem OwnZ.rs {w : World} {lo g m : Nat} {l : SL} (h : OwnZ w lo w.heap.size g m l.length l) (hm : l.length * 2 ≤ m) : RZ w (some ⟨g, 0, none⟩) l := (h.stps hm).mono (Nat.zero_le _) (Nat.le_refl _)
theorem OwnZ.keep {w w' : World} {lo hi g m k : Nat} {l : SL} (h : OwnZ w lo hi g m k l) (hb : w'.heap[g]? = w.heap[g]?) : OwnZ w' lo hi g m k l := by
  obtain ⟨h1, h2, F, hr, he⟩ := h
  exact ⟨h1, h2, F, World.rowIs.of_block hr hb, he⟩
/-- One step more is stored. -/
theorem OwnZ.set {wr u : World} {lo hi hi' g m k : Nat} {l : SL} (h : OwnZ wr lo hi g m k l) (hh : hi ≤ hi') (hkm : k * 2 + 1 < m) {r x : Int} (hf : l.getD k (0, 0) = (r, x)) (hb : u.heap[g]? = wr.heap[g]?) :
    OwnZ ((u.setCell ⟨g, k * 2, none⟩ (.int .i64 r)).setCell ⟨g, k * 2 + 1, none⟩ (.int .i64 x)) lo hi' g m (k + 1) l := by
  obtain ⟨h1, h2, F, hr, he⟩ := h
  have hr2 : u.rowIs g 68 m F := World.rowIs.of_block hr hb
  refine ⟨h1, by omega, _, (hr2.set (k * 2) _).set (k * 2 + 1) _, fun j hj => ?_⟩
  by_cases e : j = k
  · subst e
    have t1 : ¬ (j * 2 = j * 2 + 1) := by omega
    simp only [if_pos, t1, if_false, hf]
    exact ⟨trivial, trivial⟩
  · have t1 : ¬ (j * 2 = k * 2 + 1) := by omega
    have t2 : ¬ (j * 2 = k * 2) := by omega
    have t3 : ¬ (j * 2 + 1 = k * 2 + 1) := by omega
    have t4 : ¬ (j * 2 + 1 = k * 2) := by omega
    simp only [t1, t2, t3, t4, if_false]
    exact he j (by omega)

theorem makeSteps (n : Nat) (hn : n ≤ 1048576) :
    ∃ C : Array Value, (∀ i, i < n * 2 → C[i]? = some (.int .i64 0)) ∧ C.size = n * 2 ∧ ∀ W : World, (Instr.makeSlice 39 (.int .i64 (n : Int)) (.int .i64 (n : Int))).run Try.prog W = .ok (.slice (some ⟨W.heap.size, 0, none⟩) n n) (W.alloc (.cells C 68)) := by
  obtain ⟨i0, hi, hz0, hz1, hz2⟩ := info_parts step_info
  refine ⟨madeCells #[.int .i64 0, .int .i64 0] (n * 2), fun i hin => ?_, size_madeCells _ _, fun W => ?_⟩
  · rcases Nat.mod_two_eq_zero_or_one i with h | h
    · simp [madeCells, hin, h]
    · simp [madeCells, hin, h]
  · have h := run_make (P := Try.prog) W 39 68 i0 (.agg #[.int .i64 0, .int .i64 0]) Try.underlying39 hi hz0 .i64 .i64 (n : Int) (n : Int) (by omega) (by omega) (by rw [hz2]; omega) (by omega)
    rw [hz1, show ((n : Int)).toNat = n by omega] at h
    exact h

set_option maxHeartbeats 1000000 in
set_option maxRecDepth 100000 in
theorem toStepS_any (A : Option Addr) (c : Nat) (l : SL) (hl : l.length ≤ 1048576) (w : World) (h : RZ w A l) :
    Calls Try.prog 18 #[.slice A l.length c] w fun e w' => e = .returned (.slice (some ⟨w.heap.size, 0, none⟩) l.length l.length) ∧ OwnZ w' w.heap.size w'.heap.size w.heap.size (l.length * 2) l.length l ∧ Below w.heap.size w w' ∧ w.heap.size < w'.heap.size := by
  obtain ⟨C, hC, hCs, hmk⟩ := makeSteps l.length hl
  have HI := Lib.hid h
  have HC := Lib.hid hC
  have HS := Lib.hid hCs
  clear h hC hCs
  have hl' : (l.length : Int) ≤ 1048576 := by omega
  go_enter Try.func18, Try.ntmps18
  go_wp2
  go_loopw [4] (fun i wr => ∃ k : Nat, k ≤ l.length ∧ i = .int .i64 k ∧ OwnZ wr w.heap.size wr.heap.size w.heap.size (l.length * 2) k l ∧ Below w.heap.size w wr) (fun i _ => l.length - (intOf i).toNat)
  case atStart =>
    refine ⟨0, by omega, rfl, ⟨Nat.le_refl _, by simp, fun i => .int .i64 0, ⟨C, by rw [heap_alloc_new], HS.out, fun i hi => HC.out i hi⟩, fun j hj => by omega⟩, below_alloc _ _⟩
  case round =>
    obtain ⟨k, hk, rfl, ho, hb⟩ := hrel
    have HO := Lib.hid ho
    clear ho
    by_cases hlt : k < l.length
    · generalize hf : l.getD k (0, 0) = f
      obtain ⟨r, x⟩ := f
      have HF := Lib.hid hf
      obtain ⟨b, off, rfl, _, e0, e1⟩ := (HI.out.step hb).at_ hlt hf
      clear hf
      go_wp2_with fail
      refine (toStep_any r x _).mono ?_
      rintro e u ⟨rfl, d⟩
      have hg : w.heap.size < wr.heap.size := HO.out.2.1
      obtain ⟨F, hrow, _⟩ := HO.out.2.2
      have hrow2 : u.rowIs w.heap.size 68 (l.length * 2) F := World.rowIs.of_block hrow (d.block _ hg)
      have q0 := hrow2.cell (show k * 2 < l.length * 2 by omega)
      have q1 := hrow2.cell (show k * 2 + 1 < l.length * 2 by omega)
      have q2 := hrow2.frozen (k * 2)
      have q3 := hrow2.frozen (k * 2 + 1)
      have hsz := d.size
      clear hrow hrow2
      go_wp2
      go_roundw
      case rel =>
        refine ⟨k + 1, by omega, by go_num, OwnZ.set HO.out (by rw [size2]; exact hsz) (by omega) HF.out (d.block _ hg), ?_⟩
        exact ((hb.trans (d.mono hb.size)).setCell (Nat.le_refl _) _).setCell (Nat.le_refl _) _
      case measure => simp [intOf]; omega
    · obtain rfl : k = l.length := by omega
      go_wp2
      go_ret
      exact ⟨rfl, HO.out, hb, HO.out.2.1⟩

theorem toStepS_r (A : Option Addr) (c : Nat) (l : SL) (hl : l.length ≤ 1048576) (w : World) (h : RZ w A l) :
    Calls Try.prog 18 #[.slice A l.length c] w fun e w' => e = .returned (.slice (some ⟨w.heap.size, 0, none⟩) l.length l.length) ∧ RZ w' (some ⟨w.heap.size, 0, none⟩) l ∧ Below w.heap.size w w' ∧ w.heap.size < w'.heap.size :=
  (toStepS_any A c l hl w h).mono fun _ _ ⟨a, b, c, d⟩ => ⟨a, b.rs (Nat.le_refl _), c, d⟩

set_option maxRecDepth 100000 in
set_option maxHeartbeats 400000 in
theorem eqStep_any (r x : Int) (w : World) :
    Calls Try.prog 62 #[.agg #[.int .i64 r, .int .i64 x], .agg #[.int .i64 r, .int .i64 x]] w fun e w' => e = .returned (.bool true) ∧ Below w.heap.size w w' := by
  go_enter Try.func62, Try.ntmps62
  go_wp2
  go_ret
  exact ⟨rfl, by first | exact Below.refl _ _ | exact (Below.refl _ _).alloc (Nat.le_refl _) _ | exact ((Below.refl _ _).alloc (Nat.le_refl _) _).alloc (by simp) _⟩

set_option maxRecDepth 100000 in
set_option maxHeartbeats 1000000 in
theorem eqStepS_r (A A' : Option Addr) (c c' : Nat) (l : SL) (hl : l.length ≤ 1048576) (w : World) (h : RZ w A l) (h' : RZ w A' l) :
    Calls Try.prog 23 #[.slice A l.length c, .slice A' l.length c'] w fun e w' => e = .returned (.bool true) ∧ Below w.heap.size w w' := by
  have hl' : (l.length : Int) ≤ 1048576 := by omega
  have HI := Lib.hid h
  have HJ := Lib.hid h'
  clear h h'
  go_enter Try.func23, Try.ntmps23
  go_wp2
  go_loopw [5] (fun i wr => ∃ k : Nat, k ≤ l.length ∧ i = .int .i64 k ∧ Below w.heap.size w wr) (fun i _ => l.length - (intOf i).toNat)
  case atStart => exact ⟨0, by omega, rfl, Below.refl _ _⟩
  case round =>
    obtain ⟨k, hk, rfl, hb⟩ := hrel
    by_cases hlt : k < l.length
    · generalize hf : l.getD k (0, 0) = f
      obtain ⟨r, x⟩ := f
      obtain ⟨b, off, rfl, n1, e0, e1⟩ := (HI.out.step hb).at_ hlt hf
      obtain ⟨b', off', rfl, n2, e0', e1'⟩ := (HJ.out.step hb).at_ hlt hf
      clear hf
      have hk0 : (0 : Int) ≤ (k : Int) := by omega
      have hk1 : (k : Int) < (l.length : Int) := by omega
      go_wp2
      go_region_held3 (fun w' => w'.cell? ⟨b, off + k * 2, none⟩ = some (.int .i64 r) ∧ w'.cell? ⟨b, off + k * 2 + 1, none⟩ = some (.int .i64 x) ∧ w'.cell? ⟨b', off' + k * 2, none⟩ = some (.int .i64 r) ∧ w'.cell? ⟨b', off' + k * 2 + 1, none⟩ = some (.int .i64 x))
        (first
          | go_keep
          | (go_split_ands; refine ⟨?_, ?_, ?_, ?_⟩ <;> (rw [d.cell (by (try simp) <;> omega)]; assumption)))
        (first
          | (go_at_call 62; refine (eqStep_any r x _).mono ?_; rintro e u ⟨rfl, d⟩))
      have hb2 : Below w.heap.size w u := by first | exact step hb d | exact step hb (und d)
      clear d
      go_wp2
      go_roundw
      case rel => exact ⟨k + 1, by omega, by go_num, by first | exact hb2 | exact hb2.drew⟩
      case measure => simp [intOf]; omega
    · obtain rfl : k = l.length := by omega
      go_wp2
      go_ret
      exact ⟨rfl, hb⟩
end Go.Proofs.Ytighalbnpgmdfaa
