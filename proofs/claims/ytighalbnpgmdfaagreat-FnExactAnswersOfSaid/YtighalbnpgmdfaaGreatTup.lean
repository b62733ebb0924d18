/- Lists of lists of numbers in memory: their size, their copy, their comparison by the law. Conditions: none beyond each theorem's own. -/
import Derived.Test.YtighalbnpgmdfaaGreatEqList
namespace Go.Proofs.YtighalbnpgmdfaaGreat
open Go.ChangeShapes Go.WideShapes Go.ChangeAt Go.RowKit
set_option linter.unusedVariables false
set_option linter.unusedSimpArgs false

abbrev TL := List (List Int)
/-- At the address A lie the lists ts, all of it in blocks from lo to below hi. -/
def Tups (w : World) (lo hi : Nat) (A : Option Addr) (ts : TL) : Prop :=
  ts ≠ [] → ∃ b off, A = some ⟨b, off, none⟩ ∧ lo ≤ b ∧ b < hi ∧ ∀ k, k < ts.length → ∃ B c, w.cell? ⟨b, off + k, none⟩ = some (.slice B (ts.getD k []).length c) ∧ (ts.getD k []).length ≤ c ∧ c ≤ maxLen ∧ Ints w lo hi B (ts.getD k [])
theorem Tups.keep {w w' : World} {lo hi : Nat} {A : Option Addr} {ts : TL} (h : Tups w lo hi A ts) (hk : ∀ b, lo ≤ b → b < hi → w'.heap[b]? = w.heap[b]?) : Tups w' lo hi A ts := fun hx => by
  obtain ⟨b, off, h1, h2, h3, h4⟩ := h hx
  refine ⟨b, off, h1, h2, h3, fun k hkx => ?_⟩
  obtain ⟨B, c, h6, h7, h8, h9⟩ := h4 k hkx
  exact ⟨B, c, (World.cell?_of_block (w := w) (a := ⟨b, off + k, none⟩) (hk b h2 h3)).trans h6, h7, h8, h9.keep hk⟩
theorem Tups.mono {w : World} {lo hi lo' hi' : Nat} {A : Option Addr} {ts : TL} (h : Tups w lo hi A ts) (h1 : lo' ≤ lo) (h2 : hi ≤ hi') : Tups w lo' hi' A ts := fun hx => by
  obtain ⟨b, off, e, h3, h4, h5⟩ := h hx
  refine ⟨b, off, e, by omega, by omega, fun k hk => ?_⟩
  obtain ⟨B, c, g2, g3, g4, g5⟩ := h5 k hk
  exact ⟨B, c, g2, g3, g4, g5.mono h1 h2⟩
/-- At A lie the lists ts. -/
def RT (w : World) (A : Option Addr) (ts : TL) : Prop := Tups w 0 w.heap.size A ts
theorem RT.step {w w' : World} {A : Option Addr} {ts : TL} (h : RT w A ts) (b : Below w.heap.size w w') : RT w' A ts := (Tups.keep h fun k _ h2 => b.block k h2).mono (Nat.le_refl _) b.size
theorem RT.at_ {w : World} {A : Option Addr} {ts : TL} (h : RT w A ts) {k : Nat} (hk : k < ts.length) {xs : List Int} (hf : ts.getD k [] = xs) :
    ∃ b off B c, A = some ⟨b, off, none⟩ ∧ b < w.heap.size ∧ w.cell? ⟨b, off + k, none⟩ = some (.slice B xs.length c) ∧ xs.length ≤ c ∧ c ≤ maxLen ∧ RI w B xs := by
  obtain ⟨b, off, h1, h2, h3, h4⟩ := h (by rintro rfl; simp at hk)
  obtain ⟨B, c, h6, h7, h8, h9⟩ := h4 k hk
  subst hf
  exact ⟨b, off, B, c, h1, h3, h6, h7, h8, h9⟩

section
variable {H : Type} {enc : TypeId × Value → H} {w : World}
set_option maxRecDepth 100000 in
theorem open_tupsT {r : Reach} {base : Nat} {v : Value} {d : DataW H} {p : List MemPlace} (hv : Value.okWide Tryz.prog w r base 29 v) (h : DataW.Trod enc Tryz.prog w 0 (fun _ => true) true 29 v d p) :
    ∃ (A : Option Addr) (c : Nat) (ts : TL), v = .slice A ts.length c ∧ ts.length ≤ c ∧ c ≤ maxLen ∧ RT w A ts := by
  obtain ⟨fuel, hf⟩ := h
  obtain ⟨A0, l0, c0, rfl⟩ := okWide_slice Tryz.underlying29 hv
  have hC : Tryz.prog.cellsOf 22 = 1 := by kernel_rfl
  rcases Go.Deep.open_slice Tryz.underlying29 hf with ⟨hv, _⟩ | ⟨a, len, cap, m, n, D, Pl, hv, _, hl, hm, hmm, _, hi⟩
  · injection hv with hv
    exact ⟨none, 0, [], hv, Nat.le_refl _, by unfold maxLen; omega, fun h => absurd rfl h⟩
  · injection hv with hv
    rw [hC] at hi
    simp only [if_true] at hmm
    have each : ∀ i, i < len → ∃ x : List Int, ∃ B c', w.cell? (a.add (i * 1)) = some (.slice B x.length c') ∧ x.length ≤ c' ∧ c' ≤ maxLen ∧ Ints w 0 w.heap.size B x := by
      intro i hil
      obtain ⟨cs, hc, ht⟩ := hi i (by omega)
      obtain ⟨_, hcl, hat⟩ := World.cells?_some hc
      have k1 : Tryz.prog.cellsOf 3 = 1 := by kernel_rfl
      have e0 := hat 0 (by omega)
      match cs, hcl with
      | [u0], _ =>
        obtain ⟨B, c', xs, hv1, hl, hm, hii⟩ := open_nums (v := u0) Tryz.underlying22 Tryz.underlying3 k1 ht
        subst hv1
        refine ⟨xs, B, c', ?_, hl, hm, hii⟩
        simpa [Go.Deep.add_add] using e0
    obtain ⟨f, hfx⟩ := Go.Deep.choose_lt each
    have hlen : ((List.range len).map f).length = len := by simp
    refine ⟨some a, cap, (List.range len).map f, by rw [hlen]; exact hv, by rw [hlen]; exact hl, hm, fun hne => ?_⟩
    have hpos : 0 < len := by
      rcases Nat.eq_zero_or_pos len with h0 | h0
      · subst h0; simp at hne
      · exact h0
    obtain ⟨b, off, spot⟩ := a
    obtain ⟨_, _, hc0, _⟩ := hfx 0 hpos
    have hspot : spot = none := by simpa [Addr.add] using World.cell?_spot hc0
    subst hspot
    have hb := World.block_lt_of_cell? w _ hc0
    refine ⟨b, off, rfl, by omega, by simpa [Addr.add] using hb, fun k hk => ?_⟩
    have hk' : k < len := by rw [hlen] at hk; exact hk
    have e : ∀ j, (⟨b, off, none⟩ : Addr).add j = ⟨b, off + j, none⟩ := fun j => by unfold Addr.add; split <;> simp_all
    obtain ⟨B, c', g2, g3, g4, g5⟩ := hfx k hk'
    rw [e, Nat.mul_one] at g2
    have hx : ((List.range len).map f).getD k [] = f k := by simp [List.getD_eq_getElem?_getD, hk']
    rw [hx]
    exact ⟨B, c', g2, g3, g4, g5⟩
end

def sumT (l : TL) : Nat := (l.map fun f => f.length).sum
/-- How many values a list of lists holds, each list counted, too. -/
def szT (l : TL) : Int := (l.length : Int) + (sumT l : Int)
theorem szT_nonneg (l : TL) : 0 ≤ szT l := by unfold szT; omega
theorem szT_len {l : TL} (h : szT l ≤ 1048576) : l.length ≤ 1048576 := by unfold szT at h; omega
theorem sumT_take (l : TL) (k : Nat) (hk : k < l.length) : sumT (l.take (k + 1)) = sumT (l.take k) + (l.getD k []).length := by
  unfold sumT
  rw [List.take_succ_eq_append_getElem hk, List.map_append, List.sum_append]
  simp [List.getD_eq_getElem?_getD, hk]
theorem sumT_le (l : TL) (k : Nat) : sumT (l.take k) ≤ sumT l := by
  have : sumT l = sumT (l.take k) + sumT (l.drop k) := by
    unfold sumT
    rw [← List.sum_append, ← List.map_append, List.take_append_drop]
  omega
theorem szT_elem {l : TL} (h : szT l ≤ 1048576) {k : Nat} (hk : k < l.length) : (l.getD k []).length ≤ 1048576 := by
  have h1 := sumT_take l k hk
  have h2 := sumT_le l (k + 1)
  unfold szT at h
  omega

set_option maxRecDepth 100000 in
theorem ints_info : (Tryz.prog.info? 22).map (fun i => (i.zero, i.size, i.bytes)) = some (some (.slice none 0 0), 1, 24) := by kernel_rfl

/-- Block g begins with the first k of the lists ts, their numbers each in a block of its own, all from lo to below hi. -/
def OwnT (w : World) (lo hi g m k : Nat) (ts : TL) : Prop :=
  lo ≤ g ∧ g < hi ∧ ∃ (F : Nat → Value) (bs : Nat → Nat), w.rowIs g 22 m F ∧ (∀ j, j < k → OwnV w lo hi (F j) (bs j) (ts.getD j [])) ∧
    (∀ i j, i < j → j < k → 0 < (ts.getD i []).length → 0 < (ts.getD j []).length → bs i ≠ bs j)

theorem OwnT.tups {w : World} {lo hi g m : Nat} {ts : TL} (h : OwnT w lo hi g m ts.length ts) (hm : ts.length ≤ m) : Tups w lo hi (some ⟨g, 0, none⟩) ts := fun _ => by
  obtain ⟨h1, h2, F, bs, hr, he, _⟩ := h
  refine ⟨g, 0, rfl, h1, h2, fun k hk => ?_⟩
  have e1 := he k hk
  obtain ⟨A, c, hv, _⟩ := id e1
  rw [hv] at e1
  obtain ⟨_, hc, hcm, hi⟩ := e1.ints
  refine ⟨A, c, ?_, hc, hcm, hi⟩
  rw [Nat.zero_add, World.rowIs.cell hr (show k < m by omega), hv]
theorem OwnT.rt {w : World} {lo g m : Nat} {ts : TL} (h : OwnT w lo w.heap.size g m ts.length ts) (hm : ts.length ≤ m) : RT w (some ⟨g, 0, none⟩) ts := (h.tups hm).mono (Nat.zero_le _) (Nat.le_refl _)

/-- One list more is stored. -/
theorem ownT_step {wr u : World} {lo g m k : Nat} {ts : TL} (h : OwnT wr lo wr.heap.size g m k ts) (hkm : k < m) {xs : List Int} (hf : ts.getD k [] = xs) (hb : Below wr.heap.size wr u)
    {v : Value} {q : Nat} (hv : OwnV u lo u.heap.size v q xs) (hq : 0 < xs.length → wr.heap.size ≤ q) :
    OwnT (u.setCell ⟨g, k, none⟩ v) lo (u.setCell ⟨g, k, none⟩ v).heap.size g m (k + 1) ts := by
  rw [set_size]
  obtain ⟨h1, h2, F, bs, hr, he, hd⟩ := h
  have hs := hb.size
  have hr2 : u.rowIs g 22 m F := World.rowIs.of_block hr (hb.block g h2)
  have far : ∀ b, b ≠ g → (u.setCell ⟨g, k, none⟩ v).heap[b]? = u.heap[b]? := fun b hbg => Below.heap_setCell _ ⟨g, k, none⟩ _ b hbg
  have ne : ∀ b, (∃ c, u.heap[b]? = some (.cells c 3 (0, 0))) → b ≠ g := by
    rintro b ⟨c, hc⟩ rfl
    obtain ⟨c2, hc2, _⟩ := hr2
    rw [hc] at hc2
    injection hc2 with hc2
    injection hc2 with _ ht
    exact absurd ht (by decide)
  have hlt : ∀ j, j < k → 0 < (ts.getD j []).length → bs j < wr.heap.size := fun j hj hp => by
    obtain ⟨A, c, _, _, _, hx⟩ := he j hj
    exact (hx hp).2.2.1
  refine ⟨h1, by omega, _, fun j => if j = k then q else bs j, hr2.set k _, fun j hj => ?_, fun i j hij hj hi0 hj0 => ?_⟩
  · by_cases e : j = k
    · subst e
      simp only [if_pos, hf]
      exact hv.keep fun _ _ hc => far _ (ne _ hc)
    · simp only [e, if_false]
      have e2 : OwnV u lo wr.heap.size (F j) (bs j) (ts.getD j []) := (he j (by omega)).keep fun _ a _ => hb.block _ a
      exact (e2.mono (Nat.le_refl _) hs).keep fun _ _ hc => far _ (ne _ hc)
  · by_cases e : j = k
    · subst e
      have e' : i ≠ j := by omega
      simp only [if_pos, e', if_false]
      have := hlt i hij hi0
      rw [hf] at hj0
      have := hq hj0
      omega
    · have e' : i ≠ k := by omega
      simp only [e, e', if_false]
      exact hd i j hij (by omega) hi0 hj0

theorem makeTups (n : Nat) (hn : n ≤ 1048576) :
    ∃ C : Array Value, (∀ i, i < n → C[i]? = some (.slice none 0 0)) ∧ C.size = n ∧ ∀ W : World, (Instr.makeSlice 29 (.int .i64 (n : Int)) (.int .i64 (n : Int))).run Tryz.prog W = .ok (.slice (some ⟨W.heap.size, 0, none⟩) n n) (W.alloc (.cells C 22)) := by
  obtain ⟨i0, hi, hz0, hz1, hz2⟩ := info_parts ints_info
  refine ⟨madeCells #[.slice none 0 0] (n * 1), fun i hin => ?_, by rw [size_madeCells]; omega, fun W => ?_⟩
  · simp [madeCells, hin, Nat.mod_one]
  · have h := run_make (P := Tryz.prog) W 29 22 i0 (.slice none 0 0) Tryz.underlying29 hi hz0 .i64 .i64 (n : Int) (n : Int) (by omega) (by omega) (by rw [hz2]; omega) (by omega)
    rw [hz1, show ((n : Int)).toNat = n by omega] at h
    exact h

theorem ownT_new (w : World) (n : Nat) (C : Array Value) (hC : ∀ i, i < n → C[i]? = some (.slice none 0 0)) (hS : C.size = n) (ts : TL) :
    OwnT (w.alloc (.cells C 22)) w.heap.size (w.alloc (.cells C 22)).heap.size w.heap.size n 0 ts :=
  ⟨Nat.le_refl _, by simp, fun _ => .slice none 0 0, fun _ => 0, ⟨C, by rw [heap_alloc_new], hS, fun i hi => hC i hi⟩, fun j hj => by omega, fun i j _ hj => by omega⟩

set_option maxRecDepth 100000 in
set_option maxHeartbeats 1000000 in
theorem eqIntSS_r (A A' : Option Addr) (c c' : Nat) (ts : TL) (hz : szT ts ≤ 1048576) (w : World) (h : RT w A ts) (h' : RT w A' ts) :
    Calls Tryz.prog 12 #[.slice A ts.length c, .slice A' ts.length c'] w fun e w' => e = .returned (.bool true) ∧ Below w.heap.size w w' := by
  have hl := szT_len hz
  have hl' : (ts.length : Int) ≤ 1048576 := by omega
  have HI := Lib.hid h
  have HJ := Lib.hid h'
  clear h h'
  go_enter Tryz.func12, Tryz.ntmps12
  go_wp2
  go_loopw [5] (fun i wr => ∃ k : Nat, k ≤ ts.length ∧ i = .int .i64 k ∧ Below w.heap.size w wr) (fun i _ => ts.length - (intOf i).toNat)
  case atStart => exact ⟨0, by omega, rfl, Below.refl _ _⟩
  case round =>
    obtain ⟨k, hk, rfl, hb⟩ := hrel
    by_cases hlt : k < ts.length
    · generalize hf : ts.getD k [] = xs
      have hxl : xs.length ≤ 1048576 := by have := szT_elem hz hlt; rw [hf] at this; exact this
      obtain ⟨b, off, B, c2, rfl, n1, e1, _, _, hI⟩ := (HI.out.step hb).at_ hlt hf
      obtain ⟨b', off', B', c2', rfl, n2, e1', _, _, hI'⟩ := (HJ.out.step hb).at_ hlt hf
      have HX := Lib.hid hI
      have HX' := Lib.hid hI'
      clear hf hI hI'
      have hk0 : (0 : Int) ≤ (k : Int) := by omega
      have hk1 : (k : Int) < (ts.length : Int) := by omega
      go_wp2
      go_region_held3 (fun w' => w'.cell? ⟨b, off + k, none⟩ = some (.slice B xs.length c2) ∧ w'.cell? ⟨b', off' + k, none⟩ = some (.slice B' xs.length c2'))
        (first
          | go_keep
          | (go_split_ands; refine ⟨?_, ?_⟩ <;> (rw [d.cell (by (try simp) <;> omega)]; assumption)))
        (first
          | (go_at_call 13; refine (eqIntS_r B B' c2 c2' xs hxl _ (by first | exact HX.out | exact HX.out.step (below_drew _)) (by first | exact HX'.out | exact HX'.out.step (below_drew _))).mono ?_; rintro e u ⟨rfl, d⟩))
      have hb2 : Below w.heap.size w u := by first | exact step hb d | exact step hb (und d)
      clear d
      go_wp2
      go_roundw
      case rel => exact ⟨k + 1, by omega, by go_num, by first | exact hb2 | exact hb2.drew⟩
      case measure => simp [intOf]; omega
    · obtain rfl : k = ts.length := by omega
      go_wp2
      go_ret
      exact ⟨rfl, hb⟩
end Go.Proofs.YtighalbnpgmdfaaGreat
