/- Lists of queries in memory: where their parts lie, and how they are read as arguments. Conditions: none beyond each theorem's own. Lists of queries copied and compared by the laws. Conditions: none beyond each theorem's own. -/
import Derived.Test.YtimlpdcambmcjaaGreatS20
import Derived.Lib.QuietBelow

namespace Go.Proofs.YtimlpdcambmcjaaGreat
open Go.ChangeShapes Go.WideShapes Go.ChangeAt Go.RowKit Go.Sort
set_option linter.unusedVariables false
set_option linter.unusedSimpArgs false

/-- A query: its head, its atoms. -/
abbrev Qr := List Int × FL
abbrev UL := List Qr
abbrev noU : Qr := ([], [])

/-- At the address A lie the queries us, all of it in blocks from lo to below hi. -/
def Uns (w : World) (lo hi : Nat) (A : Option Addr) (us : UL) : Prop :=
  us ≠ [] → ∃ b off, A = some ⟨b, off, none⟩ ∧ lo ≤ b ∧ b < hi ∧ ∀ k, k < us.length → ∃ H ch B c, w.cell? ⟨b, off + k * 2, none⟩ = some (.slice H (us.getD k noU).1.length ch) ∧
    w.cell? ⟨b, off + k * 2 + 1, none⟩ = some (.slice B (us.getD k noU).2.length c) ∧
    (us.getD k noU).1.length ≤ ch ∧ ch ≤ maxLen ∧ (us.getD k noU).2.length ≤ c ∧ c ≤ maxLen ∧ Ints w lo hi H (us.getD k noU).1 ∧ Facts w lo hi B (us.getD k noU).2
theorem Uns.at_ {w : World} {lo hi : Nat} {A : Option Addr} {us : UL} (h : Uns w lo hi A us) {k : Nat} (hk : k < us.length) {hs : List Int} {l : FL} (hf : us.getD k noU = (hs, l)) :
    ∃ b off H ch B c, A = some ⟨b, off, none⟩ ∧ lo ≤ b ∧ b < hi ∧ w.cell? ⟨b, off + k * 2, none⟩ = some (.slice H hs.length ch) ∧
    w.cell? ⟨b, off + k * 2 + 1, none⟩ = some (.slice B l.length c) ∧ hs.length ≤ ch ∧ ch ≤ maxLen ∧ l.length ≤ c ∧ c ≤ maxLen ∧ Ints w lo hi H hs ∧ Facts w lo hi B l := by
  obtain ⟨b, off, h1, h2, h3, h4⟩ := h (by rintro rfl; simp at hk)
  obtain ⟨H, ch, B, c, h5, h6, h7, h8, h9, h10, h11, h12⟩ := h4 k hk
  rw [hf] at h5 h6 h7 h9 h11 h12
  exact ⟨b, off, H, ch, B, c, h1, h2, h3, h5, h6, h7, h8, h9, h10, h11, h12⟩
theorem Uns.keep {w w' : World} {lo hi : Nat} {A : Option Addr} {us : UL} (h : Uns w lo hi A us) (hk : ∀ b, lo ≤ b → b < hi → w'.heap[b]? = w.heap[b]?) : Uns w' lo hi A us := fun hx => by
  obtain ⟨b, off, h1, h2, h3, h4⟩ := h hx
  refine ⟨b, off, h1, h2, h3, fun k hkx => ?_⟩
  obtain ⟨H, ch, B, c, h5, h6, h7, h8, h9, h10, h11, h12⟩ := h4 k hkx
  exact ⟨H, ch, B, c, (World.cell?_of_block (w := w) (a := ⟨b, off + k * 2, none⟩) (hk b h2 h3)).trans h5, (World.cell?_of_block (w := w) (a := ⟨b, off + k * 2 + 1, none⟩) (hk b h2 h3)).trans h6, h7, h8, h9, h10, h11.keep hk, h12.keep hk⟩
theorem Uns.below {w w' : World} {lo hi N : Nat} {A : Option Addr} {us : UL} (h : Uns w lo hi A us) (hb : Below N w w') (hN : hi ≤ N) : Uns w' lo hi A us :=
  h.keep fun b _ h2 => hb.block b (by omega)
theorem Uns.mono {w : World} {lo hi lo' hi' : Nat} {A : Option Addr} {us : UL} (h : Uns w lo hi A us) (h1 : lo' ≤ lo) (h2 : hi ≤ hi') : Uns w lo' hi' A us := fun hx => by
  obtain ⟨b, off, e, h3, h4, h5⟩ := h hx
  refine ⟨b, off, e, by omega, by omega, fun k hk => ?_⟩
  obtain ⟨H, ch, B, c, g1, g2, g3, g4, g5, g6, g7, g8⟩ := h5 k hk
  exact ⟨H, ch, B, c, g1, g2, g3, g4, g5, g6, g7.mono h1 h2, g8.mono h1 h2⟩
/-- At A lie the queries us. -/
def RU (w : World) (A : Option Addr) (us : UL) : Prop := Uns w 0 w.heap.size A us
theorem RU.step {w w' : World} {A : Option Addr} {us : UL} (h : RU w A us) (b : Below w.heap.size w w') : RU w' A us := (Uns.below h b (Nat.le_refl _)).mono (Nat.le_refl _) b.size
theorem RU.at_ {w : World} {A : Option Addr} {us : UL} (h : RU w A us) {k : Nat} (hk : k < us.length) {hs : List Int} {l : FL} (hf : us.getD k noU = (hs, l)) :
    ∃ b off H ch B c, A = some ⟨b, off, none⟩ ∧ b < w.heap.size ∧ w.cell? ⟨b, off + k * 2, none⟩ = some (.slice H hs.length ch) ∧
    w.cell? ⟨b, off + k * 2 + 1, none⟩ = some (.slice B l.length c) ∧ hs.length ≤ ch ∧ ch ≤ maxLen ∧ l.length ≤ c ∧ c ≤ maxLen ∧ RI w H hs ∧ RF w B l := by
  obtain ⟨b, off, H, ch, B, c, h1, _, h3, h4, h5, h6, h7, h8, h9, h10, h11⟩ := Uns.at_ h hk hf
  exact ⟨b, off, H, ch, B, c, h1, h3, h4, h5, h6, h7, h8, h9, h10, h11⟩

section
variable {H : Type} {enc : TypeId × Value → H} {w : World}
set_option maxRecDepth 100000 in
theorem open_queries_at {fuel : Nat} {v : Value} {x : DataW H × List MemPlace} (hf : DataW.trod enc Tryz.prog w 0 (fun _ => true) true fuel 38 [v] = some x) :
    ∃ (A : Option Addr) (c : Nat) (us : UL), v = .slice A us.length c ∧ us.length ≤ c ∧ c ≤ maxLen ∧ Uns w 0 w.heap.size A us := by
  have hC : Tryz.prog.cellsOf 25 = 2 := by kernel_rfl
  rcases Go.Deep.open_slice Tryz.underlying38 hf with ⟨hv, _⟩ | ⟨a, len, cap, m, n, D, Pl, hv, _, hl, hm, hmm, _, hi⟩
  · injection hv with hv
    exact ⟨none, 0, [], hv, Nat.le_refl _, by unfold maxLen; omega, fun h => absurd rfl h⟩
  · injection hv with hv
    rw [hC] at hi
    simp only [if_true] at hmm
    have each : ∀ i, i < len → ∃ x : Qr, ∃ H ch B c', w.cell? (a.add (i * 2)) = some (.slice H x.1.length ch) ∧ w.cell? (a.add (i * 2 + 1)) = some (.slice B x.2.length c') ∧ x.1.length ≤ ch ∧ ch ≤ maxLen ∧ x.2.length ≤ c' ∧ c' ≤ maxLen ∧ Ints w 0 w.heap.size H x.1 ∧ Facts w 0 w.heap.size B x.2 := by
      intro i hil
      obtain ⟨cs, hc, ht⟩ := hi i (by omega)
      obtain ⟨_, hcl, hat⟩ := World.cells?_some hc
      obtain ⟨y0, y1, n', _, _, h0, h1⟩ := trod_struct2 Tryz.underlying25 ht
      have k0 : Tryz.prog.cellsOf 22 = 1 := by kernel_rfl
      have k1 : Tryz.prog.cellsOf 23 = 1 := by kernel_rfl
      have k2 : Tryz.prog.cellsOf 3 = 1 := by kernel_rfl
      have e0 := hat 0 (by omega)
      have e1 := hat 1 (by omega)
      match cs, hcl with
      | [u0, u1], _ =>
        simp only [k0, k1] at h0 h1
        simp at h0 h1 e0 e1
        obtain ⟨A, ch, xs, hv0, hl0, hm0, hi0⟩ := open_nums (v := u0) Tryz.underlying22 Tryz.underlying3 k2 h0
        obtain ⟨B, c', l, hv1, hl1, hm1, hi1⟩ := atom.open_atoms_at (v := u1) h1
        subst hv0 hv1
        refine ⟨(xs, l), A, ch, B, c', ?_, ?_, hl0, hm0, hl1, hm1, hi0, hi1⟩
        · exact e0
        · rw [Go.Deep.add_add] at e1; exact e1
    obtain ⟨f, hfx⟩ := Go.Deep.choose_lt each
    have hlen : ((List.range len).map f).length = len := by simp
    refine ⟨some a, cap, (List.range len).map f, by rw [hlen]; exact hv, by rw [hlen]; exact hl, hm, fun hne => ?_⟩
    have hpos : 0 < len := by
      rcases Nat.eq_zero_or_pos len with h0 | h0
      · subst h0; simp at hne
      · exact h0
    obtain ⟨b, off, spot⟩ := a
    obtain ⟨_, _, _, _, hc0, _⟩ := hfx 0 hpos
    have hspot : spot = none := by simpa [Addr.add] using World.cell?_spot hc0
    subst hspot
    have hb := World.block_lt_of_cell? w _ hc0
    refine ⟨b, off, rfl, by omega, by simpa [Addr.add] using hb, fun k hk => ?_⟩
    have hk' : k < len := by rw [hlen] at hk; exact hk
    have e : ∀ j, (⟨b, off, none⟩ : Addr).add j = ⟨b, off + j, none⟩ := fun j => by unfold Addr.add; split <;> simp_all
    obtain ⟨H, ch, B, c', g1, g2, g3, g4, g5, g6, g7, g8⟩ := hfx k hk'
    rw [e] at g1 g2
    have hx : ((List.range len).map f).getD k noU = f k := by simp [List.getD_eq_getElem?_getD, hk']
    rw [hx]
    exact ⟨H, ch, B, c', g1, g2, g3, g4, g5, g6, g7, g8⟩
set_option maxRecDepth 100000 in
theorem open_queriesT {r : Reach} {base : Nat} {v : Value} {d : DataW H} {p : List MemPlace} (hv : Value.okWide Tryz.prog w r base 38 v) (h : DataW.Trod enc Tryz.prog w 0 (fun _ => true) true 38 v d p) :
    ∃ (A : Option Addr) (c : Nat) (us : UL), v = .slice A us.length c ∧ us.length ≤ c ∧ c ≤ maxLen ∧ Uns w 0 w.heap.size A us := by
  obtain ⟨fuel, hf⟩ := h
  obtain ⟨A, l, c, rfl⟩ := okWide_slice Tryz.underlying38 hv
  exact open_queries_at hf
end

/-- How many values a query holds. -/
def nU (q : Qr) : Nat := q.1.length + (q.2.length + sumN q.2)
theorem nU_sz (q : Qr) : (nU q : Int) = szQ q.1 q.2 := by unfold nU szQ szF; push_cast; omega
def sumU (l : UL) : Nat := (l.map nU).sum
/-- How many values a list of queries holds, each query counted, too. -/
def szU (l : UL) : Int := (l.length : Int) + (sumU l : Int)
theorem szU_nonneg (l : UL) : 0 ≤ szU l := by unfold szU; omega
theorem szU_len {l : UL} (h : szU l ≤ 1048576) : l.length ≤ 1048576 := by unfold szU at h; omega
theorem sumU_take (l : UL) (k : Nat) (hk : k < l.length) : sumU (l.take (k + 1)) = sumU (l.take k) + nU (l.getD k noU) := by
  unfold sumU
  rw [List.take_succ_eq_append_getElem hk, List.map_append, List.sum_append]
  simp [List.getD_eq_getElem?_getD, hk]
theorem sumU_le (l : UL) (k : Nat) : sumU (l.take k) ≤ sumU l := by
  have : sumU l = sumU (l.take k) + sumU (l.drop k) := by
    unfold sumU
    rw [← List.sum_append, ← List.map_append, List.take_append_drop]
  omega
theorem szU_elem {l : UL} (h : szU l ≤ 1048576) {k : Nat} (hk : k < l.length) {hs : List Int} {ats : FL} (hf : l.getD k noU = (hs, ats)) : szQ hs ats ≤ 1048576 ∧ hs.length ≤ 1048576 ∧ szF ats ≤ 1048576 := by
  have h1 := sumU_take l k hk
  have h2 := sumU_le l (k + 1)
  have h3 := nU_sz (l.getD k noU)
  rw [hf] at h1 h3
  try simp only at h3
  have h4 := szF_nonneg ats
  unfold szU at h
  unfold szQ at h3 ⊢
  omega

set_option maxHeartbeats 400000 in
set_option maxRecDepth 100000 in
theorem szQueryS_w (A : Option Addr) (c : Nat) (l : UL) (left : Int) (hc : l.length ≤ 9223372036854775807) (h0 : 0 ≤ left) (h1 : left ≤ 1048576) (w : World) (h : RU w A l) :
    Calls Tryz.prog 17 #[.slice A l.length c, .int .i64 left] w fun e w' => e = .returned (.int .i64 (szR left (szU l))) ∧ Below w.heap.size w w' := by
  have hc' : (l.length : Int) ≤ 9223372036854775807 := by omega
  have HI := Lib.hid h
  clear h
  by_cases hb : left - (l.length : Int) < 0
  · have HE : left - szU l < 0 := by unfold szU; omega
    rw [szR_neg HE]
    clear HE
    go_enter Tryz.func17, Tryz.ntmps17
    go_wp2
    go_ret
    exact ⟨rfl, Below.refl _ _⟩
  · have hb' : (l.length : Int) ≤ left := by omega
    go_enter Tryz.func17, Tryz.ntmps17
    go_wp2
    go_loopw [1, 5] (fun z i wr => ∃ k : Nat, k ≤ l.length ∧ i = .int .i64 k ∧ z = .int .i64 (left - l.length - (sumU (l.take k) : Int)) ∧ (sumU (l.take k) : Int) ≤ left - l.length ∧ Below w.heap.size w wr) (fun _ i _ => l.length - (intOf i).toNat)
    case atStart => exact ⟨0, by omega, rfl, by simp [sumU], by simp [sumU]; omega, Below.refl _ _⟩
    case round =>
      obtain ⟨k, hk, rfl, rfl, hs, hB⟩ := hrel
      by_cases hlt : k < l.length
      · generalize hf : l.getD k noU = f
        obtain ⟨xs, ats⟩ := f
        have SE := Lib.hid (nU_sz (xs, ats))
        have S := Lib.hid (show sumU (l.take (k + 1)) = sumU (l.take k) + nU (xs, ats) by rw [sumU_take _ _ hlt, hf])
        have SL := Lib.hid (sumU_le l (k + 1))
        obtain ⟨b, off, H, ch, B, c2, rfl, _, e0, e1, hxc, hcm, hlc, hlm, hI, hJ⟩ := (HI.out.step hB).at_ hlt hf
        unfold maxLen at hcm hlm
        have XQ := Lib.hid (szQuery_any H B ch c2 xs ats (left - l.length - (sumU (l.take k) : Int)) (by omega) (by omega) (by omega) (by omega) wr hJ)
        clear hI hJ hf
        have hk0 : (0 : Int) ≤ (k : Int) := by omega
        go_wp2_with fail
        refine XQ.out.mono ?_
        rintro e u ⟨he, d⟩
        have hB2 := hB.trans (d.mono hB.size)
        clear d
        by_cases hn : left - (l.length : Int) - (sumU (l.take k) : Int) - szQ xs ats < 0
        · rw [szR_neg hn] at he
          subst he
          go_wp2
          go_ret
          exact ⟨ret_int (szR_neg (by have := S.out; have := SL.out; have := SE.out; (try simp only at this); unfold szU; omega)).symm, hB2⟩
        · rw [szR_pos hn] at he
          subst he
          have hn' : 0 ≤ left - (l.length : Int) - (sumU (l.take k) : Int) - szQ xs ats := by omega
          go_wp2
          go_roundw
          case rel => exact ⟨k + 1, by omega, by go_num, by rw [S.out]; congr 1; have := SE.out; (try simp only at this); push_cast; omega, by rw [S.out]; have := SE.out; (try simp only at this); push_cast; omega, hB2⟩
          case measure => simp [intOf]; omega
      · obtain rfl : k = l.length := by omega
        go_wp2
        go_ret
        exact ⟨ret_int (by rw [take_all] at hs ⊢; rw [szR_pos (by unfold szU; omega)]; unfold szU; omega), hB⟩

theorem szQueryS_any (A : Option Addr) (c : Nat) (l : UL) (left : Int) (hc : l.length ≤ 9223372036854775807) (h0 : 0 ≤ left) (h1 : left ≤ 1048576) (w : World) (h : RU w A l) :
    Calls Tryz.prog 17 #[.slice A l.length c, .int .i64 left] w fun e w' => e = .returned (.int .i64 (if left - szU l < 0 then -1 else left - szU l)) ∧ Below w.heap.size w w' :=
  szQueryS_w A c l left hc h0 h1 w h

set_option maxRecDepth 100000 in
theorem query_info : (Tryz.prog.info? 29).map (fun i => (i.zero, i.size, i.bytes)) = some (some (.agg #[.slice none 0 0, .slice none 0 0]), 2, 48) := by kernel_rfl
theorem makeQueries (n : Nat) (hn : n ≤ 1048576) :
    ∃ C : Array Value, C.size = n * 2 ∧ ∀ W : World, (Instr.makeSlice 44 (.int .i64 (n : Int)) (.int .i64 (n : Int))).run Tryz.prog W = .ok (.slice (some ⟨W.heap.size, 0, none⟩) n n) (W.alloc (.cells C 29)) := by
  obtain ⟨i0, hi, hz0, hz1, hz2⟩ := info_parts query_info
  refine ⟨madeCells #[.slice none 0 0, .slice none 0 0] (n * 2), size_madeCells _ _, fun W => ?_⟩
  have h := run_make (P := Tryz.prog) W 44 29 i0 (.agg #[.slice none 0 0, .slice none 0 0]) Tryz.underlying44 hi hz0 .i64 .i64 (n : Int) (n : Int) (by omega) (by omega) (by rw [hz2]; omega) (by omega)
  rw [hz1, show ((n : Int)).toNat = n by omega] at h
  exact h

end Go.Proofs.YtimlpdcambmcjaaGreat

namespace Go.Proofs.YtimlpdcambmcjaaGreat
open Go.ChangeShapes Go.WideShapes Go.ChangeAt Go.RowKit Go.Sort
set_option linter.unusedVariables false
set_option linter.unusedSimpArgs false

/-- Block g begins with the first k of the queries us, each in blocks of its own from p j to below q j, all from lo to below hi. -/
def OwnU (w : World) (lo hi g m k : Nat) (us : UL) : Prop :=
  lo ≤ g ∧ g < hi ∧ hi ≤ w.heap.size ∧ ∃ (F : Nat → Value) (p q : Nat → Nat), w.rowIs g 29 m F ∧ (∀ j, j < k → ∃ H ch B c mid, F (j * 2) = .slice H (us.getD j noU).1.length ch ∧ F (j * 2 + 1) = .slice B (us.getD j noU).2.length c ∧
      (us.getD j noU).2.length ≤ c ∧ c ≤ maxLen ∧ QO w (p j) mid (q j) H B ch c (us.getD j noU).1 (us.getD j noU).2 ∧ lo ≤ p j ∧ q j ≤ hi ∧ (g < p j ∨ q j ≤ g)) ∧
    (∀ i j, i < k → j < k → i ≠ j → q i ≤ p j ∨ q j ≤ p i)
theorem OwnU.keep {w w' : World} {lo hi g m k : Nat} {us : UL} (h : OwnU w lo hi g m k us) (hk : ∀ b, lo ≤ b → b < hi → w'.heap[b]? = w.heap[b]?) (hs : w.heap.size ≤ w'.heap.size) : OwnU w' lo hi g m k us := by
  obtain ⟨h1, h2, h3, F, p, q, hr, he, hd⟩ := h
  refine ⟨h1, h2, by omega, F, p, q, World.rowIs.of_block hr (hk g h1 h2), fun j hj => ?_, hd⟩
  obtain ⟨H, ch, B, c, mid, e0, e1, e2, e3, e4, e5, e6, e7⟩ := he j hj
  exact ⟨H, ch, B, c, mid, e0, e1, e2, e3, e4.keep (fun b a b' => hk b (by omega) (by omega)) hs, e5, e6, e7⟩
theorem OwnU.grow {w : World} {lo hi lo' hi' g m k : Nat} {us : UL} (h : OwnU w lo hi g m k us) (h1 : lo' ≤ lo) (h2 : hi ≤ hi') (h3 : hi' ≤ w.heap.size) : OwnU w lo' hi' g m k us := by
  obtain ⟨a1, a2, a3, F, p, q, hr, he, hd⟩ := h
  refine ⟨by omega, by omega, h3, F, p, q, hr, fun j hj => ?_, hd⟩
  obtain ⟨H, ch, B, c, mid, e0, e1, e2, e3, e4, e5, e6, e7⟩ := he j hj
  exact ⟨H, ch, B, c, mid, e0, e1, e2, e3, e4, by omega, by omega, e7⟩
theorem OwnU.step {w w' : World} {lo hi g m k : Nat} {us : UL} (h : OwnU w lo hi g m k us) (d : Below w.heap.size w w') : OwnU w' lo hi g m k us :=
  h.keep (fun b _ hb => d.block b (by have := h.2.2.1; omega)) d.size
theorem OwnU.uns {w : World} {lo hi g m : Nat} {us : UL} (h : OwnU w lo hi g m us.length us) (hm : us.length * 2 ≤ m) : Uns w lo hi (some ⟨g, 0, none⟩) us := fun _ => by
  obtain ⟨h1, h2, h3, F, p, q, hr, he, _⟩ := h
  refine ⟨g, 0, rfl, h1, h2, fun k hk => ?_⟩
  obtain ⟨H, ch, B, c, mid, e0, e1, e2, e3, e4, e5, e6, e7⟩ := he k hk
  obtain ⟨⟨r, hv⟩, ha, hm1, hm2, hm3⟩ := e4
  have hi1 := hv.ints
  refine ⟨H, ch, B, c, ?_, ?_, hi1.2.1, hi1.2.2.1, e2, e3, hi1.2.2.2.mono e5 (by omega), ?_⟩
  · rw [Nat.zero_add, World.rowIs.cell hr (show k * 2 < m by omega), e0]
  · rw [Nat.zero_add, World.rowIs.cell hr (show k * 2 + 1 < m by omega), e1]
  · rcases ha with ha | ⟨g', m', hB, ha, hm'⟩
    · rw [ha]; exact fun hne => absurd rfl hne
    · rw [hB]; exact (ha.facts hm').mono (by omega) e6
theorem OwnU.ru {w : World} {lo hi g m : Nat} {us : UL} (h : OwnU w lo hi g m us.length us) (hm : us.length * 2 ≤ m) : RU w (some ⟨g, 0, none⟩) us := (h.uns hm).mono (Nat.zero_le _) h.2.2.1

/-- One query more is stored. -/
theorem ownU_step {wr u : World} {lo g m k : Nat} {us : UL} (h : OwnU wr lo wr.heap.size g m k us) (hkm : k * 2 + 1 < m) {hs : List Int} {l : FL} (hf : us.getD k noU = (hs, l)) (hb : Below wr.heap.size wr u)
    {H B : Option Addr} {ch c mid p q : Nat} (hQ : QO u p mid q H B ch c hs l) (hp : wr.heap.size ≤ p) (hlc : l.length ≤ c) (hcm : c ≤ maxLen) :
    OwnU ((u.setCell ⟨g, k * 2, none⟩ (.slice H hs.length ch)).setCell ⟨g, k * 2 + 1, none⟩ (.slice B l.length c)) lo ((u.setCell ⟨g, k * 2, none⟩ (.slice H hs.length ch)).setCell ⟨g, k * 2 + 1, none⟩ (.slice B l.length c)).heap.size g m (k + 1) us := by
  have hsz : ((u.setCell ⟨g, k * 2, none⟩ (.slice H hs.length ch)).setCell ⟨g, k * 2 + 1, none⟩ (.slice B l.length c)).heap.size = u.heap.size := size2 _ _ _ _ _
  rw [hsz]
  obtain ⟨h1, h2, h3, F, P, Q, hr, he, hd⟩ := h
  have hs' := hb.size
  have hr2 : u.rowIs g 29 m F := World.rowIs.of_block hr (hb.block g h2)
  have far : ∀ b, b ≠ g → ((u.setCell ⟨g, k * 2, none⟩ (.slice H hs.length ch)).setCell ⟨g, k * 2 + 1, none⟩ (.slice B l.length c)).heap[b]? = u.heap[b]? := fun b hbg =>
    (Below.heap_setCell _ ⟨g, k * 2 + 1, none⟩ _ b hbg).trans (Below.heap_setCell _ ⟨g, k * 2, none⟩ _ b hbg)
  have hq3 := hQ.2.2
  refine ⟨h1, by omega, by rw [hsz]; omega, _, fun j => if j = k then p else P j, fun j => if j = k then q else Q j, (hr2.set (k * 2) _).set (k * 2 + 1) _, fun j hj => ?_, fun i j hi hj hij => ?_⟩
  · by_cases e : j = k
    · subst e
      have t1 : ¬ (j * 2 = j * 2 + 1) := by omega
      refine ⟨H, ch, B, c, mid, ?_, ?_, ?_, hcm, ?_, ?_, ?_, ?_⟩
      · simp only [if_pos, t1, if_false, hf]
      · simp only [if_pos, hf]
      · rw [hf]; exact hlc
      · dsimp only
        rw [hf, if_pos rfl, if_pos rfl]
        exact hQ.keep (fun b a _ => far b (by omega)) (by rw [hsz]; exact Nat.le_refl _)
      · dsimp only
        rw [if_pos rfl]; omega
      · dsimp only
        rw [if_pos rfl]; omega
      · dsimp only
        rw [if_pos rfl, if_pos rfl]; exact .inl (by omega)
    · have t1 : ¬ (j * 2 = k * 2 + 1) := by omega
      have t2 : ¬ (j * 2 = k * 2) := by omega
      have t3 : ¬ (j * 2 + 1 = k * 2 + 1) := by omega
      have t4 : ¬ (j * 2 + 1 = k * 2) := by omega
      obtain ⟨H', ch', B', c', mid', e0, e1, e2, e3, e4, e5, e6, e7⟩ := he j (by omega)
      refine ⟨H', ch', B', c', mid', ?_, ?_, e2, e3, ?_, ?_, ?_, ?_⟩
      · simp only [t1, t2, if_false]; exact e0
      · simp only [t3, t4, if_false]; exact e1
      · dsimp only
        rw [if_neg e, if_neg e]
        have e4' : QO u (P j) mid' (Q j) H' B' ch' c' (us.getD j noU).1 (us.getD j noU).2 := e4.keep (fun b _ hb' => hb.block b (by omega)) hs'
        exact e4'.keep (fun b a a' => far b (by omega)) (by rw [hsz]; exact Nat.le_refl _)
      · dsimp only
        rw [if_neg e]; exact e5
      · dsimp only
        rw [if_neg e]; omega
      · dsimp only
        rw [if_neg e, if_neg e]; exact e7
  · by_cases e : j = k
    · subst e
      have e' : i ≠ j := hij
      dsimp only
      rw [if_neg e', if_pos rfl, if_pos rfl, if_neg e']
      obtain ⟨H', ch', B', c', mid', _, _, _, _, e4, _, e6, _⟩ := he i (by omega)
      exact .inl (by omega)
    · by_cases e' : i = k
      · subst e'
        dsimp only
        rw [if_pos rfl, if_neg e, if_neg e, if_pos rfl]
        obtain ⟨H', ch', B', c', mid', _, _, _, _, e4, _, e6, _⟩ := he j (by omega)
        exact .inr (by omega)
      · dsimp only
        rw [if_neg e', if_neg e, if_neg e, if_neg e']
        exact hd i j (by omega) (by omega) hij

set_option maxHeartbeats 1000000 in
set_option maxRecDepth 100000 in
theorem toQueryS_any (A : Option Addr) (c : Nat) (us : UL) (hz : szU us ≤ 1048576) (w : World) (h : RU w A us) :
    Calls Tryz.prog 20 #[.slice A us.length c] w fun e w' => e = .returned (.slice (some ⟨w.heap.size, 0, none⟩) us.length us.length) ∧ OwnU w' w.heap.size w'.heap.size w.heap.size (us.length * 2) us.length us ∧ Below w.heap.size w w' ∧ w.heap.size < w'.heap.size := by
  have hl := szU_len hz
  obtain ⟨C, hCs, hmk⟩ := makeQueries us.length hl
  have HI := Lib.hid h
  have HS := Lib.hid hCs
  clear h hCs
  have hl' : (us.length : Int) ≤ 1048576 := by omega
  go_enter Tryz.func20, Tryz.ntmps20
  go_wp2
  go_loopw [4] (fun i wr => ∃ k : Nat, k ≤ us.length ∧ i = .int .i64 k ∧ OwnU wr w.heap.size wr.heap.size w.heap.size (us.length * 2) k us ∧ Below w.heap.size w wr) (fun i _ => us.length - (intOf i).toNat)
  case atStart =>
    refine ⟨0, by omega, rfl, ⟨Nat.le_refl _, by simp, Nat.le_refl _, fun i => C.getD i undef, fun _ => 0, fun _ => 0, ⟨C, by rw [heap_alloc_new], HS.out, fun i hi => by simp only [Array.getD_eq_getD_getElem?, Array.getElem?_eq_getElem (show i < C.size by rw [HS.out]; exact hi)]; rfl⟩, fun j hj => by omega, fun i j hi _ _ => by omega⟩, below_alloc _ _⟩
  case round =>
    obtain ⟨k, hk, rfl, ho, hb⟩ := hrel
    have HO := Lib.hid ho
    clear ho
    by_cases hlt : k < us.length
    · generalize hf : us.getD k noU = f
      obtain ⟨hs, l⟩ := f
      have HF := Lib.hid hf
      obtain ⟨_, hhl, hll⟩ := szU_elem hz hlt hf
      have hll2 := szF_len hll
      obtain ⟨b, off, H, ch, B, c2, rfl, _, e0, e1, hxc, hcm, _, _, hI, hJ⟩ := (HI.out.step hb).at_ hlt hf
      clear hf
      have HX := Lib.hid hI
      have HY := Lib.hid hJ
      clear hI hJ
      go_wp2_with fail
      refine (toQuery_r H B ch c2 hs l hhl hll _ HX.out HY.out).mono ?_
      rintro e u ⟨rfl, hr, d, hz⟩
      have hg : w.heap.size < wr.heap.size := HO.out.2.1
      obtain ⟨F, p, q, hrow, _, _⟩ := HO.out.2.2.2
      have hrow2 : u.rowIs w.heap.size 29 (us.length * 2) F := World.rowIs.of_block hrow (d.block _ hg)
      have q0 := hrow2.cell (show k * 2 < us.length * 2 by omega)
      have q1 := hrow2.cell (show k * 2 + 1 < us.length * 2 by omega)
      have q2 := hrow2.frozen (k * 2)
      have q3 := hrow2.frozen (k * 2 + 1)
      have HR := Lib.hid (hr.qo hhl)
      clear hrow hrow2 hr
      go_wp2
      go_roundw
      case rel =>
        refine ⟨k + 1, by omega, by go_num, ownU_step HO.out (by omega) HF.out d HR.out (by omega) (Nat.le_refl _) (by unfold maxLen; omega), ?_⟩
        exact ((hb.trans (d.mono hb.size)).setCell (Nat.le_refl _) _).setCell (Nat.le_refl _) _
      case measure => simp [intOf]; omega
    · obtain rfl : k = us.length := by omega
      go_wp2
      go_ret
      exact ⟨rfl, HO.out, hb, HO.out.2.1⟩
theorem toQueryS_r (A : Option Addr) (c : Nat) (us : UL) (hz : szU us ≤ 1048576) (w : World) (h : RU w A us) :
    Calls Tryz.prog 20 #[.slice A us.length c] w fun e w' => e = .returned (.slice (some ⟨w.heap.size, 0, none⟩) us.length us.length) ∧ RU w' (some ⟨w.heap.size, 0, none⟩) us ∧ Below w.heap.size w w' ∧ w.heap.size < w'.heap.size :=
  (toQueryS_any A c us hz w h).mono fun _ _ ⟨a, b, c, d⟩ => ⟨a, b.ru (Nat.le_refl _), c, d⟩

set_option maxRecDepth 100000 in
set_option maxHeartbeats 1000000 in
theorem eqQueryS_r (A A' : Option Addr) (c c' : Nat) (us : UL) (hz : szU us ≤ 1048576) (w : World) (h : RU w A us) (h' : RU w A' us) :
    Calls Tryz.prog 24 #[.slice A us.length c, .slice A' us.length c'] w fun e w' => e = .returned (.bool true) ∧ Below w.heap.size w w' := by
  have hl := szU_len hz
  have hl' : (us.length : Int) ≤ 1048576 := by omega
  have HI := Lib.hid h
  have HJ := Lib.hid h'
  clear h h'
  go_enter Tryz.func24, Tryz.ntmps24
  go_wp2
  go_loopw [5] (fun i wr => ∃ k : Nat, k ≤ us.length ∧ i = .int .i64 k ∧ Below w.heap.size w wr) (fun i _ => us.length - (intOf i).toNat)
  case atStart => exact ⟨0, by omega, rfl, Below.refl _ _⟩
  case round =>
    obtain ⟨k, hk, rfl, hb⟩ := hrel
    by_cases hlt : k < us.length
    · generalize hf : us.getD k noU = f
      obtain ⟨hs, l⟩ := f
      obtain ⟨_, hhl, hll⟩ := szU_elem hz hlt hf
      obtain ⟨b, off, H, ch, B, c2, rfl, n1, e0, e1, _, _, _, _, hI, hF⟩ := (HI.out.step hb).at_ hlt hf
      obtain ⟨b', off', H', ch', B', c2', rfl, n2, e0', e1', _, _, _, _, hI', hF'⟩ := (HJ.out.step hb).at_ hlt hf
      have X1 := Lib.hid fun (W : World) (hW : Below wr.heap.size wr W) => eqQuery_b H B H' B' ch c2 ch' c2' hs l hhl (by omega) W (hI.step hW) (hF.step hW) (hI'.step hW) (hF'.step hW)
      clear hf hI hI' hF hF'
      have hk0 : (0 : Int) ≤ (k : Int) := by omega
      have hk1 : (k : Int) < (us.length : Int) := by omega
      have k0 := cell_regrown e0
      have k1 := cell_regrown e1
      have k0' := cell_regrown e0'
      have k1' := cell_regrown e1'
      go_wp2
      refine wp_region_quiet_below (by kernel_rfl) (by kernel_rfl) ?_
      repeat (go_big_quiet_step (first | (go_at_call 12; with_reducible exact Calls.regrown_of (X1.out _ (below_regrown _ _ _)))))
      refine wpQuiet_nil ?_
      intro u hw'
      have hb2 := step hb (show Below wr.heap.size wr u by obtain ⟨⟨dq, osq⟩, rfl⟩ := hw'; exact below_regrown _ _ _)
      clear hw' k0 k1 k0' k1'
      go_wp2
      go_roundw
      case rel => exact ⟨k + 1, by omega, by go_num, hb2⟩
      case measure => simp [intOf]; omega
    · obtain rfl : k = us.length := by omega
      go_wp2
      go_ret
      exact ⟨rfl, hb⟩
end Go.Proofs.YtimlpdcambmcjaaGreat
