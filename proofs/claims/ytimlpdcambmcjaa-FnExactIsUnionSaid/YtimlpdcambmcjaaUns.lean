/- Lists of queries in memory: where their parts lie, and how they are read as arguments. Conditions: none beyond each theorem's own. -/
import Derived.Test.YtimlpdcambmcjaaQry
namespace Go.Proofs.Ytimlpdcambmcjaa
open Go.ChangeShapes Go.WideShapes Go.ChangeAt Go.RowKit Go.Sort
set_option linter.unusedVariables false
set_option linter.unusedSimpArgs false

/-- A query: its head, its atoms. -/
abbrev Qr := List Int × FL
abbrev UL := List Qr
abbrev noU : Qr := ([], [])

/-- At the address A lie the queries us, all of it in blocks from lo to below hi. -/
def Uns (w : World) (lo hi : Nat) (A : Option Addr) (us : UL) : Prop :=
  us ≠ [] → ∃ b off, A = some ⟨b, off, none⟩ ∧ lo ≤ b ∧ b < hi ∧ ∀ k, k < us.length → ∃ H ch B c, w.cell? ⟨b, off + k * 2, none⟩ = some (.slice H (us.getD k noU).1.length ch) ∧
    w.cell? ⟨b, off + k * 2 + 1, none⟩ = some (.slice B (us.getD k noU).2.length c) ∧
    (us.getD k noU).1.length ≤ ch ∧ ch ≤ maxLen ∧ (us.getD k noU).2.length ≤ c ∧ c ≤ maxLen ∧ Ints w lo hi H (us.getD k noU).1 ∧ Facts w lo hi B (us.getD k noU).2
theorem Uns.at_ {w : World} {lo hi : Nat} {A : Option Addr} {us : UL} (h : Uns w lo hi A us) {k : Nat} (hk : k < us.length) {hs : List Int} {l : FL} (hf : us.getD k noU = (hs, l)) :
    ∃ b off H ch B c, A = some ⟨b, off, none⟩ ∧ lo ≤ b ∧ b < hi ∧ w.cell? ⟨b, off + k * 2, none⟩ = some (.slice H hs.length ch) ∧
    w.cell? ⟨b, off + k * 2 + 1, none⟩ = some (.slice B l.length c) ∧ hs.length ≤ ch ∧ ch ≤ maxLen ∧ l.length ≤ c ∧ c ≤ maxLen ∧ Ints w lo hi H hs ∧ Facts w lo hi B l := by
  obtain ⟨b, off, h1, h2, h3, h4⟩ := h (by rintro rfl; simp at hk)
  obtain ⟨H, ch, B, c, h5, h6, h7, h8, h9, h10, h11, h12⟩ := h4 k hk
  rw [hf] at h5 h6 h7 h9 h11 h12
  exact ⟨b, off, H, ch, B, c, h1, h2, h3, h5, h6, h7, h8, h9, h10, h11, h12⟩
theorem Uns.keep {w w' : World} {lo hi : Nat} {A : Option Addr} {us : UL} (h : Uns w lo hi A us) (hk : ∀ b, lo ≤ b → b < hi → w'.heap[b]? = w.heap[b]?) : Uns w' lo hi A us := fun hx => by
  obtain ⟨b, off, h1, h2, h3, h4⟩ := h hx
  refine ⟨b, off, h1, h2, h3, fun k hkx => ?_⟩
  obtain ⟨H, ch, B, c, h5, h6, h7, h8, h9, h10, h11, h12⟩ := h4 k hkx
  exact ⟨H, ch, B, c, (World.cell?_of_block (w := w) (a := ⟨b, off + k * 2, none⟩) (hk b h2 h3)).trans h5, (World.cell?_of_block (w := w) (a := ⟨b, off + k * 2 + 1, none⟩) (hk b h2 h3)).trans h6, h7, h8, h9, h10, h11.keep hk, h12.keep hk⟩
theorem Uns.below {w w' : World} {lo hi N : Nat} {A : Option Addr} {us : UL} (h : Uns w lo hi A us) (hb : Below N w w') (hN : hi ≤ N) : Uns w' lo hi A us :=
  h.keep fun b _ h2 => hb.block b (by omega)
theorem Uns.mono {w : World} {lo hi lo' hi' : Nat} {A : Option Addr} {us : UL} (h : Uns w lo hi A us) (h1 : lo' ≤ lo) (h2 : hi ≤ hi') : Uns w lo' hi' A us := fun hx => by
  obtain ⟨b, off, e, h3, h4, h5⟩ := h hx
  refine ⟨b, off, e, by omega, by omega, fun k hk => ?_⟩
  obtain ⟨H, ch, B, c, g1, g2, g3, g4, g5, g6, g7, g8⟩ := h5 k hk
  exact ⟨H, ch, B, c, g1, g2, g3, g4, g5, g6, g7.mono h1 h2, g8.mono h1 h2⟩
/-- At A lie the queries us. -/
def RU (w : World) (A : Option Addr) (us : UL) : Prop := Uns w 0 w.heap.size A us
theorem RU.step {w w' : World} {A : Option Addr} {us : UL} (h : RU w A us) (b : Below w.heap.size w w') : RU w' A us := (Uns.below h b (Nat.le_refl _)).mono (Nat.le_refl _) b.size
theorem RU.at_ {w : World} {A : Option Addr} {us : UL} (h : RU w A us) {k : Nat} (hk : k < us.length) {hs : List Int} {l : FL} (hf : us.getD k noU = (hs, l)) :
    ∃ b off H ch B c, A = some ⟨b, off, none⟩ ∧ b < w.heap.size ∧ w.cell? ⟨b, off + k * 2, none⟩ = some (.slice H hs.length ch) ∧
    w.cell? ⟨b, off + k * 2 + 1, none⟩ = some (.slice B l.length c) ∧ hs.length ≤ ch ∧ ch ≤ maxLen ∧ l.length ≤ c ∧ c ≤ maxLen ∧ RI w H hs ∧ RF w B l := by
  obtain ⟨b, off, H, ch, B, c, h1, _, h3, h4, h5, h6, h7, h8, h9, h10, h11⟩ := Uns.at_ h hk hf
  exact ⟨b, off, H, ch, B, c, h1, h3, h4, h5, h6, h7, h8, h9, h10, h11⟩

section
variable {H : Type} {enc : TypeId × Value → H} {w : World}
set_option maxRecDepth 100000 in
theorem open_queries_at {fuel : Nat} {v : Value} {x : DataW H × List MemPlace} (hf : DataW.trod enc Try.prog w 0 (fun _ => true) true fuel 36 [v] = some x) :
    ∃ (A : Option Addr) (c : Nat) (us : UL), v = .slice A us.length c ∧ us.length ≤ c ∧ c ≤ maxLen ∧ Uns w 0 w.heap.size A us := by
  have hC : Try.prog.cellsOf 25 = 2 := by kernel_rfl
  rcases Go.Deep.open_slice Try.underlying36 hf with ⟨hv, _⟩ | ⟨a, len, cap, m, n, D, Pl, hv, _, hl, hm, hmm, _, hi⟩
  · injection hv with hv
    exact ⟨none, 0, [], hv, Nat.le_refl _, by unfold maxLen; omega, fun h => absurd rfl h⟩
  · injection hv with hv
    rw [hC] at hi
    simp only [if_true] at hmm
    have each : ∀ i, i < len → ∃ x : Qr, ∃ H ch B c', w.cell? (a.add (i * 2)) = some (.slice H x.1.length ch) ∧ w.cell? (a.add (i * 2 + 1)) = some (.slice B x.2.length c') ∧ x.1.length ≤ ch ∧ ch ≤ maxLen ∧ x.2.length ≤ c' ∧ c' ≤ maxLen ∧ Ints w 0 w.heap.size H x.1 ∧ Facts w 0 w.heap.size B x.2 := by
      intro i hil
      obtain ⟨cs, hc, ht⟩ := hi i (by omega)
      obtain ⟨_, hcl, hat⟩ := World.cells?_some hc
      obtain ⟨y0, y1, n', _, _, h0, h1⟩ := trod_struct2 Try.underlying25 ht
      have k0 : Try.prog.cellsOf 22 = 1 := by kernel_rfl
      have k1 : Try.prog.cellsOf 23 = 1 := by kernel_rfl
      have k2 : Try.prog.cellsOf 3 = 1 := by kernel_rfl
      have e0 := hat 0 (by omega)
      have e1 := hat 1 (by omega)
      match cs, hcl with
      | [u0, u1], _ =>
        simp only [k0, k1] at h0 h1
        simp at h0 h1 e0 e1
        obtain ⟨A, ch, xs, hv0, hl0, hm0, hi0⟩ := open_nums (v := u0) Try.underlying22 Try.underlying3 k2 h0
        obtain ⟨B, c', l, hv1, hl1, hm1, hi1⟩ := atom.open_atoms_at (v := u1) h1
        subst hv0 hv1
        refine ⟨(xs, l), A, ch, B, c', ?_, ?_, hl0, hm0, hl1, hm1, hi0, hi1⟩
        · exact e0
        · rw [Go.Deep.add_add] at e1; exact e1
    obtain ⟨f, hfx⟩ := Go.Deep.choose_lt each
    have hlen : ((List.range len).map f).length = len := by simp
    refine ⟨some a, cap, (List.range len).map f, by rw [hlen]; exact hv, by rw [hlen]; exact hl, hm, fun hne => ?_⟩
    have hpos : 0 < len := by
      rcases Nat.eq_zero_or_pos len with h0 | h0
      · subst h0; simp at hne
      · exact h0
    obtain ⟨b, off, spot⟩ := a
    obtain ⟨_, _, _, _, hc0, _⟩ := hfx 0 hpos
    have hspot : spot = none := by simpa [Addr.add] using World.cell?_spot hc0
    subst hspot
    have hb := World.block_lt_of_cell? w _ hc0
    refine ⟨b, off, rfl, by omega, by simpa [Addr.add] using hb, fun k hk => ?_⟩
    have hk' : k < len := by rw [hlen] at hk; exact hk
    have e : ∀ j, (⟨b, off, none⟩ : Addr).add j = ⟨b, off + j, none⟩ := fun j => by unfold Addr.add; split <;> simp_all
    obtain ⟨H, ch, B, c', g1, g2, g3, g4, g5, g6, g7, g8⟩ := hfx k hk'
    rw [e] at g1 g2
    have hx : ((List.range len).map f).getD k noU = f k := by simp [List.getD_eq_getElem?_getD, hk']
    rw [hx]
    exact ⟨H, ch, B, c', g1, g2, g3, g4, g5, g6, g7, g8⟩
set_option maxRecDepth 100000 in
theorem open_queriesT {r : Reach} {base : Nat} {v : Value} {d : DataW H} {p : List MemPlace} (hv : Value.okWide Try.prog w r base 36 v) (h : DataW.Trod enc Try.prog w 0 (fun _ => true) true 36 v d p) :
    ∃ (A : Option Addr) (c : Nat) (us : UL), v = .slice A us.length c ∧ us.length ≤ c ∧ c ≤ maxLen ∧ Uns w 0 w.heap.size A us := by
  obtain ⟨fuel, hf⟩ := h
  obtain ⟨A, l, c, rfl⟩ := okWide_slice Try.underlying36 hv
  exact open_queries_at hf
end

/-- How many values a query holds. -/
def nU (q : Qr) : Nat := q.1.length + (q.2.length + sumN q.2)
theorem nU_sz (q : Qr) : (nU q : Int) = szQ q.1 q.2 := by unfold nU szQ szF; push_cast; omega
def sumU (l : UL) : Nat := (l.map nU).sum
/-- How many values a list of queries holds, each query counted, too. -/
def szU (l : UL) : Int := (l.length : Int) + (sumU l : Int)
theorem szU_nonneg (l : UL) : 0 ≤ szU l := by unfold szU; omega
theorem szU_len {l : UL} (h : szU l ≤ 1048576) : l.length ≤ 1048576 := by unfold szU at h; omega
theorem sumU_take (l : UL) (k : Nat) (hk : k < l.length) : sumU (l.take (k + 1)) = sumU (l.take k) + nU (l.getD k noU) := by
  unfold sumU
  rw [List.take_succ_eq_append_getElem hk, List.map_append, List.sum_append]
  simp [List.getD_eq_getElem?_getD, hk]
theorem sumU_le (l : UL) (k : Nat) : sumU (l.take k) ≤ sumU l := by
  have : sumU l = sumU (l.take k) + sumU (l.drop k) := by
    unfold sumU
    rw [← List.sum_append, ← List.map_append, List.take_append_drop]
  omega
theorem szU_elem {l : UL} (h : szU l ≤ 1048576) {k : Nat} (hk : k < l.length) {hs : List Int} {ats : FL} (hf : l.getD k noU = (hs, ats)) : szQ hs ats ≤ 1048576 ∧ hs.length ≤ 1048576 ∧ szF ats ≤ 1048576 := by
  have h1 := sumU_take l k hk
  have h2 := sumU_le l (k + 1)
  have h3 := nU_sz (l.getD k noU)
  rw [hf] at h1 h3
  try simp only at h3
  have h4 := szF_nonneg ats
  unfold szU at h
  unfold szQ at h3 ⊢
  omega

set_option maxHeartbeats 400000 in
set_option maxRecDepth 100000 in
theorem szQueryS_w (A : Option Addr) (c : Nat) (l : UL) (left : Int) (hc : l.length ≤ 9223372036854775807) (h0 : 0 ≤ left) (h1 : left ≤ 1048576) (w : World) (h : RU w A l) :
    Calls Try.prog 16 #[.slice A l.length c, .int .i64 left] w fun e w' => e = .returned (.int .i64 (szR left (szU l))) ∧ Below w.heap.size w w' := by
  have hc' : (l.length : Int) ≤ 9223372036854775807 := by omega
  have HI := Lib.hid h
  clear h
  by_cases hb : left - (l.length : Int) < 0
  · have HE : left - szU l < 0 := by unfold szU; omega
    rw [szR_neg HE]
    clear HE
    go_enter Try.func16, Try.ntmps16
    go_wp2
    go_ret
    exact ⟨rfl, Below.refl _ _⟩
  · have hb' : (l.length : Int) ≤ left := by omega
    go_enter Try.func16, Try.ntmps16
    go_wp2
    go_loopw [1, 5] (fun z i wr => ∃ k : Nat, k ≤ l.length ∧ i = .int .i64 k ∧ z = .int .i64 (left - l.length - (sumU (l.take k) : Int)) ∧ (sumU (l.take k) : Int) ≤ left - l.length ∧ Below w.heap.size w wr) (fun _ i _ => l.length - (intOf i).toNat)
    case atStart => exact ⟨0, by omega, rfl, by simp [sumU], by simp [sumU]; omega, Below.refl _ _⟩
    case round =>
      obtain ⟨k, hk, rfl, rfl, hs, hB⟩ := hrel
      by_cases hlt : k < l.length
      · generalize hf : l.getD k noU = f
        obtain ⟨xs, ats⟩ := f
        have SE := Lib.hid (nU_sz (xs, ats))
        have S := Lib.hid (show sumU (l.take (k + 1)) = sumU (l.take k) + nU (xs, ats) by rw [sumU_take _ _ hlt, hf])
        have SL := Lib.hid (sumU_le l (k + 1))
        obtain ⟨b, off, H, ch, B, c2, rfl, _, e0, e1, hxc, hcm, hlc, hlm, hI, hJ⟩ := (HI.out.step hB).at_ hlt hf
        unfold maxLen at hcm hlm
        have XQ := Lib.hid (szQuery_any H B ch c2 xs ats (left - l.length - (sumU (l.take k) : Int)) (by omega) (by omega) (by omega) (by omega) wr hJ)
        clear hI hJ hf
        have hk0 : (0 : Int) ≤ (k : Int) := by omega
        go_wp2_with fail
        refine XQ.out.mono ?_
        rintro e u ⟨he, d⟩
        have hB2 := hB.trans (d.mono hB.size)
        clear d
        by_cases hn : left - (l.length : Int) - (sumU (l.take k) : Int) - szQ xs ats < 0
        · rw [szR_neg hn] at he
          subst he
          go_wp2
          go_ret
          exact ⟨ret_int (szR_neg (by have := S.out; have := SL.out; have := SE.out; (try simp only at this); unfold szU; omega)).symm, hB2⟩
        · rw [szR_pos hn] at he
          subst he
          have hn' : 0 ≤ left - (l.length : Int) - (sumU (l.take k) : Int) - szQ xs ats := by omega
          go_wp2
          go_roundw
          case rel => exact ⟨k + 1, by omega, by go_num, by rw [S.out]; congr 1; have := SE.out; (try simp only at this); push_cast; omega, by rw [S.out]; have := SE.out; (try simp only at this); push_cast; omega, hB2⟩
          case measure => simp [intOf]; omega
      · obtain rfl : k = l.length := by omega
        go_wp2
        go_ret
        exact ⟨ret_int (by rw [take_all] at hs ⊢; rw [szR_pos (by unfold szU; omega)]; unfold szU; omega), hB⟩

theorem szQueryS_any (A : Option Addr) (c : Nat) (l : UL) (left : Int) (hc : l.length ≤ 9223372036854775807) (h0 : 0 ≤ left) (h1 : left ≤ 1048576) (w : World) (h : RU w A l) :
    Calls Try.prog 16 #[.slice A l.length c, .int .i64 left] w fun e w' => e = .returned (.int .i64 (if left - szU l < 0 then -1 else left - szU l)) ∧ Below w.heap.size w w' :=
  szQueryS_w A c l left hc h0 h1 w h

set_option maxRecDepth 100000 in
theorem query_info : (Try.prog.info? 31).map (fun i => (i.zero, i.size, i.bytes)) = some (some (.agg #[.slice none 0 0, .slice none 0 0]), 2, 48) := by kernel_rfl
theorem makeQueries (n : Nat) (hn : n ≤ 1048576) :
    ∃ C : Array Value, C.size = n * 2 ∧ ∀ W : World, (Instr.makeSlice 39 (.int .i64 (n : Int)) (.int .i64 (n : Int))).run Try.prog W = .ok (.slice (some ⟨W.heap.size, 0, none⟩) n n) (W.alloc (.cells C 31)) := by
  obtain ⟨i0, hi, hz0, hz1, hz2⟩ := info_parts query_info
  refine ⟨madeCells #[.slice none 0 0, .slice none 0 0] (n * 2), size_madeCells _ _, fun W => ?_⟩
  have h := run_make (P := Try.prog) W 39 31 i0 (.agg #[.slice none 0 0, .slice none 0 0]) Try.underlying39 hi hz0 .i64 .i64 (n : Int) (n : Int) (by omega) (by omega) (by rw [hz2]; omega) (by omega)
  rw [hz1, show ((n : Int)).toNat = n by omega] at h
  exact h

end Go.Proofs.Ytimlpdcambmcjaa
