/- What the program's DecodeHex answers. Conditions: none beyond each theorem's own. -/
import Derived.Test.YtnngpppfagiikaaDoorIdxRune
import Derived.Test.YtnngpppfagiikaaDoorEncVar
import Derived.Lib.OthersKept
import Derived.Deep.OwnRows
namespace Go.Proofs.YtnngpppfagiikaaDoor
open Go.ChangeShapes Go.WideShapes Go.ChangeAt Go.RowKit
set_option linter.unusedVariables false

theorem hexDig_low (k : Nat) : bn hexDig k < 128 := by
  unfold bn
  split
  · rename_i h
    have h16 : k < 16 := h
    have hle := hx_le h16
    rw [show (hexDig[k]'h).toNat = hx k from get_hx k h]
    omega
  · omega
theorem IndexRune_high (r : Nat) (h : 128 ≤ r) (h2 : r ≤ 2147483647) (w : World) :
    Calls Tryd.prog 27 #[.string hexDig, .int .i32 r] w fun e w' => e = .returned (.int .i64 (-1)) ∧ Below w.heap.size w w' := by
  by_cases he : r = 65533
  · subst he
    exact IndexRune_err hexDig hexDig_low (by decide) w
  · by_cases hv : Lib.validRune (r : Int) = true
    · exact IndexRune_val hexDig hexDig_low (by decide) (by decide) r (by omega) (by omega) (by omega) hv w
    · exact IndexRune_inv hexDig r (by omega) (by omega) (by omega) (by simpa using hv) w

/-- Cell j of the answer's row when pos digits are read. -/
def cellv (s : ByteArray) (pos j : Nat) : Value :=
  .int .u8 (if 2 * j + 1 < pos then 16 * hv (bn s (2 * j)) + hv (bn s (2 * j + 1)) else if 2 * j < pos then hv (bn s (2 * j)) else 0)

theorem cellv_at (s : ByteArray) (pos p : Nat) (h1 : 2 * p ≤ pos) (h2 : pos ≤ 2 * p + 1) (hg : 2 * p < pos → 0 ≤ hv (bn s (2 * p))) :
    ∃ cx : Int, cellv s pos p = .int .u8 cx ∧ 0 ≤ cx ∧ cx ≤ 15 ∧ Value.int .u8 (cx * 16 + hv (bn s pos)) = cellv s (pos + 1) p := by
  by_cases e : pos = 2 * p
  · subst e
    refine ⟨0, ?_, by omega, by omega, ?_⟩
    · unfold cellv; rw [if_neg (by omega), if_neg (by omega)]
    · unfold cellv; rw [if_neg (by omega), if_pos (by omega)]; congr 1; omega
  · obtain rfl : pos = 2 * p + 1 := by omega
    have hr := hv_rng (bn s (2 * p))
    refine ⟨hv (bn s (2 * p)), ?_, hg (by omega), by omega, ?_⟩
    · unfold cellv; rw [if_neg (by omega), if_pos (by omega)]
    · unfold cellv; rw [if_pos (by omega)]; congr 1; omega
theorem cellv_other (s : ByteArray) (pos p i : Nat) (h1 : 2 * p ≤ pos) (h2 : pos ≤ 2 * p + 1) (hi : i ≠ p) : cellv s pos i = cellv s (pos + 1) i := by
  unfold cellv
  by_cases a : 2 * i + 1 < pos
  · rw [if_pos a, if_pos (by omega)]
  · rw [if_neg a, if_neg (show ¬ 2 * i + 1 < pos + 1 by omega)]
    by_cases b : 2 * i < pos
    · rw [if_pos b, if_pos (show 2 * i < pos + 1 by omega)]
    · rw [if_neg b, if_neg (show ¬ 2 * i < pos + 1 by omega)]

theorem impl_DecodeHex_odd (s : ByteArray) (hm : s.size ≤ 1048576) (h1 : s.size % 2 = 1) (w : World) :
    Calls Tryd.prog 16 #[.string s] w fun e w' => e = .returned (.tuple #[.string (hexD s), .bool (hexOk s)]) ∧ Below w.heap.size w w' := by
  have E := Lib.hid (hexOk_odd (s := s) (by omega))
  have hm' : (s.size : Int) ≤ 1048576 := by omega
  have h1' : (((s.size : Int) % 2) != 0) = true := by simp; omega
  go_enter Tryd.func16, Tryd.ntmps16
  go_wp2
  go_ret2
  exact ⟨ret_sb (hexD_no E.out).symm E.out.symm, Below.refl _ _⟩

set_option maxRecDepth 100000 in
set_option maxHeartbeats 400000 in
theorem impl_DecodeHex_even (s : ByteArray) (m : Nat) (hsz : s.size = 2 * m) (hm : s.size ≤ 1048576) (w : World) :
    Calls Tryd.prog 16 #[.string s] w fun e w' => e = .returned (.tuple #[.string (hexD s), .bool (hexOk s)]) ∧ Below w.heap.size w w' := by
  obtain ⟨i0, hi, hz0, hz1, hz2⟩ := info_parts u8_info
  have hm' : (s.size : Int) ≤ 1048576 := by omega
  have h1' : (((s.size : Int) % 2) != 0) = false := by simp; omega
  have hdiv : (s.size : Int) / 2 = (m : Int) := by omega
  have SZ := Lib.hid hsz
  have hle1 : s.size ≤ 2 * m := by omega
  have hle2 : 2 * m ≤ s.size := by omega
  clear hsz
  have hmk : ∀ W : World, (Instr.makeSlice 22 (.int .i64 (m : Int)) (.int .i64 (m : Int))).run Tryd.prog W = .ok (.slice (some ⟨W.heap.size, 0, none⟩) m m) (W.alloc (.cells (madeCells #[.int .u8 0] m) 5)) := fun W => by
    have h := run_make (P := Tryd.prog) W 22 5 i0 (.int .u8 0) Tryd.underlying22 hi hz0 .i64 .i64 (m : Int) (m : Int) (by omega) (by omega) (by rw [hz2]; omega) (by omega)
    rw [hz1, show ((m : Int)).toNat = m by omega, Nat.mul_one] at h
    exact h
  go_enter Tryd.func16, Tryd.ntmps16
  go_wp2
  go_loopw [5] (fun _ wr => ∃ pos : Nat, pos ≤ 2 * m ∧ wr.rowIs w.heap.size 5 m (cellv s pos) ∧ wr.heap[w.heap.size + 1]? = some (.stringIter s pos) ∧ Below w.heap.size w wr ∧ Hid (∀ j, j < pos → 0 ≤ hv (bn s j))) (fun _ wr => s.size - wr.iterPos (w.heap.size + 1))
  case atStart =>
    refine ⟨0, by omega, ((World.rowIs_made _ _ _ _).alloc _).congr (fun i _ => by simp [cellv]), ?_, ((Below.refl _ _).alloc (Nat.le_refl _) _).alloc (by simp) _, Lib.hid (by omega)⟩
    have := World.iter_heap (w.alloc (.cells (madeCells #[.int .u8 0] m) 5)) s 0
    simpa using this
  case round =>
    obtain ⟨pos, hp, hrow, hit, hb, hH⟩ := hrel
    have hmu : wr.iterPos (w.heap.size + 1) = pos := by simp only [World.iterPos, hit]
    by_cases hlt : pos < s.size
    · have hbl := bn_le s pos
      have hg := get_bn s pos hlt
      have hsz1 : w.heap.size + 1 < wr.heap.size := (Array.getElem?_eq_some_iff.1 hit).1
      by_cases hlow : bn s pos < 128
      · obtain ⟨W1, hnx, hrow1, hit1, hb1⟩ : ∃ W1 : World, (∀ ty, (Instr.next (.pointer (some ⟨w.heap.size + 1, 0, none⟩)) true ty).run Tryd.prog wr = .ok (.tuple #[.bool true, .int .i64 pos, .int .i32 (bn s pos)]) W1) ∧
            W1.rowIs w.heap.size 5 m (cellv s pos) ∧ W1.heap[w.heap.size + 1]? = some (.stringIter s (pos + 1)) ∧ Below w.heap.size w W1 :=
          ⟨wr.iterAt (w.heap.size + 1) s (pos + 1), fun ty => by
              have h := Lib.run_next_ascii_at (P := Tryd.prog) wr (w.heap.size + 1) s pos ty hit hlt (by rw [hg]; exact hlow)
              rw [hg] at h
              exact h, hrow.of_block (Lib.iterAt_other _ _ _ _ _ (by omega)), Lib.iterAt_heap _ _ _ _ _ hit, Lib.below_iterAt hb (by omega) _ _⟩
        have HMU := Lib.hid hmu
        clear hg hit hmu
        by_cases hneg : hv (bn s pos) < 0
        · have E := Lib.hid (hexOk_bad hlt hneg)
          go_wp2_with (go_at_call 27; refine (IndexRune_low _ hlow _).mono ?_; rintro e w' ⟨rfl, rfl⟩)
          go_ret2
          exact ⟨ret_sb (hexD_no E.out).symm E.out.symm, hb1⟩
        · have hr := hv_rng (bn s pos)
          obtain ⟨p, hp0, hp1⟩ : ∃ p, pos = 2 * p + pos % 2 ∧ p = pos / 2 := ⟨pos / 2, by omega, rfl⟩
          have hpm : p < m := by omega
          obtain ⟨cx, hcx, hcx0, hcx1, hcx2⟩ : ∃ cx : Int, cellv s pos p = .int .u8 cx ∧ 0 ≤ cx ∧ cx ≤ 15 ∧ Value.int .u8 (cx * 16 + hv (bn s pos)) = cellv s (pos + 1) p := cellv_at s pos p (by omega) (by omega) (fun h => hH.out _ h)
          have hc1 := hrow1.cell hpm
          rw [hcx] at hc1
          have hf1 := hrow1.frozen p
          have hdp : (pos : Int) / 2 = (p : Int) := by omega
          have CX := Lib.hid hcx2
          have P0 := Lib.hid hp0
          have hp2 : 2 * p ≤ pos := by omega
          have hp3 : pos ≤ 2 * p + 1 := by omega
          clear hcx hcx2 hp0 hp1
          go_wp2_with (go_at_call 27; refine (IndexRune_low _ hlow _).mono ?_; rintro e w' ⟨rfl, rfl⟩)
          have hit2 : (W1.setCell ⟨w.heap.size, p, none⟩ (Value.int .u8 (cx * 16 + hv (bn s pos)))).heap[w.heap.size + 1]? = some (.stringIter s (pos + 1)) :=
            (Below.heap_setCell W1 ⟨w.heap.size, p, none⟩ _ (w.heap.size + 1) (by show w.heap.size + 1 ≠ w.heap.size; omega)).trans hit1
          go_roundw
          case rel =>
            refine ⟨pos + 1, by omega, (hrow1.set p _).congr (fun i hi => ?_), hit2, hb1.setCell (Nat.le_refl _) _, Lib.hid (fun j hj => ?_)⟩
            · by_cases e : i = p
              · rw [if_pos e, e]; exact CX.out
              · rw [if_neg e]; exact cellv_other s pos p i hp2 hp3 e
            · by_cases e : j = pos
              · rw [e]; omega
              · exact hH.out j (by omega)
          case measure =>
            have e1 : (W1.setCell ⟨w.heap.size, p, none⟩ (Value.int .u8 (cx * 16 + hv (bn s pos)))).iterPos (w.heap.size + 1) = pos + 1 := by simp only [World.iterPos, hit2]
            rw [e1, HMU.out]
            omega
      · have hd := decode_high s pos hlt (by rw [hg]; omega)
        have hdl := decode_le s pos
        obtain ⟨r, er⟩ : ∃ r, (Utf8.decode s pos).1 = r := ⟨_, rfl⟩
        rw [er] at hd hdl
        obtain ⟨W1, hnx, hb1⟩ : ∃ W1 : World, (∀ ty, (Instr.next (.pointer (some ⟨w.heap.size + 1, 0, none⟩)) true ty).run Tryd.prog wr = .ok (.tuple #[.bool true, .int .i64 pos, .int .i32 r]) W1) ∧ Below w.heap.size w W1 :=
          ⟨wr.iterAt (w.heap.size + 1) s (pos + (Utf8.decode s pos).2), fun ty => by
              have h := Lib.run_next_any_at (P := Tryd.prog) wr (w.heap.size + 1) s pos ty hit hlt
              rw [er] at h
              exact h, Lib.below_iterAt hb (by omega) _ _⟩
        have E := Lib.hid (hexOk_bad hlt (by rw [hv_high (by omega)]; omega))
        have hr1 := hd.1
        clear hg hit hmu er hd hlow
        go_wp2_with (go_at_call 27; refine (IndexRune_high r hr1 hdl _).mono ?_; rintro e w' ⟨rfl, hb2⟩)
        go_ret2
        exact ⟨ret_sb (hexD_no E.out).symm E.out.symm, hb1.trans (hb2.mono hb1.size)⟩
    · have hnx := fun ty => Lib.run_next_end_at (P := Tryd.prog) wr (w.heap.size + 1) s pos ty hit hlt
      obtain rfl : pos = 2 * m := by omega
      have E := Lib.hid (hexOk_all (s := s) (by omega) fun j hj => hH.out j (by omega))
      have hcv := run_convert_bytes_arg (P := Tryd.prog) wr 22 5 Tryd.underlying22 Tryd.underlying5 w.heap.size 0 m m (dhx s m) (dhx_length s m) (fun i hi => by
        rw [Nat.zero_add, hrow.cell hi, dhx_get s m i hi]
        unfold cellv
        rw [if_pos (by omega)]) 9 Tryd.underlying9
      clear hit hmu
      go_wp2
      go_ret2
      exact ⟨ret_sb (by rw [hexD_yes E.out, show s.size / 2 = m by omega]; rfl) E.out.symm, hb⟩

theorem impl_DecodeHex (s : ByteArray) (hm : s.size ≤ 1048576) (w : World) :
    Calls Tryd.prog 16 #[.string s] w fun e w' => e = .returned (.tuple #[.string (hexD s), .bool (hexOk s)]) ∧ Below w.heap.size w w' := by
  by_cases h1 : s.size % 2 = 1
  · exact impl_DecodeHex_odd s hm h1 w
  · exact impl_DecodeHex_even s (s.size / 2) (by omega) hm w
end Go.Proofs.YtnngpppfagiikaaDoor
