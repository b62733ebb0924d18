/- The model's copy of a query. Conditions: none beyond each theorem's own. -/
import Derived.Test.YtimlpdcambmcjaaGreatS23
import Derived.Deep.AppendLies
import Derived.Deep.RegionHeld3

namespace Go.Proofs.YtimlpdcambmcjaaGreat
open Go.ChangeShapes Go.WideShapes Go.ChangeAt Go.RowKit Go.Sort
set_option linter.unusedVariables false
set_option linter.unusedSimpArgs false

set_option maxRecDepth 100000 in
set_option maxHeartbeats 4000000 in
theorem l3Copy_any (H Q : Option Addr) (ch c : Nat) (hs : List Int) (l : FL) (hh : hs.length ≤ 1048576) (hz : szF l ≤ 1048576) (w : World) (h : RI w H hs) (hq : RF w Q l) :
    Calls Tryz.prog 37 #[.agg #[.slice H hs.length ch, .slice Q l.length c]] w (QSo w hs (l)) := by
  obtain ⟨i0, hi, hz0, hz1, hz2⟩ := info_parts int_info
  obtain ⟨j0, hji, jz0, jz1, jz2⟩ := info_parts atom.fact_info
  have hl := szF_len hz
  have hl' : (l.length : Int) ≤ 1048576 := by omega
  obtain ⟨w0, hw0⟩ : ∃ W, W = (w.alloc (.cells #[.slice H hs.length ch, .slice Q l.length c] 29)).alloc (.cells #[.slice none 0 0, .slice none 0 0] 29) := ⟨_, rfl⟩
  have E0 := Lib.hid hw0
  have S0 := Lib.hid (show w0.heap.size = w.heap.size + 1 + 1 by rw [hw0, al_size, al_size])
  have B0 := Lib.hid (show Below w.heap.size w w0 by rw [hw0]; exact step (below_alloc w _) (below_alloc _ _))
  have X0 := Lib.hid (show Box w0 w.heap.size #[.slice H hs.length ch, .slice Q l.length c] 29 by rw [hw0]; exact (Box.new w _ _).step (below_alloc _ _))
  have Y0 := Lib.hid (show Box w0 (w.heap.size + 1) #[.slice none 0 0, .slice none 0 0] 29 by
    rw [hw0]
    have h := Box.new (w.alloc (.cells #[.slice H hs.length ch, .slice Q l.length c] 29)) #[.slice none 0 0, .slice none 0 0] 29
    rwa [al_size] at h)
  have HI := Lib.hid ((h.step B0.out).step (below_alloc w0 (.cells #[] 3)))
  have HQ := Lib.hid hq
  have LL := Lib.hid (show (w0.alloc (.cells #[] 3)).ownsRow (w.heap.size + 1 + 1) 3 1 (.slice (some ⟨w.heap.size + 1 + 1, 0, none⟩) 0 0) 0 [] by
    have := World.ownsRow_lit (base := w.heap.size + 1 + 1) (e := 3) (size := 1) w0 #[] 0 (by rw [S0.out]; exact Nat.le_refl _) (by unfold maxLen; omega) rfl
    rwa [S0.out] at this)
  clear h hq hw0
  go_enter Tryz.func37, Tryz.ntmps37
  go_wp2_with (at_builtin; rw [← E0.out]; refine wpList_append_nums rfl _ _ 22 rfl (w.heap.size + 1 + 1) 3 i0 Tryz.underlying22 hi hz0 hz1 hz2 (.slice (some ⟨w.heap.size + 1 + 1, 0, none⟩) 0 0) 0 [] rfl LL.out _ _ H ch hs rfl HI.out (by omega) (by simp; have := S0.out; omega) ?_; intro v' w5 hown hg hat
               have hown' : w5.ownsRow (w.heap.size + 1 + 1) 3 1 v' (0 + hs.length) (hs.map (Value.int .i64)) := by simpa using hown
               obtain ⟨q, hv⟩ := ownV_of_row hown'
               obtain ⟨AH, cH, rfl, _, _⟩ := hv.form
               have HV := Lib.hid hv
               have D5 := Lib.hid (show Below (w.heap.size + 1 + 1) w0 w5 from ((below_alloc w0 (.cells #[] 3)).mono (by rw [S0.out]; exact Nat.le_refl _)).grown hg (by simp; have := S0.out; omega) (fun k hk => by have := own_some hk; omega))
               clear hown hown' hv hg hat)
  have s5 := D5.out.size
  have t0 := S0.out
  have g5e := Lib.hid (show w.heap.size + 1 + 1 ≤ w5.heap.size by omega)
  obtain ⟨g5, hg5⟩ : ∃ g, g = w5.heap.size := ⟨_, rfl⟩
  have gl : w.heap.size + 1 + 1 ≤ g5 := by omega
  have hb6 := below_alloc w5 (.cells #[.slice AH hs.length cH, .slice none 0 0] 29)
  have Z6 := Lib.hid (show Box (w5.alloc (.cells #[.slice AH hs.length cH, .slice none 0 0] 29)) g5 #[.slice AH hs.length cH, .slice none ([] : FL).length 0] 29 by rw [hg5]; exact Box.new _ _ _)
  have X6 := Lib.hid (show Box (w5.alloc (.cells #[.slice AH hs.length cH, .slice none 0 0] 29)) w.heap.size _ _ from (hb6.block _ (by omega)).trans ((D5.out.block _ (by omega)).trans X0.out))
  have Y6 := Lib.hid (show Box (w5.alloc (.cells #[.slice AH hs.length cH, .slice none 0 0] 29)) (w.heap.size + 1) _ _ from (hb6.block _ (by omega)).trans ((D5.out.block _ (by omega)).trans Y0.out))
  have B6 := Lib.hid (show Below w.heap.size w (w5.alloc (.cells #[.slice AH hs.length cH, .slice none 0 0] 29)) from (B0.out.trans (D5.out.mono (by omega))).trans (hb6.mono (by omega)))
  have G6 := Lib.hid (show Below g5 w5 (w5.alloc (.cells #[.slice AH hs.length cH, .slice none 0 0] 29)) by rw [hg5]; exact hb6)
  have Z7 : g5 + 1 = (w5.alloc (.cells #[.slice AH hs.length cH, .slice none 0 0] 29)).heap.size := by rw [al_size, hg5]
  have R5 := Lib.hid (show RI w5 AH hs from (HV.out.ints).2.2.2.mono (Nat.zero_le _) (Nat.le_refl _))
  clear hb6
  rw [← hg5]
  have GE := Lib.hid hg5
  obtain ⟨w6, hw6⟩ : ∃ W, W = w5.alloc (.cells #[.slice AH hs.length cH, .slice none 0 0] 29) := ⟨_, rfl⟩
  rw [← hw6] at Z6 X6 Y6 B6 G6 Z7 ⊢
  clear hg5 hw6 t0 s5
  go_loopw [4] (fun i wr => ∃ (k : Nat) (out : FL) (cs : List Value) (bs : Nat → Nat) (A2 : Option Addr) (c2 : Nat), k ≤ l.length ∧ i = .int .i64 k ∧ Hid (out = (l.take k)) ∧ out.length ≤ k ∧ Box wr g5 #[.slice AH hs.length cH, .slice A2 out.length c2] 29 ∧ Hid (atom.OwnC wr (g5 + 1) wr.heap.size (.slice A2 out.length c2) out cs bs) ∧ Hid (Box wr w.heap.size #[.slice H hs.length ch, .slice Q l.length c] 29) ∧ Hid (Box wr (w.heap.size + 1) #[.slice none 0 0, .slice none 0 0] 29) ∧ Hid (Below w.heap.size w wr) ∧ Hid (Below g5 w5 wr) ∧ g5 + 1 ≤ wr.heap.size) (fun i _ => l.length - (intOf i).toNat)
  case atStart => exact ⟨0, [], [], fun _ => 0, none, 0, by omega, rfl, Lib.hid (by simp), by simp, Z6.out, Lib.hid (ownC_nilD _ _ _), X6, Y6, B6, G6, by omega⟩
  case round =>
    obtain ⟨k, out, cs, bs, A2, c2, hk, rfl, hO2, hle, hZ0, hO, hX, hY, hB, hG, hsz⟩ := hrel
    have hZ := Lib.hid hZ0
    clear hZ0
    have x1 := hX.out.cell 1
    have q0 := hZ.out.cell 0
    have q1 := hZ.out.cell 1
    have q2 := hZ.out.frozen 0
    have q3 := hZ.out.frozen 1
    simp only [List.getElem?_toArray, List.getElem?_cons_zero, List.getElem?_cons_succ] at x1 q0 q1
    have hk0 : (0 : Int) ≤ (k : Int) := by omega
    by_cases hlt : k < l.length
    · generalize hf : l.getD k (0, []) = f
      obtain ⟨r, xs⟩ := f
      have NT := Lib.hid (show out ++ [(r, xs)] = l.take (k + 1) by rw [take_snocA l hlt hf, ← hO2.out])
      have hxl : xs.length ≤ 1048576 := by have := szF_elem hz hlt; rw [hf] at this; exact this
      have hk1 : (k : Int) < (l.length : Int) := by omega
      obtain ⟨b, off, B, c3, rfl, nb, e0w, e1w, _, hcm, hJw⟩ := HQ.out.at_ hlt hf
      clear hf
      have e0 := (hB.out.cell (p := ⟨b, off + k * 2, none⟩) nb).trans e0w
      have e1 := (hB.out.cell (p := ⟨b, off + k * 2 + 1, none⟩) nb).trans e1w
      have XA := Lib.hid fun (W : World) (b : Below wr.heap.size wr W) => (l3Atom_any r B c3 xs hxl W ((hJw.step hB.out).step b)).mono fun _ _ h => h.toR
      clear hJw e0w e1w q0 q2
      go_wp2
      go_region_law (first
        | (refine callV2 rfl 73 _ _ _ _ rfl (.int .i64 r) (.slice B xs.length c3) rfl rfl (by kernel_rfl) (R := fun v' w' => ∃ A c q, v' = .agg #[.int .i64 r, .slice A xs.length c] ∧ OwnV w' wr.heap.size w'.heap.size (.slice A xs.length c) q xs ∧ Below wr.heap.size wr w') ((XA.out _ (by first | exact Below.refl _ _ | exact below_drew _)).mono (fun e w' h => by
             obtain ⟨v, e1, A, c, q, e2, e3, e4⟩ := h
             exact ⟨v, e1, A, c, q, e2, e3, by first | exact e4 | exact und e4 | exact undN e4⟩)) ?_
           rintro _ u5 ⟨A5, c5, q5, rfl, hv5, b5⟩
           have q15 := (b5.cell (p := ⟨g5, 1, none⟩) (by (try simp) <;> omega)).trans q1
           have q17 := ((below_alloc u5 (.cells #[.int .i64 r, .slice A5 xs.length c5] 67)).cell (p := ⟨g5, 1, none⟩) (by have := b5.size; (try simp) <;> omega)).trans q15
           have HV5 := Lib.hid hv5
           have B5 := Lib.hid b5
           have HO5 := Lib.hid ((hO.out.cur (Nat.le_refl _) b5).cur b5.size (below_alloc u5 (.cells #[.int .i64 r, .slice A5 xs.length c5] 67)))
           clear hv5 b5 x1 e0 e1)
        | (refine step_append_lies _ (by rfl) _ _ _ (by rfl) (g5 + 1) 67 j0 _ 2 32 Tryz.underlying27 hji jz0 jz1 jz2 rfl (by omega) (.slice A2 out.length c2) out.length cs (by rfl) (by first | exact HO5.out.1 | exact HO5.out.1.drew)
             ⟨u5.heap.size, 0, none⟩ 1 1 [.int .i64 r, .slice A5 xs.length c5] (by rfl) (by rfl) (World.news_of_block (cs := #[.int .i64 r, .slice A5 xs.length c5]) (t := 67) (fr := (0, 0)) (heap_alloc_new u5 _)) (by simp [Value.oneCell']) (by omega) (by unfold maxLen; omega) (by omega) (by have := B5.out.size; (try simp) <;> omega) (u5.heap.size + 1) (by simp) ?_
           intro g31 cap31 v31 hown31 hgrow31 hat31 hlt31
           obtain ⟨bs31, ho31, b31⟩ := app_done hsz B5.out HV5.out HO5.out ⟨hgrow31.os, hgrow31.tape, hgrow31.output, hgrow31.size, hgrow31.block⟩ hown31
           have HO31 := Lib.hid ho31
           have HB31 := Lib.hid b31
           have q16 := (b31.cell (p := ⟨g5, 1, none⟩) (by (try simp) <;> omega)).trans q1
           have q36 := (b31.frozen (p := ⟨g5, 1, none⟩) (by (try simp) <;> omega)).trans q3
           clear hown31 hgrow31 hat31 hlt31 ho31 b31 q15 q17))
      all_goals
        have z31 := HB31.out.size
        clear q16 q36 q1 q3
        go_wp2
        go_roundw
        case rel => exact ⟨k + 1, out ++ [(r, xs)], _, bs31, some ⟨g31, 0, none⟩, cap31, by omega, by go_num, NT, by rw [List.length_append]; simp; omega, drp_rel gl hsz hZ.out HO31.out hX.out hY.out hB.out hG.out HB31.out⟩
        case measure => simp [intOf]; omega
    · obtain rfl : k = l.length := by omega
      have OO := Lib.hid (show out = l by rw [hO2.out, List.take_length])
      have y0 := hY.out.cell 0
      have y1 := hY.out.cell 1
      have y2 := hY.out.frozen 0
      have y3 := hY.out.frozen 1
      have yl := hY.out.lt
      simp only [List.getElem?_toArray, List.getElem?_cons_zero, List.getElem?_cons_succ] at y0 y1
      go_wp2
      refine bodyPost_ret (v := .agg #[.slice AH hs.length cH, .slice A2 out.length c2]) (by simp [results, Tryz.results37, go_sem, y0, y1, y2, y3]) rfl ?_
      rw [← OO.out]
      refine ⟨AH, A2, cH, c2, rfl, ?_, ?_, ?_⟩
      · have hv := (show Ints w5 (w.heap.size + 1 + 1) w5.heap.size AH hs from (HV.out.ints).2.2.2)
        have h1 : Ints wr (w.heap.size + 1 + 1) w5.heap.size AH hs := hv.keep fun b _ hb => hG.out.block b (by have := GE.out; omega)
        have h2 := (h1.keep (fun b hb _ => Below.heap_setCell wr ⟨w.heap.size + 1, 0, none⟩ (.slice AH hs.length cH) b (by (try simp); omega)))
        have h3 := (h2.keep (fun b hb _ => Below.heap_setCell _ ⟨w.heap.size + 1, 1, none⟩ (.slice A2 out.length c2) b (by (try simp); omega)))
        exact h3.mono (Nat.zero_le _) (by rw [size2]; have := GE.out; omega)
      · have h1 := ownC_setD (p := ⟨w.heap.size + 1, 1, none⟩) (u := .slice A2 out.length c2) (ownC_setD (p := ⟨w.heap.size + 1, 0, none⟩) (u := .slice AH hs.length cH) hO.out (by (try simp); omega)) (by (try simp); omega)
        exact atom.OwnC.rf (lo := g5 + 1) (by rw [size2]; exact h1)
      · exact Below.setCell (Below.setCell hB.out (by (try simp) <;> omega) _) (by (try simp) <;> omega) _

end Go.Proofs.YtimlpdcambmcjaaGreat
