/- What the model's l9Freeze answers. Conditions: none beyond each theorem's own. -/
import Derived.Test.YtimlpdcambmcjaaGreatS37

namespace Go.Proofs.YtimlpdcambmcjaaGreat
open Go.ChangeShapes Go.WideShapes Go.ChangeAt Go.RowKit Go.Sort
set_option linter.unusedVariables false
set_option linter.unusedSimpArgs false

set_option maxRecDepth 100000 in
set_option maxHeartbeats 8000000 in
theorem l9Freeze_any (H Q H' Q' : Option Addr) (ch c ch' c' : Nat) (hs : List Int) (l : FL) (hs' : List Int) (l' : FL) (hh : hs.length ≤ 1048576) (hz : szF l ≤ 1000000) (hz' : szF l' ≤ 1048576) (w : World) (hH : RI w H hs) (hQ : RF w Q l) (hQ' : RF w Q' l') :
    Calls Tryz.prog 79 #[.agg #[.slice H hs.length ch, .slice Q l.length c], .agg #[.slice H' hs'.length ch', .slice Q' l'.length c']] w
      (FzS w ((frzR (wl 0 9 (terms (apartL l (wl 0 9 (terms l'))))) (wl 10 17 (terms (apartL l (wl 0 9 (terms l'))))) (apartL l (wl 0 9 (terms l')))).filter isRel) (frzL (wl 0 9 (terms (apartL l (wl 0 9 (terms l'))))) (wl 10 17 (terms (apartL l (wl 0 9 (terms l')))))) (frzV (wl 0 9 (terms (apartL l (wl 0 9 (terms l'))))) (wl 10 17 (terms (apartL l (wl 0 9 (terms l')))))) (frzO (wl 0 9 (terms (apartL l (wl 0 9 (terms l'))))) (wl 10 17 (terms (apartL l (wl 0 9 (terms l'))))))) := by
  obtain ⟨i0, hi, hz0, hz1, hz2⟩ := info_parts fact_info
  obtain ⟨j0, hji, jz0, jz1, jz2⟩ := info_parts atom.fact_info
  have hl := szF_len (l := l) (by omega)
  obtain ⟨w0, hw0⟩ : ∃ W, W = ((w.alloc (.cells #[.slice H hs.length ch, .slice Q l.length c] 29)).alloc (.cells #[.slice H' hs'.length ch', .slice Q' l'.length c'] 29)).alloc (.cells #[.slice none 0 0, .slice none 0 0] 100) := ⟨_, rfl⟩
  have b1 := below_alloc w (.cells #[.slice H hs.length ch, .slice Q l.length c] 29)
  have b2 := below_alloc (w.alloc (.cells #[.slice H hs.length ch, .slice Q l.length c] 29)) (.cells #[.slice H' hs'.length ch', .slice Q' l'.length c'] 29)
  have b3 := below_alloc ((w.alloc (.cells #[.slice H hs.length ch, .slice Q l.length c] 29)).alloc (.cells #[.slice H' hs'.length ch', .slice Q' l'.length c'] 29)) (.cells #[.slice none 0 0, .slice none 0 0] 100)
  have E0 := Lib.hid hw0
  have S0 := Lib.hid (show w0.heap.size = w.heap.size + 1 + 1 + 1 by rw [hw0, al_size, al_size, al_size])
  have B0 := Lib.hid (show Below w.heap.size w w0 by rw [hw0]; exact step (step b1 b2) b3)
  have Q0 := Lib.hid (show Box w0 (w.heap.size + 1) #[.slice H' hs'.length ch', .slice Q' l'.length c'] 29 by
    have h := Box.new (w.alloc (.cells #[.slice H hs.length ch, .slice Q l.length c] 29)) #[.slice H' hs'.length ch', .slice Q' l'.length c'] 29
    rw [al_size] at h
    rw [hw0]; exact h.step b3)
  have R0 := Lib.hid (show Box w0 (w.heap.size + 1 + 1) #[.slice none 0 0, .slice none 0 0] 100 by
    have h := Box.new ((w.alloc (.cells #[.slice H hs.length ch, .slice Q l.length c] 29)).alloc (.cells #[.slice H' hs'.length ch', .slice Q' l'.length c'] 29)) #[.slice none 0 0, .slice none 0 0] 100
    rw [al_size, al_size] at h
    rw [hw0]; exact h)
  have XL := Lib.hid (l3Copy_own H Q ch c hs l hh (by omega) w0 (hH.step B0.out) (hQ.step B0.out))
  have XC := Lib.hid fun (W : World) (b : Below w.heap.size w W) => spec_ConstantsOf H' Q' ch' c' hs' l' hz' W (hQ'.step b)
  have hcl := wl_len 0 9 (terms l')
  generalize wl 0 9 (terms l') = cv at XC hcl ⊢
  have hcl2 : cv.length ≤ 10 := by omega
  clear b1 b2 b3 hH hQ hQ' hw0 hcl
  go_enter Tryz.func79, Tryz.ntmps79
  go_wp2_with fail
  rw [← E0.out]
  refine XL.out.mono ?_
  rintro e u1 ⟨H1, A1, h1, c1, lo, cs1, bs1, rfl, _, _, hO1, hlo1, hlo2, d1⟩
  have B1 := Lib.hid (step B0.out d1)
  have Q1 := Lib.hid (Q0.out.step d1)
  have R1 := Lib.hid (R0.out.step d1)
  have O1 := Lib.hid hO1
  have s1 := d1.size
  have s0 := S0.out
  have b2 := below_alloc u1 (.cells #[.slice H1 hs.length h1, .slice A1 l.length c1] 29)
  have X2 := Lib.hid (Box.new u1 #[.slice H1 hs.length h1, .slice A1 l.length c1] 29)
  have q0 := (Q1.out.step b2).cell 0
  have q1 := (Q1.out.step b2).cell 1
  simp only [List.getElem?_toArray, List.getElem?_cons_zero, List.getElem?_cons_succ] at q0 q1
  have Z2 : (u1.alloc (.cells #[.slice H1 hs.length h1, .slice A1 l.length c1] 29)).heap.size = u1.heap.size + 1 := al_size _ _
  have B2 := Lib.hid (step B1.out b2)
  have R2 := Lib.hid (R1.out.step b2)
  have O2 := Lib.hid (hO1.cur (Nat.le_refl _) b2)
  obtain ⟨u2, hu2⟩ : ∃ W, W = u1.alloc (.cells #[.slice H1 hs.length h1, .slice A1 l.length c1] 29) := ⟨_, rfl⟩
  rw [← hu2] at X2 Z2 B2 R2 O2
  have E2 := Lib.hid hu2
  have OB1 := Lib.hid (show ∀ g, (Value.slice A1 l.length c1).ownBlock = some g → g < u2.heap.size from fun g e => by have := (O2.out.1.lt g e).2; omega)
  clear hO1 d1 hu2 b2
  go_wp2_with fail
  rw [← E2.out]
  refine (XC.out _ B2.out).mono ?_
  rintro e u3 ⟨A3, c3, rfl, hi3, d3⟩
  have B3 := Lib.hid (step B2.out d3)
  have R3 := Lib.hid (R2.out.step d3)
  have X3 := Lib.hid (X2.out.step d3)
  have O3 := Lib.hid (O2.out.cur (by omega) d3)
  have I3 := Lib.hid hi3
  have s3 := d3.size
  obtain ⟨gx, hgx⟩ : ∃ g, g = u1.heap.size := ⟨_, rfl⟩
  rw [← hgx] at X3 ⊢
  have gx1 : lo ≤ gx := by omega
  have gx2 : gx < u2.heap.size := by omega
  have gx4 : u1.heap.size ≤ u2.heap.size := by omega
  have gx3 : w.heap.size + 3 ≤ lo := by omega
  clear hi3 d3 q0 q1 hgx Z2 s0
  go_wp2
  go_loopw [9] (fun i wr => ∃ (k : Nat) (out : FL) (cs : List Value) (bs : Nat → Nat) (A2 : Option Addr) (c2 : Nat), k ≤ cv.length ∧ i = .int .i64 k ∧ Hid (out = apartL l (cv.take k)) ∧ out.length ≤ l.length + k ∧ Box wr gx #[.slice H1 hs.length h1, .slice A2 out.length c2] 29 ∧ Hid (atom.OwnC wr lo wr.heap.size (.slice A2 out.length c2) out cs bs) ∧ Hid (∀ b, u2.heap.size ≤ b → b < u3.heap.size → wr.heap[b]? = u3.heap[b]?) ∧ Hid (∀ g, (Value.slice A2 out.length c2).ownBlock = some g → g < u2.heap.size ∨ u3.heap.size ≤ g) ∧ Hid (Below lo u3 wr) ∧ u3.heap.size ≤ wr.heap.size) (fun i _ => cv.length - (intOf i).toNat)
  case atStart => exact ⟨0, l, cs1, bs1, A1, c1, by omega, rfl, Lib.hid (by simp [apartL]), by omega, X3.out, Lib.hid ⟨O3.out.1, O3.out.2.mono (Nat.le_refl _) (by omega)⟩, Lib.hid (fun _ _ _ => rfl), Lib.hid (fun g e => .inl (OB1.out g e)), Lib.hid (Below.refl _ _), Nat.le_refl _⟩
  case round =>
    obtain ⟨k, out, cs, bs, A2, c2, hk, rfl, hO2, hle, hZ0, hO, hK, hG, hB, hsz⟩ := hrel
    have hZ := Lib.hid hZ0
    clear hZ0
    have q0 := hZ.out.cell 0
    have q1 := hZ.out.cell 1
    have q2 := hZ.out.frozen 0
    have q3 := hZ.out.frozen 1
    simp only [List.getElem?_toArray, List.getElem?_cons_zero, List.getElem?_cons_succ] at q0 q1
    have hk0 : (0 : Int) ≤ (k : Int) := by omega
    have zl := hZ.out.lt
    by_cases hlt : k < cv.length
    · have hk1 : (k : Int) < (cv.length : Int) := by omega
      have hrow : Ints wr u2.heap.size u3.heap.size A3 cv := I3.out.keep fun b a b' => hK.out b a b'
      have hrr : RI wr A3 cv := hrow.mono (Nat.zero_le _) hsz
      obtain ⟨b, off, rfl, nb, e0⟩ := hrr.at_ hlt
      generalize hx : cv.getD k 0 = v at e0
      have NT := Lib.hid (show out ++ [(3, [v])] = apartL l (cv.take (k + 1)) by rw [apart_take l cv hlt hx, ← hO2.out])
      have HW := Lib.hid (hO.out.cur (Nat.le_refl _) (step (below_alloc wr (.cells #[.int .i64 v] 3)) (below_alloc _ (.cells #[.int .i64 3, .slice (some ⟨wr.heap.size, 0, none⟩) 1 1] 67))))
      clear hx hrow hrr
      go_wp2
      go_region_law (refine step_append_lies _ (by rfl) _ _ _ (by rfl) lo 67 j0 _ 2 32 Tryz.underlying27 hji jz0 jz1 jz2 rfl (by omega) (.slice A2 out.length c2) out.length cs (by rfl) (by first | exact HW.out.1 | exact HW.out.1.drew) ⟨wr.heap.size + 1, 0, none⟩ 1 1 [.int .i64 3, .slice (some ⟨wr.heap.size, 0, none⟩) 1 1] (by rfl) (by rfl) (by have h := World.news_of_block (cs := #[.int .i64 3, .slice (some ⟨wr.heap.size, 0, none⟩) 1 1]) (t := 67) (fr := (0, 0)) (heap_alloc_new (wr.alloc (.cells #[.int .i64 v] 3)) _); rw [al_size] at h; exact h) (by simp [Value.oneCell']) (by omega) (by unfold maxLen; omega) (by omega) (by (try simp) <;> omega) (wr.heap.size + 1 + 1) (by simp) ?_
                     intro g31 cap31 v31 hown31 hgrow31 hat31 hlt31
                     obtain ⟨⟨bs31, ho31⟩, b31, z31⟩ := apart_done (by omega) hO.out hZ.out ⟨hgrow31.os, hgrow31.tape, hgrow31.output, hgrow31.size, hgrow31.block⟩ hown31
                     have HG31 := Lib.hid (show ((wr.alloc (.cells #[.int .i64 v] 3)).alloc (.cells #[.int .i64 3, .slice (some ⟨wr.heap.size, 0, none⟩) 1 1] 67)).grownBy v31 (Value.slice A2 out.length c2).ownBlock from ⟨hgrow31.os, hgrow31.tape, hgrow31.output, hgrow31.size, hgrow31.block⟩)
                     have HA31 := Lib.hid hat31
                     have HO31 := Lib.hid ho31
                     have HB31 := Lib.hid b31
                     have HZ31 := Lib.hid z31
                     have q16 := z31.cell 1
                     have q36 := z31.frozen 1
                     simp only [List.getElem?_toArray, List.getElem?_cons_zero, List.getElem?_cons_succ] at q16
                     clear hown31 hgrow31 hat31 hlt31 ho31 b31 z31)
      all_goals
        have z31 := HB31.out.size
        have y31 := HG31.out.size
        rw [al_size, al_size] at y31
        have el : (out ++ [((3 : Int), [v])]).length = out.length + 1 := by simp
        clear q16 q36 q0 q1 q2 q3 e0
        go_wp2
        go_roundw
        case rel =>
          refine ⟨k + 1, out ++ [(3, [v])], cs ++ [.int .i64 3, .slice (some ⟨wr.heap.size, 0, none⟩) 1 1], bs31, some ⟨g31, 0, none⟩, cap31, by omega, by go_num, NT, by rw [el]; omega, ?_, Lib.hid ?_, Lib.hid (fun b a b' => ?_), Lib.hid (fun g e => ?_), Lib.hid ((hB.out.trans (HB31.out.mono (by omega))).setCell (by (try simp) <;> omega) _), by rw [set_size]; omega⟩
          · rw [el]; exact box_set1 HZ31.out
          · rw [set_size, el]; exact ownC_setT HO31.out HZ31.out
          · refine (Below.heap_setCell _ ⟨gx, 1, none⟩ _ b (by (try simp); omega)).trans (((HG31.out.block b (by rw [al_size, al_size]; omega) (fun e => ?_)).trans ((below_alloc _ _).block b (by rw [al_size]; omega))).trans (((below_alloc _ _).block b (by omega)).trans (hK.out b a b')))
            have := hG.out b e.symm
            omega
          · have eg : g31 = g := own_some (by rw [el] at e; exact e)
            rcases HA31.out with h | h
            · exact hG.out g (by rw [← eg]; exact h)
            · exact .inr (by omega)
        case measure => simp [intOf]; omega
    · obtain rfl : k = cv.length := by omega
      have OE := Lib.hid (show out = apartL l cv by rw [hO2.out, List.take_length])
      have hz9 := apart_sz l cv
      have XF := Lib.hid (show Calls Tryz.prog 120 #[.agg #[.slice H1 hs.length h1, .slice A2 out.length c2]] wr (FzT wr (frzR (wl 0 9 (terms out)) (wl 10 17 (terms out)) out) (frzL (wl 0 9 (terms out)) (wl 10 17 (terms out))) (frzV (wl 0 9 (terms out)) (wl 10 17 (terms out))) (frzO (wl 0 9 (terms out)) (wl 10 17 (terms out)))) from spec_FreezeQuery_t H1 A2 h1 c2 hs out hh (by rw [OE.out, hz9]; omega) wr hO.out.rf)
      have hF24 := frzR_len (wl 0 9 (terms out)) (wl 10 17 (terms out)) out
      generalize hG1 : frzR (wl 0 9 (terms out)) (wl 10 17 (terms out)) out = F at XF hF24
      generalize hG2 : frzL (wl 0 9 (terms out)) (wl 10 17 (terms out)) = us at XF
      generalize hG3 : frzV (wl 0 9 (terms out)) (wl 10 17 (terms out)) = vs at XF
      generalize hG4 : frzO (wl 0 9 (terms out)) (wl 10 17 (terms out)) = ok at XF
      have HG1 := Lib.hid hG1
      have HG2 := Lib.hid hG2
      have HG3 := Lib.hid hG3
      have HG4 := Lib.hid hG4
      clear hG1 hG2 hG3 hG4
      have B4 := Lib.hid (B3.out.trans (hB.out.mono (by omega)))
      have R4 := Lib.hid (show Box wr (w.heap.size + 1 + 1) #[.slice none 0 0, .slice none 0 0] 100 from (hB.out.block _ (by omega)).trans R3.out)
      have hFl : F.length ≤ 1048586 := by omega
      have hFl' : (F.length : Int) ≤ 1048586 := by omega
      clear hz9 q2 q3
      generalize wr = wq at *
      go_wp2_with fail
      refine XF.out.mono ?_
      rintro e u7 ⟨A7, c7, X7, cx, Y7, cy, rfl, hf7, rx7, ry7, d7⟩
      have B7 := Lib.hid (step B4.out d7)
      have R7 := Lib.hid (R4.out.step d7)
      have F7 := Lib.hid hf7
      have RX := Lib.hid rx7
      have RY := Lib.hid ry7
      have s7 := d7.size
      have s4 := B4.out.size
      have b8 := below_alloc u7 (.cells #[.slice X7 us.length cx, .slice Y7 vs.length cy] 100)
      have b9 := below_alloc (u7.alloc (.cells #[.slice X7 us.length cx, .slice Y7 vs.length cy] 100)) (.cells #[] 77)
      have D9 := Lib.hid (step b8 b9)
      have K9 := Lib.hid ((Box.new u7 #[.slice X7 us.length cx, .slice Y7 vs.length cy] 100).step b9)
      have C9 := Lib.hid (show FC wq.heap.size u7 ((u7.alloc (.cells #[.slice X7 us.length cx, .slice Y7 vs.length cy] 100)).alloc (.cells #[] 77)) (u7.heap.size + 1) (.slice (some ⟨u7.heap.size + 1, 0, none⟩) ([] : FL).length 0) [] from ⟨[], by
        have h := World.ownsRow_lit (base := u7.heap.size + 1) (e := 77) (size := 2) (u7.alloc (.cells #[.slice X7 us.length cx, .slice Y7 vs.length cy] 100)) #[] 0 (by rw [al_size]; omega) (by unfold maxLen; omega) rfl
        rw [al_size] at h
        exact h, fun k hk => by simp at hk⟩)
      clear hf7 rx7 ry7 d7 b8 b9 q0 q1
      obtain ⟨u9, hu9⟩ : ∃ W, W = (u7.alloc (.cells #[.slice X7 us.length cx, .slice Y7 vs.length cy] 100)).alloc (.cells #[] 77) := ⟨_, rfl⟩
      have S9 : u9.heap.size = u7.heap.size + 1 + 1 := by rw [hu9, al_size, al_size]
      rw [← hu9] at D9 K9 C9
      have E9 := Lib.hid hu9
      clear hu9
      go_wp2
      rw [← E9.out]
      go_loopw [13, 14] (fun o i wr => ∃ (k : Nat) (A : Option Addr) (ca : Nat) (ou : FL), k ≤ F.length ∧ i = .int .i64 k ∧ o = .slice A ou.length ca ∧ Hid (ou = (F.take k).filter isRel) ∧ ou.length ≤ k ∧ Hid (FC wq.heap.size u7 wr (u7.heap.size + 1) (.slice A ou.length ca) ou) ∧ Hid (Below (u7.heap.size + 1) u9 wr) ∧ u9.heap.size ≤ wr.heap.size) (fun _ i _ => F.length - (intOf i).toNat)
      case atStart => exact ⟨0, _, 0, [], by omega, rfl, rfl, Lib.hid rfl, Nat.le_refl _, C9, Lib.hid (Below.refl _ _), Nat.le_refl _⟩
      case round =>
        obtain ⟨k, A, ca, ou, hk, rfl, rfl, hOU, hle2, hC, hB9, hsz9⟩ := hrel
        have hk0 : (0 : Int) ≤ (k : Int) := by omega
        have DW := Lib.hid (show Below u7.heap.size u7 wr from D9.out.trans (hB9.out.mono (by omega)))
        by_cases hlt2 : k < F.length
        · have hk1 : (k : Int) < (F.length : Int) := by omega
          generalize hf : F.getD k (0, []) = f
          obtain ⟨r, xs⟩ := f
          have TK := Lib.hid (isRel_take F hlt2 hf)
          obtain ⟨b, off, B, c5, rfl, nb1, nb2, e0w, e1w, hxc, hcm, hJ⟩ := F7.out.at_ hlt2 hf
          have e0 := (DW.out.cell (p := ⟨b, off + k * 2, none⟩) nb2).trans e0w
          have e1 := (DW.out.cell (p := ⟨b, off + k * 2 + 1, none⟩) nb2).trans e1w
          have HJ := Lib.hid hJ
          clear hf e0w e1w hJ
          by_cases hr : r < 3
          · have TE := Lib.hid (show ou ++ [(r, xs)] = (F.take (k + 1)).filter isRel by rw [TK.out, if_pos hr, ← hOU.out])
            have hr1 : decide (r < 3) = true := decide_eq_true hr
            go_wp2_with (at_builtin; refine wpList_pushFC (u := u7) (lo := wq.heap.size) rfl _ _ 46 rfl i0 _ Tryz.underlying46 hi hz0 hz1 hz2 rfl rfl rfl hC.out hxc hcm HJ.out (by omega) (by omega) ?_; intro v' w' hc' hb')
            obtain ⟨A5, c5', rfl⟩ := hc'.form
            have C5 := Lib.hid hc'
            have D5 := Lib.hid hb'
            have s5 := hb'.size
            clear hc' hb' e0 e1 hr hr1
            go_roundw
            case rel => exact ⟨k + 1, A5, c5', _, by omega, by go_num, rfl, TE, by rw [List.length_append]; simp; omega, C5, Lib.hid (hB9.out.trans D5.out), by omega⟩
            case measure => simp [intOf]; omega
          · have TE := Lib.hid (show ou = (F.take (k + 1)).filter isRel by rw [TK.out, if_neg hr, List.append_nil, ← hOU.out])
            have hr1 : decide (r < 3) = false := decide_eq_false hr
            go_wp2
            go_roundw
            case rel => exact ⟨k + 1, A, ca, ou, by omega, by go_num, rfl, TE, by omega, hC, hB9, hsz9⟩
            case measure => simp [intOf]; omega
        · obtain rfl : k = F.length := by omega
          have OE2 := Lib.hid (show ou = F.filter isRel by rw [hOU.out, List.take_length])
          have R8 := Lib.hid (R7.out.step DW.out)
          have K8 := Lib.hid (show Box wr u7.heap.size #[.slice X7 us.length cx, .slice Y7 vs.length cy] 100 from (hB9.out.block _ (by omega)).trans K9.out)
          have r0 := R8.out.cell 0
          have r1 := R8.out.cell 1
          have r2 := R8.out.frozen 0
          have r3 := R8.out.frozen 1
          have y0 := K8.out.cell 0
          have y1 := K8.out.cell 1
          have rl := R8.out.lt
          simp only [List.getElem?_toArray, List.getElem?_cons_zero, List.getElem?_cons_succ] at r0 r1 y0 y1
          have PX9 := Lib.hid (show RW wr X7 us from RX.out.step DW.out)
          have PY9 := Lib.hid (show RW wr Y7 vs from RY.out.step DW.out)
          have FX := Lib.hid (hC.out.facts DW.out (by omega))
          have B9 := Lib.hid (step B7.out DW.out)
          go_wp2
          go_region
          all_goals
            go_wp2
            refine bodyPost_ret (v := .tuple #[.slice A ou.length ca, .agg #[.slice X7 us.length cx, .slice Y7 vs.length cy], .bool ok]) (by simp [results, Tryz.results79, go_sem, r0, r1, r2, r3]) rfl ?_
            rw [← OE.out, HG1.out, HG2.out, HG3.out, HG4.out, ← OE2.out]
            have hkk : ∀ b, b ≠ w.heap.size + 1 + 1 → ((wr.setCell ⟨w.heap.size + 1 + 1, 0, none⟩ (.slice X7 us.length cx)).setCell ⟨w.heap.size + 1 + 1, 1, none⟩ (.slice Y7 vs.length cy)).heap[b]? = wr.heap[b]? := fun b hb =>
              (Below.heap_setCell _ ⟨w.heap.size + 1 + 1, 1, none⟩ _ b hb).trans (Below.heap_setCell _ ⟨w.heap.size + 1 + 1, 0, none⟩ _ b hb)
            have g2 : Below w.heap.size w ((wr.setCell ⟨w.heap.size + 1 + 1, 0, none⟩ (.slice X7 us.length cx)).setCell ⟨w.heap.size + 1 + 1, 1, none⟩ (.slice Y7 vs.length cy)) := Below.setCell (Below.setCell B9.out (by (try simp) <;> omega) _) (by (try simp) <;> omega) _
            refine ⟨A, ca, X7, cx, Y7, cy, rfl, ?_, ?_, ?_, ⟨g2.os, g2.tape, g2.output, g2.size, g2.block⟩⟩
            · exact (FX.out.keep fun b hb _ => hkk b (by omega)).mono (Nat.zero_le _) (Nat.le_of_eq (size2 wr _ _ _ _).symm)
            · exact ((PX9.out.setBox R8.out (by decide)).setBox (R8.out.set 0 _) (by decide)).ri
            · exact ((PY9.out.setBox R8.out (by decide)).setBox (R8.out.set 0 _) (by decide)).ri
end Go.Proofs.YtimlpdcambmcjaaGreat
