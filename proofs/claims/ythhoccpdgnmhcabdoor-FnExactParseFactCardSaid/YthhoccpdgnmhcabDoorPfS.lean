/- What the model's ParseFact answers. Conditions: none beyond each theorem's own. -/
import Derived.Test.YthhoccpdgnmhcabDoorHit
import Derived.Deep.RegionLaw
import Derived.Deep.RegionHeld3
namespace Go.Proofs.YthhoccpdgnmhcabDoor
open Go.ChangeShapes Go.WideShapes Go.ChangeAt Go.RowKit Go.Sort
set_option linter.unusedVariables false
set_option linter.unusedSimpArgs false

theorem numsS_take (ws : List ByteArray) {k : Nat} (hk : k < ws.length) {x : ByteArray} (hx : ws.getD k ⟨#[]⟩ = x) : (ws.map numS).take (k + 1) = (ws.map numS).take k ++ [numS x] := by
  have hk' : k < (ws.map numS).length := by simpa using hk
  rw [List.take_succ_eq_append_getElem hk']
  subst hx
  simp [List.getD_eq_getElem?_getD, hk]
set_option maxRecDepth 100000 in
set_option maxHeartbeats 2000000 in
theorem spec_ParseFact (S : Option Addr) (cS : Nat) (sch : List Int) (hls : sch.length ≤ 1048576) (s : ByteArray) (hs : s.size ≤ 1048576) (w : World) (h : RI w S sch) :
    Calls Tryd.prog 12 #[.slice S sch.length cS, .string s] w (PfIs w (prs sch s)) := by
  obtain ⟨i0, hi, hz0, hz1, hz2⟩ := info_parts int_info
  have B0 := Lib.hid (below_alloc w (.cells #[.int .i64 0, .slice none 0 0] 27))
  have HI := Lib.hid h
  have X0 := Lib.hid (Box.new w #[.int .i64 0, .slice none 0 0] 27)
  clear h
  go_enter Tryd.func12, Tryd.ntmps12
  go_wp2_with fail
  refine (l2Call_any s hs _).mono ?_
  rintro e w1 ⟨H, ws, A1, c1, rfl, hst, d1, hcall⟩
  have B1 := Lib.hid (step B0.out d1)
  have X1 := Lib.hid (X0.out.step d1)
  have HC := Lib.hid hcall
  obtain ⟨hH, hwl, hwx⟩ := hcall.le
  have WX := Lib.hid hwx
  have ST := Lib.hid hst
  clear d1 hcall hwx hst
  go_wp2_with fail
  refine (l2Rel_any H (by omega) _).mono ?_
  rintro e w2 ⟨rfl, d2⟩
  have B2 := Lib.hid (step B1.out d2)
  have X2 := Lib.hid (X1.out.step d2)
  have ST2 := Lib.hid (ST.out.step (Nat.le_refl _) d2)
  have NH := Lib.hid (prs_not (S := sch) HC.out)
  have YH := Lib.hid (fun (hf : factB sch (relS H) (ws.map numS) = true) (he : fmtF (relS H) (ws.map numS) = s) => prs_of hf he)
  generalize relS H = r at NH YH ⊢
  have lw2 := X2.out.lt
  have Y3 := Lib.hid (Box.new w2 #[.int .i64 r, .slice none 0 0] 27)
  obtain ⟨w3, hw3⟩ : ∃ W, W = w2.alloc (.cells #[.int .i64 r, .slice none 0 0] 27) := ⟨_, rfl⟩
  have B3 := Lib.hid (show Below w2.heap.size w2 w3 by rw [hw3]; exact below_alloc _ _)
  have Z3 : w3.heap.size = w2.heap.size + 1 := by rw [hw3, al_size]
  rw [← hw3] at Y3
  have E3 := Lib.hid hw3
  clear d2 hw3
  go_wp2_with fail
  go_loopw [9] (fun i wr => ∃ (k : Nat) (A : Option Addr) (c : Nat), k ≤ ws.length ∧ i = .int .i64 k ∧ Box wr w2.heap.size #[.int .i64 r, .slice A k c] 27 ∧ wr.ownsRow (w2.heap.size + 1) 3 1 (.slice A k c) k (((ws.map numS).take k).map (Value.int .i64)) ∧ Below w2.heap.size w2 wr ∧ w2.heap.size + 1 ≤ wr.heap.size) (fun i _ => ws.length - (intOf i).toNat)
  case atStart =>
    rw [← E3.out]
    exact ⟨0, none, 0, by omega, rfl, Y3.out, ⟨by simp, .inl ⟨rfl, rfl⟩⟩, B3.out, by omega⟩
  case round =>
    obtain ⟨k, A, c, hk, rfl, hY, hown, hb, hsz⟩ := hrel
    have HY := Lib.hid hY
    have HO := Lib.hid hown
    have HB := Lib.hid hb
    clear hown hb
    by_cases hlt : k < ws.length
    · obtain ⟨g1, rfl, hg1, hcell⟩ := ST2.out (by intro e; rw [e] at hlt; simp at hlt)
      have hc := ((HB.out.cell (p := ⟨g1, k, none⟩) hg1).trans (hcell k hlt))
      generalize hx : ws.getD k ⟨#[]⟩ = x at hc
      have hxm : x ∈ ws := by subst hx; rw [List.getD_eq_getElem?_getD, List.getElem?_eq_getElem hlt]; exact List.getElem_mem _
      have hxs : x.size ≤ 1048576 := Nat.le_trans (WX.out x hxm) hs
      have NT := Lib.hid (numsS_take ws hlt hx)
      have XN := Lib.hid (l2Num_any x hxs)
      generalize numS x = n at NT XN
      have q1 := HY.out.cell 1
      have q3 := HY.out.frozen 1
      simp only [List.getElem?_toArray, List.getElem?_cons_zero, List.getElem?_cons_succ] at q1
      have hk0 : (0 : Int) ≤ (k : Int) := by omega
      have hk1 : (k : Int) < (ws.length : Int) := by omega
      clear hx hxm hcell hY
      go_wp2
      go_region_law (first
        | (refine step_callB rfl 40 _ _ rfl (.string x) _ rfl (by kernel_rfl) (XN.out _) ?_
           intro u5 d5
           have b5 : Below wr.heap.size wr u5 := by first | exact d5 | exact und d5 | exact undN d5
           have q15 := (b5.cell (p := ⟨w2.heap.size, 1, none⟩) (by (try simp) <;> omega)).trans q1
           have q35 := (b5.frozen (p := ⟨w2.heap.size, 1, none⟩) (by (try simp) <;> omega)).trans q3
           have z5 := b5.size
           have HO5 := Lib.hid (ownsRow_step HO.out b5)
           have hb5 : Below (w2.heap.size + 1) wr u5 := b5.mono hsz
           have hz5 : w2.heap.size + 1 ≤ u5.heap.size := by omega
           have q17 := ((below_alloc u5 (.cells #[.int .i64 n] 3)).cell (p := ⟨w2.heap.size, 1, none⟩) (by (try simp) <;> omega)).trans q15
           have q37 := ((below_alloc u5 (.cells #[.int .i64 n] 3)).frozen (p := ⟨w2.heap.size, 1, none⟩) (by (try simp) <;> omega)).trans q35
           clear d5)
        | (refine step_pushR rfl _ _ _ 3 rfl i0 Tryd.underlying22 hi (.int .i64 0) 8 hz0 hz1 hz2 rfl (by omega) (w2.heap.size + 1) k _ (((ws.map numS).take k).map (Value.int .i64)) _ 1 (.int .i64 n) rfl rfl rfl (by first | exact HO5.out.alloc _ | exact (HO5.out.alloc _).drew | exact HO5.out.drew.alloc _) (by first | exact hb5.alloc hz5 _ | exact (hb5.alloc hz5 _).drew | exact hb5.drew.alloc hz5 _) (by (try simp) <;> omega) (by omega) (by simp [Addr.add]) ?_
           intro v6 u6 hown6 hb6 hz6
           obtain ⟨A6, c6, rfl⟩ := ownsRow_form hown6
           have q16 := (hb6.cell (p := ⟨w2.heap.size, 1, none⟩) (by (try simp) <;> omega)).trans q1
           have q36 := (hb6.frozen (p := ⟨w2.heap.size, 1, none⟩) (by (try simp) <;> omega)).trans q3
           have z6 := hb6.size
           have HO6 := Lib.hid hown6
           clear hown6 hz6))
      all_goals
        clear q15 q35 q16 q36 q17 q37 q1 q3 hc
        go_wp2
        go_roundw
        case rel =>
          refine ⟨k + 1, A6, c6, by omega, by go_num, box_set1 (show Box u6 w2.heap.size #[.int .i64 r, .slice A k c] 27 from (hb6.block _ (by omega)).trans HY.out), ?_, (HB.out.trans (hb6.mono (by omega))).setCell (Nat.le_refl _) _, by rw [set_size]; omega⟩
          rw [NT.out, List.map_append]
          exact ownsRow_set HO6.out (show w2.heap.size < _ by omega)
        case measure => simp [intOf]; omega
    · obtain rfl : k = ws.length := by omega
      have hnl : (ws.map numS).length = ws.length := by simp
      have hown2 : wr.ownsRow (w2.heap.size + 1) 3 1 (.slice A ws.length c) ws.length ((ws.map numS).map (Value.int .i64)) := by have := HO.out; rw [List.take_of_length_le (by omega)] at this; exact this
      obtain ⟨q, hv⟩ := ownV_of_row hown2
      rw [← hnl] at hv hY
      generalize hxs : ws.map numS = xs at hv hY hnl NH YH
      have HNL := Lib.hid hnl
      have hxl : xs.length ≤ s.size + 1 := by omega
      have V4 := Lib.hid hv
      have J4 := Lib.hid (show RI wr A xs from (hv.ints).2.2.2.mono (Nat.zero_le _) (Nat.le_refl _))
      have Y4 := Lib.hid hY
      have B4 := Lib.hid (B2.out.trans (HB.out.mono (by omega)))
      have X4 := Lib.hid (show Box wr w.heap.size #[.int .i64 0, .slice none 0 0] 27 from (HB.out.block _ lw2).trans X2.out)
      have I4 := Lib.hid (HI.out.step B4.out)
      have HXS := Lib.hid hxs
      rw [← hnl] at *
      clear hown2 hv hY hxs hnl HO HY
      have y0 := Y4.out.cell 0
      have y1 := Y4.out.cell 1
      simp only [List.getElem?_toArray, List.getElem?_cons_zero, List.getElem?_cons_succ] at y0 y1
      go_wp2_with fail
      refine (spec_IsFact_r S cS sch r xs A c (by omega) (by omega) _ I4.out J4.out).mono ?_
      rintro e w5 ⟨he, d5⟩
      have B5 := Lib.hid (step B4.out d5)
      have X5 := Lib.hid (X4.out.step d5)
      have Y5 := Lib.hid (Y4.out.step d5)
      have V5 := Lib.hid (V4.out.step d5)
      have J5 := Lib.hid (J4.out.step d5)
      clear d5 y0 y1
      cases hF : factB sch r xs
      · have E := Lib.hid (NH.out fun h => by have := h.1; rw [hF] at this; cases this)
        rw [hF] at he
        subst he
        clear hF
        have q0 := X5.out.cell 0
        have q1 := X5.out.cell 1
        have q2 := X5.out.frozen 0
        have q3 := X5.out.frozen 1
        simp only [List.getElem?_toArray, List.getElem?_cons_zero, List.getElem?_cons_succ] at q0 q1
        go_wp2
        refine bodyPost_ret (v := .tuple #[.agg #[.int .i64 0, .slice none 0 0], .bool false]) (by simp [results, Tryd.results12, go_sem, q0, q1, q2, q3]) rfl ?_
        rw [E.out]
        exact (show PfOut w 0 [] false _ _ from ⟨none, 0, 0, rfl, ownV_nil _ _ _, Below.setCell (Below.setCell B5.out (Nat.le_refl _) _) (Nat.le_refl _) _⟩)
      · have FL := factB_len hF
        have HF := Lib.hid hF
        have hx3 := FL.1
        rw [hF] at he
        subst he
        clear hF FL
        have y0 := Y5.out.cell 0
        have y1 := Y5.out.cell 1
        simp only [List.getElem?_toArray, List.getElem?_cons_zero, List.getElem?_cons_succ] at y0 y1
        go_wp2_with fail
        refine (spec_FormatFact r xs A c (by omega) _ J5.out).mono ?_
        rintro e w6 ⟨rfl, d6⟩
        have B6 := Lib.hid (step B5.out d6)
        have X6 := Lib.hid (X5.out.step d6)
        have Y6 := Lib.hid (Y5.out.step d6)
        have V6 := Lib.hid (V5.out.step d6)
        clear d6 y0 y1
        by_cases c3 : fmtF r xs = s
        · have E := Lib.hid (YH.out HF.out c3)
          have c4 : ((fmtF r xs).toList == s.toList) = true := by rw [c3]; simp
          have c5 : (fmtF r xs).toList = s.toList := by rw [c3]
          clear c3
          have q0 := X6.out.cell 0
          have q1 := X6.out.cell 1
          have q2 := X6.out.frozen 0
          have q3 := X6.out.frozen 1
          simp only [List.getElem?_toArray, List.getElem?_cons_zero, List.getElem?_cons_succ] at q0 q1
          have y0 := Y6.out.cell 0
          have y1 := Y6.out.cell 1
          simp only [List.getElem?_toArray, List.getElem?_cons_zero, List.getElem?_cons_succ] at y0 y1
          go_wp2
          refine bodyPost_ret (v := .tuple #[.agg #[.int .i64 r, .slice A xs.length c], .bool true]) (by simp [results, Tryd.results12, go_sem, q0, q1, q2, q3]) rfl ?_
          rw [E.out]
          refine (show PfOut w r xs true _ _ from ⟨A, c, q, rfl, ?_, ?_⟩)
          · rw [size2]
            exact (V6.out.keep fun h1 _ _ => (Below.heap_setCell _ ⟨w.heap.size, 1, none⟩ _ q (by (try simp at h1 ⊢); omega)).trans (Below.heap_setCell _ ⟨w.heap.size, 0, none⟩ _ q (by (try simp at h1 ⊢); omega))).mono (by omega) (Nat.le_refl _)
          · exact Below.setCell (Below.setCell B6.out (Nat.le_refl _) _) (Nat.le_refl _) _
        · have E := Lib.hid (NH.out fun h => c3 h.2)
          have c5 : ¬ (fmtF r xs).toList = s.toList := fun h => c3 (by
            rw [ByteArray.toList_eq, ByteArray.toList_eq] at h
            apply ByteArray.ext; apply Array.toList_inj.1; exact h)
          have c6 : ((fmtF r xs).toList == s.toList) = false := by simpa using c5
          have c7 : ((fmtF r xs).toList != s.toList) = true := by simpa using c5
          clear c3
          have q0 := X6.out.cell 0
          have q1 := X6.out.cell 1
          have q2 := X6.out.frozen 0
          have q3 := X6.out.frozen 1
          simp only [List.getElem?_toArray, List.getElem?_cons_zero, List.getElem?_cons_succ] at q0 q1
          go_wp2
          refine bodyPost_ret (v := .tuple #[.agg #[.int .i64 0, .slice none 0 0], .bool false]) (by simp [results, Tryd.results12, go_sem, q0, q1, q2, q3]) rfl ?_
          rw [E.out]
          exact (show PfOut w 0 [] false _ _ from ⟨none, 0, 0, rfl, ownV_nil _ _ _, Below.setCell (Below.setCell B6.out (Nat.le_refl _) _) (Nat.le_refl _) _⟩)
end Go.Proofs.YthhoccpdgnmhcabDoor
