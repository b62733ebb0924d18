/- What the program's ParseFact answers. Conditions: none beyond each theorem's own. -/
import Derived.Test.YthhoccpdgnmhcabDoorPp
namespace Go.Proofs.YthhoccpdgnmhcabDoor
open Go.ChangeShapes Go.WideShapes Go.ChangeAt Go.RowKit Go.Sort
set_option linter.unusedVariables false
set_option linter.unusedSimpArgs false

set_option maxRecDepth 100000 in
set_option maxHeartbeats 1000000 in
theorem impl_ParseFact (S : Option Addr) (cS : Nat) (sch : List Int) (hls : sch.length ≤ 1048576) (s : ByteArray) (hs : s.size ≤ 1048576) (m : Int) (w : World) (h : RI w S sch) (hm : w.cell? ⟨0, 0, none⟩ = some (.int .i64 m)) (ht : Tab w) :
    Calls Tryd.prog 14 #[.slice S sch.length cS, .string s] w (PfIs w (prs sch s)) := by
  have HT := Lib.hid (Lib.tabBelow_of_tabIs ht)
  have B0 := Lib.hid (below_alloc w (.cells #[.int .i64 0, .slice none 0 0] 27))
  have HM := Lib.hid (fun (W : World) (hW : Below w.heap.size w W) => (hW.cell (p := ⟨0, 0, none⟩) (by
    show 0 < w.heap.size
    rcases Nat.eq_zero_or_pos w.heap.size with h0 | h0
    · simp [World.cell?, Array.getElem?_eq_none (show w.heap.size ≤ 0 by omega)] at hm
    · exact h0)).trans hm)
  have HI := Lib.hid h
  have X0 := Lib.hid (Box.new w #[.int .i64 0, .slice none 0 0] 27)
  have PP := Lib.hid (fun (W : World) (hW : Below w.heap.size w W) => parseParts_int s hs m W (HM.out W hW) (HT.out W hW))
  clear hm ht h
  go_enter Tryd.func14, Tryd.ntmps14
  go_wp2_with fail
  refine (PP.out _ B0.out).mono ?_
  rintro e w3 ⟨A, c, ok, q, xs, rfl, hv, d3, hxl, hok, hxs⟩
  have B3 := Lib.hid (step B0.out d3)
  have X3 := Lib.hid (X0.out.step d3)
  have N3 := d3.size
  have N2 := X0.out.lt
  have HV := Lib.hid hv
  have PK := Lib.hid (show ∀ b, ok = b → (b = true ↔ parB (numI s) = true ∧ allN (wordsI (bodyI s))) from fun b hb => by subst hb; exact hok)
  have HXS := Lib.hid (show ∀ b, ok = b → b = true → xs = nums (wordsI (bodyI s)) from fun b hb h => by subst hb; exact hxs h)
  have XL := Lib.hid hxl
  clear hv d3 hok hxs hxl
  have B4 := Lib.hid (step B3.out (below_alloc w3 (.cells #[.int .i64 (parN (numI s)), .slice A xs.length c] 27)))
  have X4 := Lib.hid (X3.out.step (below_alloc w3 (.cells #[.int .i64 (parN (numI s)), .slice A xs.length c] 27)))
  have Y4 := Lib.hid (Box.new w3 #[.int .i64 (parN (numI s)), .slice A xs.length c] 27)
  have V4 := Lib.hid (OwnV.mono (lo' := w.heap.size + 1) (HV.out.step (below_alloc w3 (.cells #[.int .i64 (parN (numI s)), .slice A xs.length c] 27))) N2 (Nat.le_refl _))
  have I4 := Lib.hid (HI.out.step B4.out)
  obtain ⟨w4, hw4⟩ : ∃ W, W = w3.alloc (.cells #[.int .i64 (parN (numI s)), .slice A xs.length c] 27) := ⟨_, rfl⟩
  have HW4 := Lib.hid hw4
  rw [← hw4] at B4 X4 Y4 V4 I4
  have J4 := Lib.hid (show RI w4 A xs from (V4.out.ints).2.2.2.mono (Nat.zero_le _) (Nat.le_refl _))
  have N4 : w3.heap.size + 1 = w4.heap.size := by rw [hw4, al_size]
  generalize hR : parN (numI s) = r at Y4 HW4 hw4 ⊢
  have HR := Lib.hid hR
  have EW := Lib.hid hw4
  clear hR hw4 HW4
  cases ok
  · have E := Lib.hid (prs_no (S := sch) (s := s) fun h => by have := (PK.out false rfl).2 ⟨h.1, h.2.1⟩; cases this)
    have q0 := X4.out.cell 0
    have q1 := X4.out.cell 1
    have q2 := X4.out.frozen 0
    have q3 := X4.out.frozen 1
    simp only [List.getElem?_toArray, List.getElem?_cons_zero, List.getElem?_cons_succ] at q0 q1
    have B4' := B4.out
    rw [EW.out] at q0 q1 q2 q3 B4'
    go_wp2
    refine bodyPost_ret (v := .tuple #[.agg #[.int .i64 0, .slice none 0 0], .bool false]) (by simp [results, Tryd.results14, go_sem, q0, q1, q2, q3]) rfl ?_
    rw [E.out]
    exact (show PfOut w 0 [] false _ _ from ⟨none, 0, 0, rfl, ownV_nil _ _ _, Below.setCell (Below.setCell B4' (Nat.le_refl _) _) (Nat.le_refl _) _⟩)
  · obtain rfl := HXS.out true rfl rfl
    have AN := Lib.hid ((PK.out true rfl).1 rfl).2
    have HP := Lib.hid ((PK.out true rfl).1 rfl).1
    have hxl := XL.out
    clear XL
    generalize hN : nums (wordsI (bodyI s)) = xs at *
    have HN := Lib.hid hN
    clear hN
    have y0 := Y4.out.cell 0
    have y1 := Y4.out.cell 1
    simp only [List.getElem?_toArray, List.getElem?_cons_zero, List.getElem?_cons_succ] at y0 y1
    rw [EW.out] at y0 y1
    go_wp2_with fail
    rw [← EW.out] at y0 y1 ⊢
    refine (impl_IsFact_r S cS sch r xs A c (by omega) (by omega) _ I4.out J4.out).mono ?_
    rintro e w5 ⟨he, d5⟩
    have B5 := Lib.hid (step B4.out d5)
    have X5 := Lib.hid (X4.out.step d5)
    have Y5 := Lib.hid (Y4.out.step d5)
    have V5 := Lib.hid (V4.out.step d5)
    have J5 := Lib.hid (J4.out.step d5)
    have T5 := Lib.hid (HT.out _ B5.out)
    clear d5 y0 y1
    cases hF : factB sch r xs
    · have E := Lib.hid (prs_no (S := sch) (s := s) fun h => by have := h.2.2.1; rw [HR.out, HN.out, hF] at this; cases this)
      rw [hF] at he
      subst he
      clear hF
      have q0 := X5.out.cell 0
      have q1 := X5.out.cell 1
      have q2 := X5.out.frozen 0
      have q3 := X5.out.frozen 1
      simp only [List.getElem?_toArray, List.getElem?_cons_zero, List.getElem?_cons_succ] at q0 q1
      go_wp2
      refine bodyPost_ret (v := .tuple #[.agg #[.int .i64 0, .slice none 0 0], .bool false]) (by simp [results, Tryd.results14, go_sem, q0, q1, q2, q3]) rfl ?_
      rw [E.out]
      exact (show PfOut w 0 [] false _ _ from ⟨none, 0, 0, rfl, ownV_nil _ _ _, Below.setCell (Below.setCell B5.out (Nat.le_refl _) _) (Nat.le_refl _) _⟩)
    · have FL := factB_len hF
      have HF := Lib.hid hF
      have FK := Lib.hid FL.2
      have hx3 := FL.1
      rw [hF] at he
      subst he
      clear hF FL
      have y0 := Y5.out.cell 0
      have y1 := Y5.out.cell 1
      simp only [List.getElem?_toArray, List.getElem?_cons_zero, List.getElem?_cons_succ] at y0 y1
      go_wp2_with fail
      refine (impl_FormatFact r xs A c (by omega) _ J5.out T5.out).mono ?_
      rintro e w6 ⟨rfl, d6⟩
      have B6 := Lib.hid (step B5.out d6)
      have X6 := Lib.hid (X5.out.step d6)
      have Y6 := Lib.hid (Y5.out.step d6)
      have V6 := Lib.hid (V5.out.step d6)
      clear d6 y0 y1
      by_cases c3 : fmtF r xs = s
      · have E := Lib.hid (prs_yes (S := sch) (s := s) ⟨HP.out, AN.out, by rw [HR.out, HN.out]; exact HF.out, by rw [HR.out, HN.out]; exact c3⟩)
        have c4 : ((fmtF r xs).toList == s.toList) = true := by rw [c3]; simp
        have c5 : (fmtF r xs).toList = s.toList := by rw [c3]
        clear c3
        have q0 := X6.out.cell 0
        have q1 := X6.out.cell 1
        have q2 := X6.out.frozen 0
        have q3 := X6.out.frozen 1
        simp only [List.getElem?_toArray, List.getElem?_cons_zero, List.getElem?_cons_succ] at q0 q1
        have y0 := Y6.out.cell 0
        have y1 := Y6.out.cell 1
        simp only [List.getElem?_toArray, List.getElem?_cons_zero, List.getElem?_cons_succ] at y0 y1
        go_wp2
        refine bodyPost_ret (v := .tuple #[.agg #[.int .i64 r, .slice A xs.length c], .bool true]) (by simp [results, Tryd.results14, go_sem, q0, q1, q2, q3]) rfl ?_
        rw [E.out, HR.out, HN.out]
        refine (show PfOut w r xs true _ _ from ⟨A, c, q, rfl, ?_, ?_⟩)
        · rw [size2]
          exact (V6.out.keep fun h1 _ _ => (Below.heap_setCell _ ⟨w.heap.size, 1, none⟩ _ q (by (try simp at h1 ⊢); omega)).trans (Below.heap_setCell _ ⟨w.heap.size, 0, none⟩ _ q (by (try simp at h1 ⊢); omega))).mono (by omega) (Nat.le_refl _)
        · exact Below.setCell (Below.setCell B6.out (Nat.le_refl _) _) (Nat.le_refl _) _
      · have E := Lib.hid (prs_no (S := sch) (s := s) fun h => c3 (by rw [← HR.out, ← HN.out]; exact h.2.2.2))
        have c5 : ¬ (fmtF r xs).toList = s.toList := fun h => c3 (by
          rw [ByteArray.toList_eq, ByteArray.toList_eq] at h
          apply ByteArray.ext; apply Array.toList_inj.1; exact h)
        have c6 : ((fmtF r xs).toList == s.toList) = false := by simpa using c5
        have c7 : ((fmtF r xs).toList != s.toList) = true := by simpa using c5
        clear c3
        have q0 := X6.out.cell 0
        have q1 := X6.out.cell 1
        have q2 := X6.out.frozen 0
        have q3 := X6.out.frozen 1
        simp only [List.getElem?_toArray, List.getElem?_cons_zero, List.getElem?_cons_succ] at q0 q1
        go_wp2
        refine bodyPost_ret (v := .tuple #[.agg #[.int .i64 0, .slice none 0 0], .bool false]) (by simp [results, Tryd.results14, go_sem, q0, q1, q2, q3]) rfl ?_
        rw [E.out]
        exact (show PfOut w 0 [] false _ _ from ⟨none, 0, 0, rfl, ownV_nil _ _ _, Below.setCell (Below.setCell B6.out (Nat.le_refl _) _) (Nat.le_refl _) _⟩)
end Go.Proofs.YthhoccpdgnmhcabDoor
