/- What the program's ParseMethod answers. Conditions: none beyond each theorem's own. -/
import Derived.Test.YtenondgjipmhnaaDoorMpI
namespace Go.Proofs.YtenondgjipmhnaaDoor
open Go.ChangeShapes Go.WideShapes Go.ChangeAt Go.RowKit Go.Sort
set_option linter.unusedVariables false
set_option linter.unusedSimpArgs false

set_option maxRecDepth 100000 in
set_option maxHeartbeats 4000000 in
theorem impl_ParseMethod (S : Option Addr) (cS : Nat) (sch : List Int) (hls : sch.length ≤ 1048576) (s : ByteArray) (hs : s.size ≤ 1048576) (m : Int) (w : World) (h : RI w S sch) (hm : w.cell? ⟨0, 0, none⟩ = some (.int .i64 m)) (ht : Tab w) :
    Calls Tryd.prog 12 #[.slice S sch.length cS, .string s] w (PmIs w (prsM sch s)) := by
  have HT := Lib.hid (Lib.tabBelow_of_tabIs ht)
  have B0 := Lib.hid (below_alloc w (.cells #[.int .i64 0, .slice none 0 0, .int .i64 0, .int .i64 0, .int .i64 0] 27))
  have HM := Lib.hid (fun (W : World) (hW : Below w.heap.size w W) => (hW.cell (p := ⟨0, 0, none⟩) (by
    show 0 < w.heap.size
    rcases Nat.eq_zero_or_pos w.heap.size with h0 | h0
    · simp [World.cell?, Array.getElem?_eq_none (show w.heap.size ≤ 0 by omega)] at hm
    · exact h0)).trans hm)
  have HI := Lib.hid h
  have X0 := Lib.hid (Box.new w #[.int .i64 0, .slice none 0 0, .int .i64 0, .int .i64 0, .int .i64 0] 27)
  have hsp := fun (W : World) (hW : Below w.heap.size w W) => Tryd.strings_Split s ⟨#[32]⟩ m W (by omega) (HM.out W hW) (by decide)
  rw [← spI_len] at hsp
  have HS := Lib.hid (show ∀ (W : World) (hW : Below w.heap.size w W), Calls Tryd.prog 33 #[.string s, .string ⟨#[32]⟩] W fun e w' => e = .returned (.slice (some ⟨W.heap.size, 0, none⟩) (spI s).length (spI s).length) ∧ w' = W.alloc (.cells ((spI s).map Value.string).toArray 9) from hsp)
  have H9 := Lib.hid (prsM_I9 (S := sch) (s := s))
  have HN := Lib.hid (fun m0 (hr : ReadI (spI s) m0) => prsM_I (S := sch) hr)
  have SZ := Lib.hid (spI_sz s)
  clear hm ht h hsp
  go_enter Tryd.func12, Tryd.ntmps12
  go_wp2_with fail
  refine (HS.out _ B0.out).mono ?_
  rintro e w1 ⟨rfl, hw1⟩
  have d1 : Below (w.alloc (.cells #[.int .i64 0, .slice none 0 0, .int .i64 0, .int .i64 0, .int .i64 0] 27)).heap.size (w.alloc (.cells #[.int .i64 0, .slice none 0 0, .int .i64 0, .int .i64 0, .int .i64 0] 27)) w1 := by rw [hw1]; exact below_alloc _ _
  have hrs : RS w1 (w.alloc (.cells #[.int .i64 0, .slice none 0 0, .int .i64 0, .int .i64 0, .int .i64 0] 27)).heap.size (spI s) := by rw [hw1]; exact heap_alloc_new _ _
  have hz1 : w1.heap.size = w.heap.size + 2 := by rw [hw1, al_size, al_size]
  rw [al_size] at hrs
  rw [al_size]
  have B1 := Lib.hid (step B0.out d1)
  have X1 := Lib.hid (X0.out.step d1)
  have hlw : (spI s).length ≤ 1048577 := by
    have h1 : (spI s).length ≤ szB (spI s) := by
      rcases hq : spI s with _ | ⟨y, t⟩
      · exact Nat.zero_le _
      · have := szB_mem (l := y :: t) (x := y) (List.mem_cons_self ..)
        omega
    have := SZ.out
    omega
  have RMC := Lib.hid (readMethod_any (w.heap.size + 1) (spI s).length (spI s) hlw (by have := SZ.out; omega) m w1 (by omega) (fun k hk => hrs.cell hk) (HM.out w1 B1.out) (HT.out w1 B1.out))
  clear hw1 d1 hrs B0 X0 HS HM SZ
  generalize spI s = ws at RMC H9 HN hlw ⊢
  go_wp2_with fail
  refine RMC.out.mono ?_
  rintro e w2 h2
  rcases h2 with ⟨h9, rfl, d2⟩ | ⟨h9, A, c, q, ⟨r, xs, li, co, qu⟩, rfl, hv, d2, hxl, hrd⟩
  · have E := Lib.hid (H9.out h9)
    have B2 := Lib.hid (step B1.out d2)
    have X2 := Lib.hid (X1.out.step d2)
    have B3 := Lib.hid (step B2.out (below_alloc w2 (.cells #[.int .i64 0, .slice none 0 0, .int .i64 0, .int .i64 0, .int .i64 0] 27)))
    have X3 := Lib.hid (X2.out.step (below_alloc w2 (.cells #[.int .i64 0, .slice none 0 0, .int .i64 0, .int .i64 0, .int .i64 0] 27)))
    clear d2 h9 H9 HN RMC B1 X1 HT HI B2 X2
    have q0 := X3.out.cell 0
    have q1 := X3.out.cell 1
    have q2 := X3.out.cell 2
    have q3 := X3.out.cell 3
    have q4 := X3.out.cell 4
    have qf0 := X3.out.frozen 0
    have qf1 := X3.out.frozen 1
    have qf2 := X3.out.frozen 2
    have qf3 := X3.out.frozen 3
    have qf4 := X3.out.frozen 4
    simp only [List.getElem?_toArray, List.getElem?_cons_zero, List.getElem?_cons_succ] at q0 q1 q2 q3 q4
    go_wp2
    refine bodyPost_ret (v := .tuple #[.agg #[.int .i64 0, .slice none 0 0, .int .i64 0, .int .i64 0, .int .i64 0], .bool false]) (by simp [results, Tryd.results12, go_sem, q0, q1, q2, q3, q4, qf0, qf1, qf2, qf3, qf4]) rfl ?_
    rw [E.out]
    exact (show PmOut w noM false _ _ from ⟨none, 0, 0, rfl, ownV_nil _ _ _, below_all5 _ _ _ _ _ B3.out (Nat.le_refl _)⟩)
  · simp only at hv hxl hrd
    have B2 := Lib.hid (step B1.out d2)
    have X2 := Lib.hid (X1.out.step d2)
    have RX := Lib.hid (show (methB sch r xs li co qu = true → fmtM r xs li co qu = s → prsM sch s = ((r, xs, li, co, qu), true)) ∧ (¬ (methB sch r xs li co qu = true ∧ fmtM r xs li co qu = s) → prsM sch s = (noM, false)) from HN.out (r, xs, li, co, qu) hrd)
    have n2 := d2.size
    obtain ⟨w4, hw4⟩ : ∃ W, W = w2.alloc (.cells #[.int .i64 r, .slice A xs.length c, .int .i64 li, .int .i64 co, .int .i64 qu] 27) := ⟨_, rfl⟩
    have E4 := Lib.hid hw4
    have d4 : Below w2.heap.size w2 w4 := by rw [hw4]; exact below_alloc _ _
    have Y4 := Lib.hid (show Box w4 w2.heap.size #[.int .i64 r, .slice A xs.length c, .int .i64 li, .int .i64 co, .int .i64 qu] 27 by rw [hw4]; exact Box.new _ _ _)
    have B4 := Lib.hid (step B2.out d4)
    have X4 := Lib.hid (X2.out.step d4)
    have V4 := Lib.hid (OwnV.mono (lo' := w.heap.size + 1) (hv.step d4) (by omega) (Nat.le_refl _))
    have J4 := Lib.hid (show RI w4 A xs from (V4.out.ints).2.2.2.mono (Nat.zero_le _) (Nat.le_refl _))
    have I4 := Lib.hid (HI.out.step B4.out)
    clear hv d2 hrd HN H9 RMC B1 X1 B2 X2 hw4 d4 h9
    have y0 := Y4.out.cell 0
    have y1 := Y4.out.cell 1
    have y2 := Y4.out.cell 2
    have y3 := Y4.out.cell 3
    have y4 := Y4.out.cell 4
    simp only [List.getElem?_toArray, List.getElem?_cons_zero, List.getElem?_cons_succ] at y0 y1 y2 y3 y4
    rw [E4.out] at y0 y1 y2 y3 y4
    go_wp2_with fail
    rw [← E4.out] at y0 y1 y2 y3 y4 ⊢
    refine (impl_IsMethod S cS sch r xs li co qu A c hls hxl _ I4.out J4.out).mono ?_
    rintro e w5 ⟨he, d5⟩
    have B5 := Lib.hid (step B4.out d5)
    have X5 := Lib.hid (X4.out.step d5)
    have Y5 := Lib.hid (Y4.out.step d5)
    have V5 := Lib.hid (V4.out.step d5)
    have J5 := Lib.hid (J4.out.step d5)
    have T5 := Lib.hid (HT.out _ B5.out)
    clear d5
    clear y0 y1 y2 y3 y4
    cases hF : methB sch r xs li co qu
    · have E := Lib.hid (RX.out.2 fun h => by have := h.1; rw [hF] at this; cases this)
      rw [hF] at he
      subst he
      clear hF
      have q0 := X5.out.cell 0
      have q1 := X5.out.cell 1
      have q2 := X5.out.cell 2
      have q3 := X5.out.cell 3
      have q4 := X5.out.cell 4
      have qf0 := X5.out.frozen 0
      have qf1 := X5.out.frozen 1
      have qf2 := X5.out.frozen 2
      have qf3 := X5.out.frozen 3
      have qf4 := X5.out.frozen 4
      simp only [List.getElem?_toArray, List.getElem?_cons_zero, List.getElem?_cons_succ] at q0 q1 q2 q3 q4
      go_wp2
      refine bodyPost_ret (v := .tuple #[.agg #[.int .i64 0, .slice none 0 0, .int .i64 0, .int .i64 0, .int .i64 0], .bool false]) (by simp [results, Tryd.results12, go_sem, q0, q1, q2, q3, q4, qf0, qf1, qf2, qf3, qf4]) rfl ?_
      rw [E.out]
      exact (show PmOut w noM false _ _ from ⟨none, 0, 0, rfl, ownV_nil _ _ _, below_all5 _ _ _ _ _ B5.out (Nat.le_refl _)⟩)
    · have HF := Lib.hid hF
      rw [hF] at he
      subst he
      clear hF
      have y0 := Y5.out.cell 0
      have y1 := Y5.out.cell 1
      have y2 := Y5.out.cell 2
      have y3 := Y5.out.cell 3
      have y4 := Y5.out.cell 4
      simp only [List.getElem?_toArray, List.getElem?_cons_zero, List.getElem?_cons_succ] at y0 y1 y2 y3 y4
      go_wp2_with fail
      refine (impl_FormatMethod r xs li co qu A c hxl _ J5.out (TabB.of T5.out)).mono ?_
      rintro e w6 ⟨rfl, d6⟩
      have B6 := Lib.hid (step B5.out d6)
      have X6 := Lib.hid (X5.out.step d6)
      have Y6 := Lib.hid (Y5.out.step d6)
      have V6 := Lib.hid (V5.out.step d6)
      clear d6
      clear y0 y1 y2 y3 y4
      by_cases c3 : fmtM r xs li co qu = s
      · have E := Lib.hid (RX.out.1 HF.out c3)
        have c4 : ((fmtM r xs li co qu).toList == s.toList) = true := by rw [c3]; simp
        have c5 : (fmtM r xs li co qu).toList = s.toList := by rw [c3]
        clear c3
        have q0 := X6.out.cell 0
        have q1 := X6.out.cell 1
        have q2 := X6.out.cell 2
        have q3 := X6.out.cell 3
        have q4 := X6.out.cell 4
        have qf0 := X6.out.frozen 0
        have qf1 := X6.out.frozen 1
        have qf2 := X6.out.frozen 2
        have qf3 := X6.out.frozen 3
        have qf4 := X6.out.frozen 4
        simp only [List.getElem?_toArray, List.getElem?_cons_zero, List.getElem?_cons_succ] at q0 q1 q2 q3 q4
        have y0 := Y6.out.cell 0
        have y1 := Y6.out.cell 1
        have y2 := Y6.out.cell 2
        have y3 := Y6.out.cell 3
        have y4 := Y6.out.cell 4
        simp only [List.getElem?_toArray, List.getElem?_cons_zero, List.getElem?_cons_succ] at y0 y1 y2 y3 y4
        go_wp2
        refine bodyPost_ret (v := .tuple #[.agg #[.int .i64 r, .slice A xs.length c, .int .i64 li, .int .i64 co, .int .i64 qu], .bool true]) (by simp [results, Tryd.results12, go_sem, q0, q1, q2, q3, q4, qf0, qf1, qf2, qf3, qf4]) rfl ?_
        rw [E.out]
        exact (show PmOut w (r, xs, li, co, qu) true _ _ from ⟨A, c, q, rfl, ownV_all5 _ _ _ _ _ V6.out, below_all5 _ _ _ _ _ B6.out (Nat.le_refl _)⟩)
      · have E := Lib.hid (RX.out.2 fun h => c3 h.2)
        have c5 : ¬ (fmtM r xs li co qu).toList = s.toList := fun h => c3 (by
        rw [ByteArray.toList_eq, ByteArray.toList_eq] at h
        apply ByteArray.ext; apply Array.toList_inj.1; exact h)
        have c6 : ((fmtM r xs li co qu).toList == s.toList) = false := by simpa using c5
        have c7 : ((fmtM r xs li co qu).toList != s.toList) = true := by simpa using c5
        clear c3
        have q0 := X6.out.cell 0
        have q1 := X6.out.cell 1
        have q2 := X6.out.cell 2
        have q3 := X6.out.cell 3
        have q4 := X6.out.cell 4
        have qf0 := X6.out.frozen 0
        have qf1 := X6.out.frozen 1
        have qf2 := X6.out.frozen 2
        have qf3 := X6.out.frozen 3
        have qf4 := X6.out.frozen 4
        simp only [List.getElem?_toArray, List.getElem?_cons_zero, List.getElem?_cons_succ] at q0 q1 q2 q3 q4
        go_wp2
        refine bodyPost_ret (v := .tuple #[.agg #[.int .i64 0, .slice none 0 0, .int .i64 0, .int .i64 0, .int .i64 0], .bool false]) (by simp [results, Tryd.results12, go_sem, q0, q1, q2, q3, q4, qf0, qf1, qf2, qf3, qf4]) rfl ?_
        rw [E.out]
        exact (show PmOut w noM false _ _ from ⟨none, 0, 0, rfl, ownV_nil _ _ _, below_all5 _ _ _ _ _ B6.out (Nat.le_refl _)⟩)
end Go.Proofs.YtenondgjipmhnaaDoor
