/- What the model's ParseMethod answers. Conditions: none beyond each theorem's own. -/
import Derived.Test.YtenondgjipmhnaaDoorMpP
import Derived.Deep.RegionLaw
import Derived.Deep.RegionHeld3
import Derived.Deep.Cut
import Derived.Deep.CutRange
namespace Go.Proofs.YtenondgjipmhnaaDoor
open Go.ChangeShapes Go.WideShapes Go.ChangeAt Go.RowKit Go.Sort
set_option linter.unusedVariables false
set_option linter.unusedSimpArgs false

theorem numsS_take (ws : List ByteArray) {k : Nat} (hk : k < ws.length) {x : ByteArray} (hx : ws.getD k ⟨#[]⟩ = x) : (ws.map numS).take (k + 1) = (ws.map numS).take k ++ [numS x] := by
  have hk' : k < (ws.map numS).length := by simpa using hk
  rw [List.take_succ_eq_append_getElem hk']
  subst hx
  simp [List.getD_eq_getElem?_getD, hk]
set_option maxRecDepth 100000 in
set_option maxHeartbeats 4000000 in
theorem spec_ParseMethod (S : Option Addr) (cS : Nat) (sch : List Int) (hls : sch.length ≤ 1048576) (s : ByteArray) (hs : s.size ≤ 1048576) (w : World) (h : RI w S sch) :
    Calls Tryd.prog 10 #[.slice S sch.length cS, .string s] w (PmIs w (prsM sch s)) := by
  obtain ⟨i0, hi, hz0, hz1, hz2⟩ := info_parts int_info
  have B0 := Lib.hid (below_alloc w (.cells #[.int .i64 0, .slice none 0 0, .int .i64 0, .int .i64 0, .int .i64 0] 27))
  have HI := Lib.hid h
  have X0 := Lib.hid (Box.new w #[.int .i64 0, .slice none 0 0, .int .i64 0, .int .i64 0, .int .i64 0] 27)
  have HN := Lib.hid (fun m0 (hr : ReadS (cutQ s) m0) => prsM_S (S := sch) hr)
  have H9 := Lib.hid (prsM_S9 (S := sch) (s := s))
  clear h
  go_enter Tryd.func10, Tryd.ntmps10
  go_wp2_with fail
  refine (l2CutQ_any s hs _).mono ?_
  rintro e w1 ⟨A1, c1, rfl, hst, d1⟩
  have B1 := Lib.hid (step B0.out d1)
  have X1 := Lib.hid (X0.out.step d1)
  have WX := Lib.hid (szB_cutQ s)
  have hwl := cutQ_len s
  clear d1
  generalize cutQ s = ws at hst hwl WX HN H9 ⊢
  by_cases h9 : ws.length = 9
  · rw [h9]
    obtain ⟨g1, rfl, hg1, hcell⟩ := hst (by intro e; rw [e] at h9; cases h9)
    have c0 := hcell 0 (by omega)
    have z0 := nine_size (k := 0) WX.out h9 (by omega)
    have c2 := hcell 2 (by omega)
    have z2 := nine_size (k := 2) WX.out h9 (by omega)
    have c4 := hcell 4 (by omega)
    have z4 := nine_size (k := 4) WX.out h9 (by omega)
    have c6 := hcell 6 (by omega)
    have z6 := nine_size (k := 6) WX.out h9 (by omega)
    have c8 := hcell 8 (by omega)
    have z8 := nine_size (k := 8) WX.out h9 (by omega)
    have RD := Lib.hid (show ∀ xs, (ws.getD 2 ⟨#[]⟩ = freeB → xs = []) → (ws.getD 2 ⟨#[]⟩ ≠ freeB → xs = (cutW (ws.getD 2 ⟨#[]⟩)).map numS) → (methB sch (relS (ws.getD 0 ⟨#[]⟩)) xs (numS (ws.getD 4 ⟨#[]⟩)) (numS (ws.getD 6 ⟨#[]⟩)) (numS (ws.getD 8 ⟨#[]⟩)) = true → fmtM (relS (ws.getD 0 ⟨#[]⟩)) xs (numS (ws.getD 4 ⟨#[]⟩)) (numS (ws.getD 6 ⟨#[]⟩)) (numS (ws.getD 8 ⟨#[]⟩)) = s → prsM sch s = ((relS (ws.getD 0 ⟨#[]⟩), xs, numS (ws.getD 4 ⟨#[]⟩), numS (ws.getD 6 ⟨#[]⟩), numS (ws.getD 8 ⟨#[]⟩)), true)) ∧ (¬ (methB sch (relS (ws.getD 0 ⟨#[]⟩)) xs (numS (ws.getD 4 ⟨#[]⟩)) (numS (ws.getD 6 ⟨#[]⟩)) (numS (ws.getD 8 ⟨#[]⟩)) = true ∧ fmtM (relS (ws.getD 0 ⟨#[]⟩)) xs (numS (ws.getD 4 ⟨#[]⟩)) (numS (ws.getD 6 ⟨#[]⟩)) (numS (ws.getD 8 ⟨#[]⟩)) = s) → prsM sch s = (noM, false)) from fun xs h1 h2 => HN.out (relS (ws.getD 0 ⟨#[]⟩), xs, numS (ws.getD 4 ⟨#[]⟩), numS (ws.getD 6 ⟨#[]⟩), numS (ws.getD 8 ⟨#[]⟩)) ⟨rfl, rfl, rfl, rfl, h1, h2⟩)
    clear HN H9 hst hwl hcell h9 WX
    generalize ws.getD 0 ⟨#[]⟩ = x0 at c0 z0 RD
    generalize ws.getD 2 ⟨#[]⟩ = x2 at c2 z2 RD
    generalize ws.getD 4 ⟨#[]⟩ = x4 at c4 z4 RD
    generalize ws.getD 6 ⟨#[]⟩ = x6 at c6 z6 RD
    generalize ws.getD 8 ⟨#[]⟩ = x8 at c8 z8 RD
    have X2W := Lib.hid (fun (W : World) => l2Cut_any x2 (by omega) W)
    have hw2 : (cutW x2).length ≤ 1048576 := by have := cutW_len x2; omega
    have XR := Lib.hid (fun (W : World) => l2Rel_any x0 (by omega) W)
    generalize relS x0 = r at XR RD
    have XN4 := Lib.hid (fun (W : World) => l2Num_any x4 (by omega) W)
    generalize numS x4 = li at XN4 RD
    have XN6 := Lib.hid (fun (W : World) => l2Num_any x6 (by omega) W)
    generalize numS x6 = co at XN6 RD
    have XN8 := Lib.hid (fun (W : World) => l2Num_any x8 (by omega) W)
    generalize numS x8 = qu at XN8 RD
    have C2 := Lib.hid c2
    clear c2
    go_upto_region 4 with fail
    go_cut [7] from 16 to 32 (fun p7 wx => ∃ g, p7 = .pointer (some ⟨g, 0, none⟩) ∧ Hid (Box wx g #[.int .i64 r, .slice none 0 0, .int .i64 li, .int .i64 co, .int .i64 qu] 27 ∧ Below w1.heap.size w1 wx ∧ w1.heap.size ≤ g))
    case first =>
      clear RD X2W HI B0 X0 B1 X1 C2
      have ne0 : w1.heap.size ≠ g1 := by omega
      go_region_held3 (fun w' => w'.cell? ⟨g1, 0, none⟩ = some (.string x0) ∧ w'.cell? ⟨g1, 4, none⟩ = some (.string x4) ∧ w'.cell? ⟨g1, 6, none⟩ = some (.string x6) ∧ w'.cell? ⟨g1, 8, none⟩ = some (.string x8))
        (first
          | (go_split_ands; refine ⟨?_, ?_, ?_, ?_⟩ <;> (rw [b14.cell (by (try simp) <;> omega)]; assumption))
          | (go_split_ands; refine ⟨?_, ?_, ?_, ?_⟩ <;> (rw [b13.cell (by (try simp) <;> omega)]; assumption))
          | (go_split_ands; refine ⟨?_, ?_, ?_, ?_⟩ <;> (rw [b12.cell (by (try simp) <;> omega)]; assumption))
          | (go_split_ands; refine ⟨?_, ?_, ?_, ?_⟩ <;> (rw [b11.cell (by (try simp) <;> omega)]; assumption))
          | (go_split_ands; refine ⟨?_, ?_, ?_, ?_⟩ <;> (rw [(below_all5 _ _ _ _ _ b14 (by omega : w1.heap.size ≤ v13.heap.size)).cell (by (try simp) <;> omega)]; assumption))
          | (go_split_ands; refine ⟨?_, ?_, ?_, ?_⟩ <;> (rw [(below_all5 _ _ _ _ _ b14 (by omega : w1.heap.size ≤ v12.heap.size)).cell (by (try simp) <;> omega)]; assumption))
          | (go_split_ands; refine ⟨?_, ?_, ?_, ?_⟩ <;> (rw [(below_all5 _ _ _ _ _ b14 (by omega : w1.heap.size ≤ v11.heap.size)).cell (by (try simp) <;> omega)]; assumption))
          | (go_split_ands; refine ⟨?_, ?_, ?_, ?_⟩ <;> (rw [(below_all5 _ _ _ _ _ b14 (by omega : w1.heap.size ≤ w1.heap.size)).cell (by (try simp) <;> omega)]; assumption))
          | (go_split_ands; refine ⟨?_, ?_, ?_, ?_⟩ <;> (rw [(step b14 (below_alloc _ _)).cell (by (try simp) <;> omega)]; assumption))
          | (go_split_ands; refine ⟨?_, ?_, ?_, ?_⟩ <;> (rw [(step b13 (below_alloc _ _)).cell (by (try simp) <;> omega)]; assumption))
          | (go_split_ands; refine ⟨?_, ?_, ?_, ?_⟩ <;> (rw [(step b12 (below_alloc _ _)).cell (by (try simp) <;> omega)]; assumption))
          | (go_split_ands; refine ⟨?_, ?_, ?_, ?_⟩ <;> (rw [(step b11 (below_alloc _ _)).cell (by (try simp) <;> omega)]; assumption))
          | (go_split_ands; refine ⟨?_, ?_, ?_, ?_⟩ <;> (rw [(below_alloc w1 _).cell (by (try simp) <;> omega)]; assumption))
          | (go_split_ands; refine ⟨?_, ?_, ?_, ?_⟩ <;> (rw [(below_alloc w1.drew _).cell (by (try simp) <;> omega)]; assumption))
          | ((try dsimp only); (repeat' apply And.intro) <;> first | assumption | go_keep))
        (first
          | (go_at_call 29
             refine (XR.out _).mono ?_
             rintro e v11 ⟨rfl, d11⟩
             have e11 : Below w1.heap.size w1 v11 := by first | exact d11 | exact und d11 | exact step (below_alloc _ _) d11 | exact step (below_alloc _ _) (und d11) | exact und (step (below_alloc _ _) d11)
             have b11 : Below w1.heap.size w1 v11 := e11
             have n11 := b11.size
             have ne1 : v11.heap.size ≠ g1 := by omega
             first
               | ((first | (have Y1 : Box v11 w1.heap.size #[.int .i64 0, .slice none 0 0, .int .i64 0, .int .i64 0, .int .i64 0] 27 := Box.step (Box.new w1 #[.int .i64 0, .slice none 0 0, .int .i64 0, .int .i64 0, .int .i64 0] 27) d11) | (have Y1 : Box v11 w1.heap.size #[.int .i64 0, .slice none 0 0, .int .i64 0, .int .i64 0, .int .i64 0] 27 := Box.step (Box.new w1 #[.int .i64 0, .slice none 0 0, .int .i64 0, .int .i64 0, .int .i64 0] 27) (und d11)) | (have Y1 : Box v11 w1.heap.size #[.int .i64 0, .slice none 0 0, .int .i64 0, .int .i64 0, .int .i64 0] 27 := Box.step (Box.new w1.drew #[.int .i64 0, .slice none 0 0, .int .i64 0, .int .i64 0, .int .i64 0] 27) d11)); (have q10 := Y1.cell 0; have q11 := Y1.cell 1; have q12 := Y1.cell 2; have q13 := Y1.cell 3; have q14 := Y1.cell 4; have r10 := Y1.frozen 0; have r11 := Y1.frozen 1; have r12 := Y1.frozen 2; have r13 := Y1.frozen 3; have r14 := Y1.frozen 4; simp only [List.getElem?_toArray, List.getElem?_cons_zero, List.getElem?_cons_succ] at q10 q11 q12 q13 q14))
               | skip)
          | (go_at_call 30
             with_reducible refine (XN4.out _).mono ?_
             rintro e v12 ⟨rfl, d12⟩
             have e12 : Below v11.heap.size v11 v12 := by first | exact d12 | exact und d12 | exact step (below_alloc _ _) d12 | exact step (below_alloc _ _) (und d12) | exact und (step (below_alloc _ _) d12)
             have b12 : Below w1.heap.size w1 v12 := step b11 e12
             have n12 := b12.size
             have ne2 : v12.heap.size ≠ g1 := by omega
             first
               | ((first | (have Y2 : Box v12 v11.heap.size #[.int .i64 0, .slice none 0 0, .int .i64 0, .int .i64 0, .int .i64 0] 27 := Box.step (Box.new v11 #[.int .i64 0, .slice none 0 0, .int .i64 0, .int .i64 0, .int .i64 0] 27) d12) | (have Y2 : Box v12 v11.heap.size #[.int .i64 0, .slice none 0 0, .int .i64 0, .int .i64 0, .int .i64 0] 27 := Box.step (Box.new v11 #[.int .i64 0, .slice none 0 0, .int .i64 0, .int .i64 0, .int .i64 0] 27) (und d12)) | (have Y2 : Box v12 v11.heap.size #[.int .i64 0, .slice none 0 0, .int .i64 0, .int .i64 0, .int .i64 0] 27 := Box.step (Box.new v11.drew #[.int .i64 0, .slice none 0 0, .int .i64 0, .int .i64 0, .int .i64 0] 27) d12) | (have Y2 := Box.step Y1 e12)); (have q20 := Y2.cell 0; have q21 := Y2.cell 1; have q22 := Y2.cell 2; have q23 := Y2.cell 3; have q24 := Y2.cell 4; have r20 := Y2.frozen 0; have r21 := Y2.frozen 1; have r22 := Y2.frozen 2; have r23 := Y2.frozen 3; have r24 := Y2.frozen 4; simp only [List.getElem?_toArray, List.getElem?_cons_zero, List.getElem?_cons_succ] at q20 q21 q22 q23 q24))
               | skip)
          | (go_at_call 30
             with_reducible refine (XN6.out _).mono ?_
             rintro e v13 ⟨rfl, d13⟩
             have e13 : Below v12.heap.size v12 v13 := by first | exact d13 | exact und d13 | exact step (below_alloc _ _) d13 | exact step (below_alloc _ _) (und d13) | exact und (step (below_alloc _ _) d13)
             have b13 : Below w1.heap.size w1 v13 := step b12 e13
             have n13 := b13.size
             have ne3 : v13.heap.size ≠ g1 := by omega
             first
               | ((first | (have Y3 : Box v13 v12.heap.size #[.int .i64 0, .slice none 0 0, .int .i64 0, .int .i64 0, .int .i64 0] 27 := Box.step (Box.new v12 #[.int .i64 0, .slice none 0 0, .int .i64 0, .int .i64 0, .int .i64 0] 27) d13) | (have Y3 : Box v13 v12.heap.size #[.int .i64 0, .slice none 0 0, .int .i64 0, .int .i64 0, .int .i64 0] 27 := Box.step (Box.new v12 #[.int .i64 0, .slice none 0 0, .int .i64 0, .int .i64 0, .int .i64 0] 27) (und d13)) | (have Y3 : Box v13 v12.heap.size #[.int .i64 0, .slice none 0 0, .int .i64 0, .int .i64 0, .int .i64 0] 27 := Box.step (Box.new v12.drew #[.int .i64 0, .slice none 0 0, .int .i64 0, .int .i64 0, .int .i64 0] 27) d13) | (have Y3 := Box.step Y2 e13)); (have q30 := Y3.cell 0; have q31 := Y3.cell 1; have q32 := Y3.cell 2; have q33 := Y3.cell 3; have q34 := Y3.cell 4; have r30 := Y3.frozen 0; have r31 := Y3.frozen 1; have r32 := Y3.frozen 2; have r33 := Y3.frozen 3; have r34 := Y3.frozen 4; simp only [List.getElem?_toArray, List.getElem?_cons_zero, List.getElem?_cons_succ] at q30 q31 q32 q33 q34))
               | skip)
          | (go_at_call 30
             with_reducible refine (XN8.out _).mono ?_
             rintro e v14 ⟨rfl, d14⟩
             have e14 : Below v13.heap.size v13 v14 := by first | exact d14 | exact und d14 | exact step (below_alloc _ _) d14 | exact step (below_alloc _ _) (und d14) | exact und (step (below_alloc _ _) d14)
             have b14 : Below w1.heap.size w1 v14 := step b13 e14
             have n14 := b14.size
             have ne4 : v14.heap.size ≠ g1 := by omega
             first
               | ((first | (have Y4 : Box v14 v13.heap.size #[.int .i64 0, .slice none 0 0, .int .i64 0, .int .i64 0, .int .i64 0] 27 := Box.step (Box.new v13 #[.int .i64 0, .slice none 0 0, .int .i64 0, .int .i64 0, .int .i64 0] 27) d14) | (have Y4 : Box v14 v13.heap.size #[.int .i64 0, .slice none 0 0, .int .i64 0, .int .i64 0, .int .i64 0] 27 := Box.step (Box.new v13 #[.int .i64 0, .slice none 0 0, .int .i64 0, .int .i64 0, .int .i64 0] 27) (und d14)) | (have Y4 : Box v14 v13.heap.size #[.int .i64 0, .slice none 0 0, .int .i64 0, .int .i64 0, .int .i64 0] 27 := Box.step (Box.new v13.drew #[.int .i64 0, .slice none 0 0, .int .i64 0, .int .i64 0, .int .i64 0] 27) d14) | (have Y4 := Box.step Y3 e14)); (have q40 := Y4.cell 0; have q41 := Y4.cell 1; have q42 := Y4.cell 2; have q43 := Y4.cell 3; have q44 := Y4.cell 4; have r40 := Y4.frozen 0; have r41 := Y4.frozen 1; have r42 := Y4.frozen 2; have r43 := Y4.frozen 3; have r44 := Y4.frozen 4; simp only [List.getElem?_toArray, List.getElem?_cons_zero, List.getElem?_cons_succ] at q40 q41 q42 q43 q44))
               | skip))
      all_goals (go_wp2_with fail; go_meet)
      all_goals refine ⟨_, rfl, Lib.hid ⟨?_, ?_, ?_⟩⟩
      all_goals first
        | with_reducible exact Box.new _ _ _
        | with_reducible exact box_all5 _ _ _ _ _ Y4
        | with_reducible exact step b14 (below_alloc _ _)
        | with_reducible exact below_all5 _ _ _ _ _ b14 (by omega)
        | with_reducible exact Nat.le_refl _
        | omega
    case rest =>
    obtain ⟨g, rfl, hct⟩ := hcut
    obtain ⟨y3, bb, hgg⟩ := hct.out
    have BB := Lib.hid bb
    have B3 := Lib.hid (step B1.out bb)
    have X3 := Lib.hid (X1.out.step bb)
    have Y3 := Lib.hid y3
    have glt := y3.lt
    have lw := X1.out.lt
    have k2 := (bb.cell (p := ⟨g1, 2, none⟩) hg1).trans C2.out
    have I3 := Lib.hid (HI.out.step B3.out)
    have hg13 : g1 < wc.heap.size := Nat.lt_of_lt_of_le hg1 bb.size
    clear hct y3 C2 c0 c4 c6 c8 XR XN4 XN6 XN8 X0 B0 bb
    by_cases hf : x2 = freeB
    · have RX := Lib.hid (RD.out [] (fun _ => rfl) (fun h => absurd hf h))
      have f1 : (x2.toList == [102, 114, 101, 101]) = true := by rw [hf]; decide +kernel
      have f2 : x2.toList = [102, 114, 101, 101] := by simpa using f1
      have f3 : x2.toList = (⟨#[102, 114, 101, 101]⟩ : ByteArray).toList := by rw [hf]; rfl
      clear RD X2W hf
      obtain ⟨xs, hxs⟩ : ∃ xs : List Int, xs = [] := ⟨_, rfl⟩
      rw [← hxs] at RX
      have h0 : 0 = xs.length := by rw [hxs]; rfl
      have hxl : xs.length ≤ 1048576 := by omega
      obtain ⟨q, V4⟩ : ∃ q, Hid (OwnV wc (w.heap.size + 1) wc.heap.size (.slice none xs.length 0) q xs) := ⟨0, Lib.hid (by rw [hxs]; exact ownV_nil _ _ _)⟩
      have J4 := Lib.hid (show RI wc none xs from (V4.out.ints).2.2.2.mono (Nat.zero_le _) (Nat.le_refl _))
      have Y4 := Lib.hid (show Box wc g #[.int .i64 r, .slice none xs.length 0, .int .i64 li, .int .i64 co, .int .i64 qu] 27 by rw [← h0]; exact Y3.out)
      have I4 := I3
      have B4 := B3
      have X4 := X3
      clear I3 B3 X3 Y3 h0 hxs

      have y0 := Y4.out.cell 0
      have y1 := Y4.out.cell 1
      have y2 := Y4.out.cell 2
      have y3 := Y4.out.cell 3
      have y4 := Y4.out.cell 4
      simp only [List.getElem?_toArray, List.getElem?_cons_zero, List.getElem?_cons_succ] at y0 y1 y2 y3 y4
      go_wp2_with fail
      refine (spec_IsMethod S cS sch r xs li co qu none 0 hls hxl _ I4.out J4.out).mono ?_
      rintro e w5 ⟨he, d5⟩
      have B5 := Lib.hid (step B4.out d5)
      have X5 := Lib.hid (X4.out.step d5)
      have Y5 := Lib.hid (Y4.out.step d5)
      have V5 := Lib.hid (V4.out.step d5)
      have J5 := Lib.hid (J4.out.step d5)
      clear d5
      clear y0 y1 y2 y3 y4
      cases hF : methB sch r xs li co qu
      · have E := Lib.hid (RX.out.2 fun h => by have := h.1; rw [hF] at this; cases this)
        rw [hF] at he
        subst he
        clear hF
        have q0 := X5.out.cell 0
        have q1 := X5.out.cell 1
        have q2 := X5.out.cell 2
        have q3 := X5.out.cell 3
        have q4 := X5.out.cell 4
        have qf0 := X5.out.frozen 0
        have qf1 := X5.out.frozen 1
        have qf2 := X5.out.frozen 2
        have qf3 := X5.out.frozen 3
        have qf4 := X5.out.frozen 4
        simp only [List.getElem?_toArray, List.getElem?_cons_zero, List.getElem?_cons_succ] at q0 q1 q2 q3 q4
        go_wp2
        refine bodyPost_ret (v := .tuple #[.agg #[.int .i64 0, .slice none 0 0, .int .i64 0, .int .i64 0, .int .i64 0], .bool false]) (by simp [results, Tryd.results10, go_sem, q0, q1, q2, q3, q4, qf0, qf1, qf2, qf3, qf4]) rfl ?_
        rw [E.out]
        exact (show PmOut w noM false _ _ from ⟨none, 0, 0, rfl, ownV_nil _ _ _, below_all5 _ _ _ _ _ B5.out (Nat.le_refl _)⟩)
      · have HF := Lib.hid hF
        rw [hF] at he
        subst he
        clear hF
        have y0 := Y5.out.cell 0
        have y1 := Y5.out.cell 1
        have y2 := Y5.out.cell 2
        have y3 := Y5.out.cell 3
        have y4 := Y5.out.cell 4
        simp only [List.getElem?_toArray, List.getElem?_cons_zero, List.getElem?_cons_succ] at y0 y1 y2 y3 y4
        go_wp2_with fail
        refine (spec_FormatMethod r xs li co qu none 0 hxl _ J5.out).mono ?_
        rintro e w6 ⟨rfl, d6⟩
        have B6 := Lib.hid (step B5.out d6)
        have X6 := Lib.hid (X5.out.step d6)
        have Y6 := Lib.hid (Y5.out.step d6)
        have V6 := Lib.hid (V5.out.step d6)
        clear d6
        clear y0 y1 y2 y3 y4
        by_cases c3 : fmtM r xs li co qu = s
        · have E := Lib.hid (RX.out.1 HF.out c3)
          have c4 : ((fmtM r xs li co qu).toList == s.toList) = true := by rw [c3]; simp
          have c5 : (fmtM r xs li co qu).toList = s.toList := by rw [c3]
          clear c3
          have q0 := X6.out.cell 0
          have q1 := X6.out.cell 1
          have q2 := X6.out.cell 2
          have q3 := X6.out.cell 3
          have q4 := X6.out.cell 4
          have qf0 := X6.out.frozen 0
          have qf1 := X6.out.frozen 1
          have qf2 := X6.out.frozen 2
          have qf3 := X6.out.frozen 3
          have qf4 := X6.out.frozen 4
          simp only [List.getElem?_toArray, List.getElem?_cons_zero, List.getElem?_cons_succ] at q0 q1 q2 q3 q4
          have y0 := Y6.out.cell 0
          have y1 := Y6.out.cell 1
          have y2 := Y6.out.cell 2
          have y3 := Y6.out.cell 3
          have y4 := Y6.out.cell 4
          simp only [List.getElem?_toArray, List.getElem?_cons_zero, List.getElem?_cons_succ] at y0 y1 y2 y3 y4
          go_wp2
          refine bodyPost_ret (v := .tuple #[.agg #[.int .i64 r, .slice none xs.length 0, .int .i64 li, .int .i64 co, .int .i64 qu], .bool true]) (by simp [results, Tryd.results10, go_sem, q0, q1, q2, q3, q4, qf0, qf1, qf2, qf3, qf4]) rfl ?_
          rw [E.out]
          exact (show PmOut w (r, xs, li, co, qu) true _ _ from ⟨none, 0, q, rfl, ownV_all5 _ _ _ _ _ V6.out, below_all5 _ _ _ _ _ B6.out (Nat.le_refl _)⟩)
        · have E := Lib.hid (RX.out.2 fun h => c3 h.2)
          have c5 : ¬ (fmtM r xs li co qu).toList = s.toList := fun h => c3 (by
          rw [ByteArray.toList_eq, ByteArray.toList_eq] at h
          apply ByteArray.ext; apply Array.toList_inj.1; exact h)
          have c6 : ((fmtM r xs li co qu).toList == s.toList) = false := by simpa using c5
          have c7 : ((fmtM r xs li co qu).toList != s.toList) = true := by simpa using c5
          clear c3
          have q0 := X6.out.cell 0
          have q1 := X6.out.cell 1
          have q2 := X6.out.cell 2
          have q3 := X6.out.cell 3
          have q4 := X6.out.cell 4
          have qf0 := X6.out.frozen 0
          have qf1 := X6.out.frozen 1
          have qf2 := X6.out.frozen 2
          have qf3 := X6.out.frozen 3
          have qf4 := X6.out.frozen 4
          simp only [List.getElem?_toArray, List.getElem?_cons_zero, List.getElem?_cons_succ] at q0 q1 q2 q3 q4
          go_wp2
          refine bodyPost_ret (v := .tuple #[.agg #[.int .i64 0, .slice none 0 0, .int .i64 0, .int .i64 0, .int .i64 0], .bool false]) (by simp [results, Tryd.results10, go_sem, q0, q1, q2, q3, q4, qf0, qf1, qf2, qf3, qf4]) rfl ?_
          rw [E.out]
          exact (show PmOut w noM false _ _ from ⟨none, 0, 0, rfl, ownV_nil _ _ _, below_all5 _ _ _ _ _ B6.out (Nat.le_refl _)⟩)
    · have f1 : (x2.toList == [102, 114, 101, 101]) = false := by
        simp only [beq_eq_false_iff_ne, ne_eq]
        intro h
        exact hf (by
          rw [ByteArray.toList_eq] at h
          apply ByteArray.ext; apply Array.toList_inj.1; exact h)
      have f2 : ¬ x2.toList = [102, 114, 101, 101] := by simpa using f1
      have f4 : (x2.toList != [102, 114, 101, 101]) = true := by simpa using f2
      have f3 : ¬ x2.toList = (⟨#[102, 114, 101, 101]⟩ : ByteArray).toList := fun h => f2 (by rw [h]; decide +kernel)
      have RX0 := Lib.hid (RD.out ((cutW x2).map numS) (fun h => absurd h hf) (fun _ => rfl))
      have WS := Lib.hid (fun y (h : y ∈ cutW x2) => cutW_size h)
      clear RD hf
      go_wp2_with fail
      refine (X2W.out _).mono ?_
      rintro e w4 ⟨A2, c2, rfl, hst2, d4⟩
      have B4 := Lib.hid (step B3.out d4)
      have X4 := Lib.hid (X3.out.step d4)
      have Y4 := Lib.hid (Y3.out.step d4)
      have I4 := Lib.hid (I3.out.step d4)
      have ST := Lib.hid hst2
      have lg4 : g < w4.heap.size := Y4.out.lt
      clear B3 X3 Y3 I3 d4 k2 f1 f2 f3 f4 X2W hst2
      generalize cutW x2 = ws2 at ST hw2 RX0 WS ⊢
      go_wp2_with fail
      go_loopw [9] (fun i wr => ∃ (k : Nat) (A : Option Addr) (c : Nat), k ≤ ws2.length ∧ i = .int .i64 k ∧ Hid (Box wr g #[.int .i64 r, .slice A k c, .int .i64 li, .int .i64 co, .int .i64 qu] 27) ∧ Hid (wr.ownsRow w4.heap.size 3 1 (.slice A k c) k (((ws2.map numS).take k).map (Value.int .i64))) ∧ Hid (Below g w4 wr) ∧ Hid (∀ b, b < w4.heap.size → b ≠ g → wr.heap[b]? = w4.heap[b]?) ∧ w4.heap.size ≤ wr.heap.size) (fun i _ => ws2.length - (intOf i).toNat)
      case atStart => exact ⟨0, none, 0, by omega, rfl, Y4, Lib.hid ⟨by simp, .inl ⟨rfl, rfl⟩⟩, Lib.hid (Below.refl _ _), Lib.hid (fun _ _ _ => rfl), Nat.le_refl _⟩
      case round =>
        obtain ⟨k, A, c, hk, rfl, HY, HO, HB, HK, hsz⟩ := hrel
        by_cases hlt : k < ws2.length
        · obtain ⟨g2, rfl, hg2, hcell⟩ := ST.out (by intro e; rw [e] at hlt; simp at hlt)
          have hne : g2 ≠ g := by
            rintro rfl
            have e1 := hcell 0 (by omega)
            rw [Y4.out.cell 0] at e1
            simp at e1
          have hc := (cell_blk (i := k) (HK.out g2 hg2 hne)).trans (hcell k hlt)
          generalize hx : ws2.getD k ⟨#[]⟩ = x at hc
          have hxm : x ∈ ws2 := by subst hx; rw [List.getD_eq_getElem?_getD, List.getElem?_eq_getElem hlt]; exact List.getElem_mem _
          have hxs : x.size ≤ 1048576 := by have := WS.out x hxm; omega
          have NT := Lib.hid (numsS_take ws2 hlt hx)
          have XN := Lib.hid (l2Num_any x hxs)
          generalize numS x = n at NT XN
          have q1 := HY.out.cell 1
          have q3 := HY.out.frozen 1
          simp only [List.getElem?_toArray, List.getElem?_cons_zero, List.getElem?_cons_succ] at q1
          have hk0 : (0 : Int) ≤ (k : Int) := by omega
          have hk1 : (k : Int) < (ws2.length : Int) := by omega
          have hgw : g < wr.heap.size := by omega
          clear hx hxm hcell RX0
          go_wp2
          go_region_law (first
            | (refine step_callB rfl 30 _ _ rfl (.string x) _ rfl (by kernel_rfl) (XN.out _) ?_
               intro u5 d5
               have b5 : Below wr.heap.size wr u5 := by first | exact d5 | exact und d5 | exact undN d5
               have q15 := (b5.cell (p := ⟨g, 1, none⟩) (by (try simp) <;> omega)).trans q1
               have q35 := (b5.frozen (p := ⟨g, 1, none⟩) (by (try simp) <;> omega)).trans q3
               have z5 := b5.size
               have HO5 := Lib.hid (ownsRow_step HO.out b5)
               have hb5 : Below w4.heap.size wr u5 := b5.mono hsz
               have hz5 : w4.heap.size ≤ u5.heap.size := by omega
               have q17 := ((below_alloc u5 (.cells #[.int .i64 n] 3)).cell (p := ⟨g, 1, none⟩) (by (try simp) <;> omega)).trans q15
               have q37 := ((below_alloc u5 (.cells #[.int .i64 n] 3)).frozen (p := ⟨g, 1, none⟩) (by (try simp) <;> omega)).trans q35
               clear d5)
            | (refine step_pushR rfl _ _ _ 3 rfl i0 Tryd.underlying22 hi (.int .i64 0) 8 hz0 hz1 hz2 rfl (by omega) w4.heap.size k _ (((ws2.map numS).take k).map (Value.int .i64)) _ 1 (.int .i64 n) rfl rfl rfl (by first | exact HO5.out.alloc _ | exact (HO5.out.alloc _).drew | exact HO5.out.drew.alloc _) (by first | exact hb5.alloc hz5 _ | exact (hb5.alloc hz5 _).drew | exact hb5.drew.alloc hz5 _) (by (try simp) <;> omega) (by omega) (by simp [Addr.add]) ?_
               intro v6 u6 hown6 hb6 hz6
               obtain ⟨A6, c6, rfl⟩ := ownsRow_form hown6
               have q16 := (hb6.cell (p := ⟨g, 1, none⟩) (by (try simp) <;> omega)).trans q1
               have q36 := (hb6.frozen (p := ⟨g, 1, none⟩) (by (try simp) <;> omega)).trans q3
               have z6 := hb6.size
               have HO6 := Lib.hid hown6
               clear hown6 hz6))
          all_goals
            clear q15 q35 q16 q36 q17 q37 q1 q3 hc
            go_wp2
            go_roundw
            case rel =>
              refine ⟨k + 1, A6, c6, by omega, by go_num, Lib.hid (box_set5 (show Box u6 g #[.int .i64 r, .slice A k c, .int .i64 li, .int .i64 co, .int .i64 qu] 27 from (hb6.block _ (by omega)).trans HY.out)), Lib.hid ?_, Lib.hid ((HB.out.trans (hb6.mono (by omega))).setCell (Nat.le_refl _) _), Lib.hid (fun b h1 h2 => (Below.heap_setCell _ ⟨g, 1, none⟩ _ b h2).trans ((hb6.block b h1).trans (HK.out b h1 h2))), by rw [set_size]; omega⟩
              rw [NT.out, List.map_append]
              exact ownsRow_set HO6.out (show g < _ by omega)
            case measure => simp [intOf]; omega
        · obtain rfl : k = ws2.length := by omega
          have hnl : (ws2.map numS).length = ws2.length := by simp
          have hown2 : wr.ownsRow w4.heap.size 3 1 (.slice A ws2.length c) ws2.length ((ws2.map numS).map (Value.int .i64)) := by have := HO.out; rw [List.take_of_length_le (by omega)] at this; exact this
          obtain ⟨q, hv⟩ := ownV_of_row hown2
          rw [← hnl] at hv
          have hy2 := HY.out
          rw [← hnl] at hy2
          have RX := Lib.hid RX0.out
          generalize hxs : ws2.map numS = xs at hv hy2 hnl RX
          have hxl : xs.length ≤ 1048576 := by omega
          have V5 := Lib.hid (OwnV.mono (lo' := w.heap.size + 1) hv (by omega) (Nat.le_refl _))
          have J5 := Lib.hid (show RI wr A xs from (hv.ints).2.2.2.mono (Nat.zero_le _) (Nat.le_refl _))
          have Y5 := Lib.hid hy2
          have B5 := Lib.hid (B4.out.trans (HB.out.mono (by omega)))
          have X5 := Lib.hid (show Box wr w.heap.size #[.int .i64 0, .slice none 0 0, .int .i64 0, .int .i64 0, .int .i64 0] 27 from (HB.out.block _ (by omega)).trans X4.out)
          have I5 := Lib.hid (HI.out.step B5.out)
          have HNL := Lib.hid hnl
          rw [← hnl] at *
          clear hown2 hv hy2 hxs hnl HO HY B4 X4 Y4 I4 RX0 HK WS ST
          have V4 := V5
          have J4 := J5
          have Y4 := Y5
          have B4 := B5
          have X4 := X5
          have I4 := I5
          clear V5 J5 Y5 B5 X5 I5
          have y0 := Y4.out.cell 0
          have y1 := Y4.out.cell 1
          have y2 := Y4.out.cell 2
          have y3 := Y4.out.cell 3
          have y4 := Y4.out.cell 4
          simp only [List.getElem?_toArray, List.getElem?_cons_zero, List.getElem?_cons_succ] at y0 y1 y2 y3 y4
          go_wp2_with fail
          refine (spec_IsMethod S cS sch r xs li co qu A c hls hxl _ I4.out J4.out).mono ?_
          rintro e w5 ⟨he, d5⟩
          have B5 := Lib.hid (step B4.out d5)
          have X5 := Lib.hid (X4.out.step d5)
          have Y5 := Lib.hid (Y4.out.step d5)
          have V5 := Lib.hid (V4.out.step d5)
          have J5 := Lib.hid (J4.out.step d5)
          clear d5
          clear y0 y1 y2 y3 y4
          cases hF : methB sch r xs li co qu
          · have E := Lib.hid (RX.out.2 fun h => by have := h.1; rw [hF] at this; cases this)
            rw [hF] at he
            subst he
            clear hF
            have q0 := X5.out.cell 0
            have q1 := X5.out.cell 1
            have q2 := X5.out.cell 2
            have q3 := X5.out.cell 3
            have q4 := X5.out.cell 4
            have qf0 := X5.out.frozen 0
            have qf1 := X5.out.frozen 1
            have qf2 := X5.out.frozen 2
            have qf3 := X5.out.frozen 3
            have qf4 := X5.out.frozen 4
            simp only [List.getElem?_toArray, List.getElem?_cons_zero, List.getElem?_cons_succ] at q0 q1 q2 q3 q4
            go_wp2
            refine bodyPost_ret (v := .tuple #[.agg #[.int .i64 0, .slice none 0 0, .int .i64 0, .int .i64 0, .int .i64 0], .bool false]) (by simp [results, Tryd.results10, go_sem, q0, q1, q2, q3, q4, qf0, qf1, qf2, qf3, qf4]) rfl ?_
            rw [E.out]
            exact (show PmOut w noM false _ _ from ⟨none, 0, 0, rfl, ownV_nil _ _ _, below_all5 _ _ _ _ _ B5.out (Nat.le_refl _)⟩)
          · have HF := Lib.hid hF
            rw [hF] at he
            subst he
            clear hF
            have y0 := Y5.out.cell 0
            have y1 := Y5.out.cell 1
            have y2 := Y5.out.cell 2
            have y3 := Y5.out.cell 3
            have y4 := Y5.out.cell 4
            simp only [List.getElem?_toArray, List.getElem?_cons_zero, List.getElem?_cons_succ] at y0 y1 y2 y3 y4
            go_wp2_with fail
            refine (spec_FormatMethod r xs li co qu A c hxl _ J5.out).mono ?_
            rintro e w6 ⟨rfl, d6⟩
            have B6 := Lib.hid (step B5.out d6)
            have X6 := Lib.hid (X5.out.step d6)
            have Y6 := Lib.hid (Y5.out.step d6)
            have V6 := Lib.hid (V5.out.step d6)
            clear d6
            clear y0 y1 y2 y3 y4
            by_cases c3 : fmtM r xs li co qu = s
            · have E := Lib.hid (RX.out.1 HF.out c3)
              have c4 : ((fmtM r xs li co qu).toList == s.toList) = true := by rw [c3]; simp
              have c5 : (fmtM r xs li co qu).toList = s.toList := by rw [c3]
              clear c3
              have q0 := X6.out.cell 0
              have q1 := X6.out.cell 1
              have q2 := X6.out.cell 2
              have q3 := X6.out.cell 3
              have q4 := X6.out.cell 4
              have qf0 := X6.out.frozen 0
              have qf1 := X6.out.frozen 1
              have qf2 := X6.out.frozen 2
              have qf3 := X6.out.frozen 3
              have qf4 := X6.out.frozen 4
              simp only [List.getElem?_toArray, List.getElem?_cons_zero, List.getElem?_cons_succ] at q0 q1 q2 q3 q4
              have y0 := Y6.out.cell 0
              have y1 := Y6.out.cell 1
              have y2 := Y6.out.cell 2
              have y3 := Y6.out.cell 3
              have y4 := Y6.out.cell 4
              simp only [List.getElem?_toArray, List.getElem?_cons_zero, List.getElem?_cons_succ] at y0 y1 y2 y3 y4
              go_wp2
              refine bodyPost_ret (v := .tuple #[.agg #[.int .i64 r, .slice A xs.length c, .int .i64 li, .int .i64 co, .int .i64 qu], .bool true]) (by simp [results, Tryd.results10, go_sem, q0, q1, q2, q3, q4, qf0, qf1, qf2, qf3, qf4]) rfl ?_
              rw [E.out]
              exact (show PmOut w (r, xs, li, co, qu) true _ _ from ⟨A, c, q, rfl, ownV_all5 _ _ _ _ _ V6.out, below_all5 _ _ _ _ _ B6.out (Nat.le_refl _)⟩)
            · have E := Lib.hid (RX.out.2 fun h => c3 h.2)
              have c5 : ¬ (fmtM r xs li co qu).toList = s.toList := fun h => c3 (by
              rw [ByteArray.toList_eq, ByteArray.toList_eq] at h
              apply ByteArray.ext; apply Array.toList_inj.1; exact h)
              have c6 : ((fmtM r xs li co qu).toList == s.toList) = false := by simpa using c5
              have c7 : ((fmtM r xs li co qu).toList != s.toList) = true := by simpa using c5
              clear c3
              have q0 := X6.out.cell 0
              have q1 := X6.out.cell 1
              have q2 := X6.out.cell 2
              have q3 := X6.out.cell 3
              have q4 := X6.out.cell 4
              have qf0 := X6.out.frozen 0
              have qf1 := X6.out.frozen 1
              have qf2 := X6.out.frozen 2
              have qf3 := X6.out.frozen 3
              have qf4 := X6.out.frozen 4
              simp only [List.getElem?_toArray, List.getElem?_cons_zero, List.getElem?_cons_succ] at q0 q1 q2 q3 q4
              go_wp2
              refine bodyPost_ret (v := .tuple #[.agg #[.int .i64 0, .slice none 0 0, .int .i64 0, .int .i64 0, .int .i64 0], .bool false]) (by simp [results, Tryd.results10, go_sem, q0, q1, q2, q3, q4, qf0, qf1, qf2, qf3, qf4]) rfl ?_
              rw [E.out]
              exact (show PmOut w noM false _ _ from ⟨none, 0, 0, rfl, ownV_nil _ _ _, below_all5 _ _ _ _ _ B6.out (Nat.le_refl _)⟩)
  · have E := Lib.hid (H9.out h9)
    have h9i : ¬ ((ws.length : Int) = 9) := by omega
    have h9b : ((ws.length : Int) == 9) = false := by simpa using h9i
    have h9c : ((ws.length : Int) != 9) = true := by simpa using h9i
    clear HN H9
    have q0 := X1.out.cell 0
    have q1 := X1.out.cell 1
    have q2 := X1.out.cell 2
    have q3 := X1.out.cell 3
    have q4 := X1.out.cell 4
    have qf0 := X1.out.frozen 0
    have qf1 := X1.out.frozen 1
    have qf2 := X1.out.frozen 2
    have qf3 := X1.out.frozen 3
    have qf4 := X1.out.frozen 4
    simp only [List.getElem?_toArray, List.getElem?_cons_zero, List.getElem?_cons_succ] at q0 q1 q2 q3 q4
    go_wp2
    refine bodyPost_ret (v := .tuple #[.agg #[.int .i64 0, .slice none 0 0, .int .i64 0, .int .i64 0, .int .i64 0], .bool false]) (by simp [results, Tryd.results10, go_sem, q0, q1, q2, q3, q4, qf0, qf1, qf2, qf3, qf4]) rfl ?_
    rw [E.out]
    exact (show PmOut w noM false _ _ from ⟨none, 0, 0, rfl, ownV_nil _ _ _, below_all5 _ _ _ _ _ B1.out (Nat.le_refl _)⟩)
end Go.Proofs.YtenondgjipmhnaaDoor
