/- What the program's MatchesOf answers. Conditions: none beyond each theorem's own. -/
import Derived.Test.YtenondgjipmhnaaMto
namespace Go.Proofs.Ytenondgjipmhnaa
open Go.ChangeShapes Go.WideShapes Go.ChangeAt Go.RowKit Go.Sort
set_option linter.unusedVariables false
set_option linter.unusedSimpArgs false

set_option maxHeartbeats 1000000 in
set_option maxRecDepth 100000 in
theorem callOf_any (L : Option Addr) (cl : Nat) (l : ML) (k : Nat) (vs : List Int) (V : Option Addr) (cv : Nat) (hk : k < l.length) (hz : szM l ≤ 1048576) (r li co qu : Int) (xs : List Int) (hf : l.getD k noM = (r, xs, li, co, qu)) (w : World) (h : RM w L l) :
    Calls Try.prog 78 #[.slice L l.length cl, .agg #[.int .i64 (k : Int), .slice V vs.length cv]] w fun e w' => ∃ B c2, e = .returned (.agg #[.int .i64 r, .slice B xs.length c2, .int .i64 li, .int .i64 co, .int .i64 qu, .slice V vs.length cv]) ∧ RI w' B xs ∧ Below w.heap.size w w' := by
  have hl := szM_len hz
  have hl' : (l.length : Int) ≤ 1048576 := by omega
  have hk0 : (0 : Int) ≤ (k : Int) := by omega
  have hk1 : (k : Int) < (l.length : Int) := by omega
  obtain ⟨b, off, B, c2, rfl, n1, E0, E1, E2, E3, E4, _, _, hX⟩ := h.at_ hk hf
  have bb := step (below_alloc w (.cells #[.int .i64 (k : Int), .slice V vs.length cv] 44)) (below_alloc _ (.cells #[.int .i64 0, .slice none 0 0, .int .i64 0, .int .i64 0, .int .i64 0, .slice none 0 0] 101))
  have X0 := (Box.new w #[.int .i64 (k : Int), .slice V vs.length cv] 44).step (below_alloc _ (.cells #[.int .i64 0, .slice none 0 0, .int .i64 0, .int .i64 0, .int .i64 0, .slice none 0 0] 101))
  have X1 := Box.new (w.alloc (.cells #[.int .i64 (k : Int), .slice V vs.length cv] 44)) #[.int .i64 0, .slice none 0 0, .int .i64 0, .int .i64 0, .int .i64 0, .slice none 0 0] 101
  simp only [al_size] at X1
  have x0 := X0.cell 0
  have x1 := X0.cell 1
  simp only [List.getElem?_toArray, List.getElem?_cons_zero, List.getElem?_cons_succ] at x0 x1
  have e0 := (bb.cell (p := ⟨b, off + k * 5, none⟩) n1).trans E0
  have e1 := (bb.cell (p := ⟨b, off + k * 5 + 1, none⟩) n1).trans E1
  have e2 := (bb.cell (p := ⟨b, off + k * 5 + 2, none⟩) n1).trans E2
  have e3 := (bb.cell (p := ⟨b, off + k * 5 + 3, none⟩) n1).trans E3
  have e4 := (bb.cell (p := ⟨b, off + k * 5 + 4, none⟩) n1).trans E4
  have bf := (step (below_alloc w (.cells #[.int .i64 (k : Int), .slice V vs.length cv] 44)) (below_alloc _ (.cells #[.int .i64 r, .slice B xs.length c2, .int .i64 li, .int .i64 co, .int .i64 qu, .slice V vs.length cv] 101))).drew
  have f0 := (bf.cell (p := ⟨b, off + k * 5, none⟩) n1).trans E0
  have f1 := (bf.cell (p := ⟨b, off + k * 5 + 1, none⟩) n1).trans E1
  have f2 := (bf.cell (p := ⟨b, off + k * 5 + 2, none⟩) n1).trans E2
  have f3 := (bf.cell (p := ⟨b, off + k * 5 + 3, none⟩) n1).trans E3
  have f4 := (bf.cell (p := ⟨b, off + k * 5 + 4, none⟩) n1).trans E4
  have BF := Lib.hid bf
  have HX := Lib.hid hX
  clear h hf hX bb bf X0 X1 E0 E1 E2 E3 E4
  go_enter Try.func78, Try.ntmps78
  go_wp2
  go_region_held3 (fun w' => w'.cell? ⟨w.heap.size, 0, none⟩ = some (.int .i64 (k : Int)) ∧ w'.cell? ⟨w.heap.size, 1, none⟩ = some (.slice V vs.length cv) ∧ w'.cell? ⟨b, off + k * 5, none⟩ = some (.int .i64 r) ∧ w'.cell? ⟨b, off + k * 5 + 1, none⟩ = some (.slice B xs.length c2) ∧ w'.cell? ⟨b, off + k * 5 + 2, none⟩ = some (.int .i64 li) ∧ w'.cell? ⟨b, off + k * 5 + 3, none⟩ = some (.int .i64 co) ∧ w'.cell? ⟨b, off + k * 5 + 4, none⟩ = some (.int .i64 qu))
    (first
      | go_keep
      | (go_split_ands; refine ⟨?_, ?_, ?_, ?_, ?_, ?_, ?_⟩ <;> first | assumption | go_keep))
    (fail)
  go_wp2
  have Y := (Box.new (w.alloc (.cells #[.int .i64 (k : Int), .slice V vs.length cv] 44)) #[.int .i64 r, .slice B xs.length c2, .int .i64 li, .int .i64 co, .int .i64 qu, .slice V vs.length cv] 101).step (below_drew _)
  rw [al_size] at Y
  have y0 := Y.cell 0
  have y1 := Y.cell 1
  have y2 := Y.cell 2
  have y3 := Y.cell 3
  have y4 := Y.cell 4
  have y5 := Y.cell 5
  simp only [List.getElem?_toArray, List.getElem?_cons_zero, List.getElem?_cons_succ] at y0 y1 y2 y3 y4 y5
  refine bodyPost_ret (v := .agg #[.int .i64 r, .slice B xs.length c2, .int .i64 li, .int .i64 co, .int .i64 qu, .slice V vs.length cv]) (by simp [results, Try.results78, go_sem, y0, y1, y2, y3, y4, y5]) rfl ⟨B, c2, rfl, HX.out.step BF.out, BF.out⟩

set_option maxHeartbeats 4000000 in
set_option maxRecDepth 100000 in
theorem impl_MatchesOf (S : Option Addr) (cs : Nat) (s : List Int) (L : Option Addr) (cl : Nat) (l : ML) (D : Option Addr) (cd : Nat) (fs : FL) (m : Int) (vs : List Int) (V : Option Addr) (cv : Nat) (hls : s.length ≤ 1048576) (hz : szM l ≤ 1048576) (hzf : szF fs ≤ 1048576) (hlv : vs.length ≤ 1048576) (w : World) (h : RI w S s) (h' : RM w L l) (hd : RF w D fs) (hv : RI w V vs) :
    Calls Try.prog 33 #[.slice S s.length cs, .slice L l.length cl, .slice D fs.length cd, .agg #[.int .i64 m, .slice V vs.length cv]] w (AddOut w (matO s l fs m vs)) := by
  have bb := below_alloc w (.cells #[.int .i64 m, .slice V vs.length cv] 44)
  obtain ⟨W0, hW0⟩ : ∃ W0, W0 = w.alloc (.cells #[.int .i64 m, .slice V vs.length cv] 44) := ⟨_, rfl⟩
  have X0 := Box.new w #[.int .i64 m, .slice V vs.length cv] 44
  rw [← hW0] at X0 bb
  have HB0 := Lib.hid bb
  have HX0 := Lib.hid X0
  have HI := Lib.hid (h.step bb)
  have HL := Lib.hid (h'.step bb)
  have HD := Lib.hid (hd.step bb)
  have HV := Lib.hid (hv.step bb)
  have EW := Lib.hid hW0
  have x0 := X0.cell 0
  have x1 := X0.cell 1
  simp only [List.getElem?_toArray, List.getElem?_cons_zero, List.getElem?_cons_succ] at x0 x1
  have XA := Lib.hid (impl_IsAccess S cs s L cl l m vs V cv hls hz hlv W0 HI.out HL.out HV.out)
  clear h h' hd hv bb hW0 X0
  by_cases ca : accB s l m vs = true
  · have CA := Lib.hid ca
    rw [ca] at XA
    clear ca
    by_cases cf : areB s fs = true
    · have CF := Lib.hid cf
      clear cf
      have hm0 := (acc_of CA.out).2.1
      have hml := (acc_of CA.out).2.2.1
      obtain ⟨k, rfl⟩ := Int.eq_ofNat_of_zero_le hm0
      rw [Int.toNat_natCast] at hml
      generalize hf : l.getD k noM = f
      obtain ⟨r, xs, li, co, qu⟩ := f
      have FO := Lib.hid (fit_of CA.out CF.out (show l.getD ((k : Int)).toNat noM = (r, xs, li, co, qu) by rw [Int.toNat_natCast]; exact hf))
      have EH := Lib.hid (show matO s l fs (k : Int) vs = matF r xs vs fs by unfold matO; rw [CA.out, CF.out, Int.toNat_natCast, hf]; rfl)
      have hxl : xs.length ≤ 1048576 := by have := szM_elem hz hml; rw [hf] at this; exact this
      have hk0 : (0 : Int) ≤ (k : Int) := by omega
      have hk1 : (k : Int) < (l.length : Int) := by omega
      have HF := Lib.hid hf
      have XF := Lib.hid fun (W : World) (hW : Below W0.heap.size W0 W) => (show Calls Try.prog 77 #[.slice S s.length cs, .slice D fs.length cd] W fun e w' => e = .returned (.bool true) ∧ Below W.heap.size W w' by have := impl_AreFacts S cs s D cd fs hls hzf W (HI.out.step hW) (HD.out.step hW); rw [CF.out] at this; exact this)
      clear hf hm0
      go_enter Try.func33, Try.ntmps33
      go_wp2_with fail
      rw [← EW.out]
      refine XA.out.mono ?_
      rintro e u1 ⟨rfl, d1⟩
      have D1 := Lib.hid d1
      clear d1
      go_wp2_with fail
      refine (XF.out _ D1.out).mono ?_
      rintro e u2 ⟨rfl, d2⟩
      have D2 := Lib.hid (step D1.out d2)
      clear d2 x0 x1
      have Z := HX0.out.step D2.out
      have x0 := Z.cell 0
      have x1 := Z.cell 1
      simp only [List.getElem?_toArray, List.getElem?_cons_zero, List.getElem?_cons_succ] at x0 x1
      have zn := Z.lt
      go_wp2_with fail
      refine (callOf_any L cl l k vs V cv hml hz r li co qu xs HF.out u2 (HL.out.step D2.out)).mono ?_
      rintro e u3 ⟨B, c2, rfl, hX, d3⟩
      have HX := Lib.hid hX
      have D3 := Lib.hid (step D2.out d3)
      clear hX d3
      go_wp2_with fail
      refine (matchesAmong_any r xs li co qu B c2 vs V cv D cd fs hxl FO.out.1 hzf FO.out.2 _ HX.out (HV.out.step D3.out) (HD.out.step D3.out)).mono ?_
      rintro e u4 ⟨A4, c4, cs4, bs4, rfl, ho4, d4⟩
      have O4 := Lib.hid (show AddOut u3 (matF r xs vs fs) (.returned (.slice A4 (matF r xs vs fs).length c4)) u4 from ⟨A4, c4, cs4, bs4, rfl, ho4, d4⟩)
      clear ho4 d4
      go_wp2
      go_ret
      rw [EH.out]
      exact AddOut.from O4.out (step HB0.out D3.out)
    · have CF := Lib.hid (show areB s fs = false by simpa using cf)
      have EH := Lib.hid (show matO s l fs m vs = [] by unfold matO; rw [CF.out]; simp)
      have XF := Lib.hid fun (W : World) (hW : Below W0.heap.size W0 W) => (show Calls Try.prog 77 #[.slice S s.length cs, .slice D fs.length cd] W fun e w' => e = .returned (.bool false) ∧ Below W.heap.size W w' by have := impl_AreFacts S cs s D cd fs hls hzf W (HI.out.step hW) (HD.out.step hW); rw [CF.out] at this; exact this)
      clear cf
      go_enter Try.func33, Try.ntmps33
      go_wp2_with fail
      rw [← EW.out]
      refine XA.out.mono ?_
      rintro e u1 ⟨rfl, d1⟩
      have D1 := Lib.hid d1
      clear d1
      go_wp2_with fail
      refine (XF.out _ D1.out).mono ?_
      rintro e u2 ⟨rfl, d2⟩
      have D2 := Lib.hid (step HB0.out (step D1.out d2))
      clear d2
      go_wp2
      go_ret
      rw [EH.out]
      exact addOut_nil w u2 D2.out
  · have CA := Lib.hid (show accB s l m vs = false by simpa using ca)
    have EH := Lib.hid (show matO s l fs m vs = [] by unfold matO; rw [CA.out]; simp)
    rw [CA.out] at XA
    clear ca
    go_enter Try.func33, Try.ntmps33
    go_wp2_with fail
    rw [← EW.out]
    refine XA.out.mono ?_
    rintro e u1 ⟨rfl, d1⟩
    have D1 := Lib.hid (step HB0.out d1)
    clear d1
    go_wp2
    go_ret
    rw [EH.out]
    exact addOut_nil w u1 D1.out
end Go.Proofs.Ytenondgjipmhnaa
