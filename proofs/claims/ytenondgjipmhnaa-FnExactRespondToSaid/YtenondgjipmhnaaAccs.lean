/- What the two functions IsAccess answer. Conditions: none beyond each theorem's own. -/
import Derived.Test.YtenondgjipmhnaaMths
import Derived.Test.YtenondgjipmhnaaAcc
namespace Go.Proofs.Ytenondgjipmhnaa
open Go.ChangeShapes Go.WideShapes Go.ChangeAt Go.RowKit Go.Sort
set_option linter.unusedVariables false
set_option linter.unusedSimpArgs false

/-- Is it an access of the methods l? -/
def accB (s : List Int) (l : ML) (m : Int) (vs : List Int) : Bool := aremB s l && inB m 0 ((l.length : Int) - 1) && decide ((vs.length : Int) = ((l.getD m.toNat noM).2.1.length : Int)) && allB 0 9 vs

set_option maxHeartbeats 2000000 in
set_option maxRecDepth 100000 in
theorem spec_IsAccess (S : Option Addr) (cs : Nat) (s : List Int) (L : Option Addr) (cl : Nat) (l : ML) (m : Int) (vs : List Int) (V : Option Addr) (cv : Nat) (hls : s.length ≤ 1048576) (hz : szM l ≤ 1048576) (hlv : vs.length ≤ 1048576) (w : World) (h : RI w S s) (h' : RM w L l) (hv : RI w V vs) :
    Calls Try.prog 26 #[.slice S s.length cs, .slice L l.length cl, .agg #[.int .i64 m, .slice V vs.length cv]] w fun e w' => e = .returned (.bool (accB s l m vs)) ∧ Below w.heap.size w w' := by
  have hl := szM_len hz
  have hl' : (l.length : Int) ≤ 1048576 := by omega
  have hs' : (s.length : Int) ≤ 1048576 := by omega
  have hv' : (vs.length : Int) ≤ 1048576 := by omega
  have bb := below_alloc w (.cells #[.int .i64 m, .slice V vs.length cv] 44)
  obtain ⟨W0, hW0⟩ : ∃ W0, W0 = w.alloc (.cells #[.int .i64 m, .slice V vs.length cv] 44) := ⟨_, rfl⟩
  have HB0 := Lib.hid bb
  have X0 := Box.new w #[.int .i64 m, .slice V vs.length cv] 44
  have HI := Lib.hid (h.step bb)
  have HL := Lib.hid (h'.step bb)
  have HV := Lib.hid (hv.step bb)
  rw [← hW0] at X0 HI HL HV HB0
  have EW := Lib.hid hW0
  have HX0 := Lib.hid X0
  have e0 := X0.cell 0
  have e1 := X0.cell 1
  simp only [List.getElem?_toArray, List.getElem?_cons_zero, List.getElem?_cons_succ] at e0 e1
  have k0 := cell_regrown e0
  have k1 := cell_regrown e1
  have Y1 := Lib.hid fun (W : World) (hW : Below W0.heap.size W0 W) => spec_AreMethods S cs s L cl l hls hz W (HI.out.step hW) (HL.out.step hW)
  have Y2 := Lib.hid fun (W : World) => (show Calls Try.prog 64 #[.int .i64 m, .int .i64 0, .int .i64 ((l.length : Int) - 1)] W fun e w' => e = .returned (.bool (inB m 0 ((l.length : Int) - 1))) ∧ Below W.heap.size W w' from (l1In_any m 0 ((l.length : Int) - 1) W).mono (by rintro e w' ⟨he, rfl⟩; exact ⟨he, Below.refl _ _⟩))
  clear h h' hv bb hW0 X0 e0 e1
  by_cases c0 : aremB s l = true
  · have C0 := Lib.hid c0
    rw [c0] at Y1
    clear c0
    by_cases c1 : inB m 0 ((l.length : Int) - 1) = true
    · have C1 := Lib.hid c1
      rw [c1] at Y2
      have hr : 0 ≤ m ∧ m ≤ (l.length : Int) - 1 := by simpa [inB] using c1
      clear c1
      obtain ⟨k, rfl⟩ := Int.eq_ofNat_of_zero_le hr.1
      have hk : k < l.length := by omega
      have hk0 : (0 : Int) ≤ (k : Int) := by omega
      have hk1 : (k : Int) < (l.length : Int) := by omega
      generalize hf : l.getD k noM = f
      obtain ⟨r, xs, li, co, qu⟩ := f
      have hxl : xs.length ≤ 1048576 := by have := szM_elem hz hk; rw [hf] at this; exact this
      have hx' : (xs.length : Int) ≤ 1048576 := by omega
      obtain ⟨b, off, B, c2, rfl, n1, e0, e1, e2, e3, e4, _, _, _⟩ := HL.out.at_ hk hf
      have k2 := cell_regrown e1
      by_cases c2' : (vs.length : Int) = (xs.length : Int)
      · have d1 : ((vs.length : Int) == (xs.length : Int)) = true := by simpa using c2'
        have d2 : ((vs.length : Int) != (xs.length : Int)) = false := by simpa using c2'
        have EH := Lib.hid (show accB s l (k : Int) vs = allB 0 9 vs by simp only [accB, C0.out, C1.out, Int.toNat_natCast, hf, decide_eq_true c2', Bool.true_and])
        clear hf hr c2' e0 e1 e2 e3 e4
        go_enter Try.func26, Try.ntmps26
        go_wp2
        rw [← EW.out]
        refine wp_region_quiet_below (by kernel_rfl) (by kernel_rfl) ?_
        repeat (go_big_quiet_step (first | (go_at_call 21; with_reducible exact Calls.regrown_of (Y1.out _ (below_regrown _ _ _))) | (go_at_call 64; with_reducible exact Calls.regrown_of (Y2.out _))))
        refine wpQuiet_nil ?_
        intro u hw'
        have hb0 : Below W0.heap.size W0 u := by obtain ⟨⟨dq, osq⟩, rfl⟩ := hw'; exact below_regrown _ _ _
        have hb2 := step HB0.out hb0
        clear hw' k0 k1 k2
        have X1 := HX0.out.step hb0
        have g1 := X1.cell 1
        simp only [List.getElem?_toArray, List.getElem?_cons_zero, List.getElem?_cons_succ] at g1
        have HU := Lib.hid (HV.out.step hb0)
        have HB2 := Lib.hid hb2
        clear hb0 hb2 X1
        go_wp2
        go_loop [7] (fun i => ∃ j : Nat, j ≤ vs.length ∧ i = .int .i64 j ∧ allB 0 9 (vs.take j) = true) (fun i => vs.length - (intOf i).toNat)
        case atStart => exact ⟨0, by omega, rfl, rfl⟩
        case round =>
          obtain ⟨j, hj, rfl, ha⟩ := hrel
          have HA := Lib.hid ha
          clear ha
          by_cases hlt : j < vs.length
          · obtain ⟨b2, off2, rfl, _, hc⟩ := HU.out.at_ hlt
            have HN := Lib.hid (allB_take 0 9 vs j hlt)
            have HM := Lib.hid (allB_not 0 9 vs j hlt)
            generalize vs.getD j 0 = x at hc HN HM
            have XC := Lib.hid (fun W => l1In_any x 0 9 W)
            generalize inB x 0 9 = res at HN HM XC
            go_wp2_with fail
            refine (XC.out _).mono ?_
            rintro e w' ⟨rfl, rfl⟩
            cases res
            · go_wp2
              go_ret
              exact ⟨ret_bool (by rw [EH.out]; exact (HM.out (by first | exact rfl | trivial)).symm), HB2.out⟩
            · go_wp2
              go_round
              case rel => exact ⟨j + 1, by omega, by go_num, by rw [HN.out, HA.out]; rfl⟩
              case measure => simp [intOf]; omega
          · obtain rfl : j = vs.length := by omega
            go_wp2
            go_ret
            exact ⟨ret_bool (by rw [EH.out]; have := HA.out; rw [take_all] at this; exact this.symm), HB2.out⟩
      · have d1 : ((vs.length : Int) == (xs.length : Int)) = false := by simpa using c2'
        have d2 : ((vs.length : Int) != (xs.length : Int)) = true := by simpa using c2'
        have EH := Lib.hid (show accB s l (k : Int) vs = false by simp only [accB, C0.out, C1.out, Int.toNat_natCast, hf, decide_eq_false c2', Bool.true_and, Bool.false_and])
        clear hf hr c2' e0 e1 e2 e3 e4
        go_enter Try.func26, Try.ntmps26
        go_wp2
        rw [← EW.out]
        refine wp_region_quiet_below (by kernel_rfl) (by kernel_rfl) ?_
        repeat (go_big_quiet_step (first | (go_at_call 21; with_reducible exact Calls.regrown_of (Y1.out _ (below_regrown _ _ _))) | (go_at_call 64; with_reducible exact Calls.regrown_of (Y2.out _))))
        refine wpQuiet_nil ?_
        intro u hw'
        have hb0 : Below W0.heap.size W0 u := by obtain ⟨⟨dq, osq⟩, rfl⟩ := hw'; exact below_regrown _ _ _
        have hb2 := step HB0.out hb0
        clear k2
        clear hw' k0 k1
        go_wp2
        go_ret
        exact ⟨ret_bool EH.out.symm, hb2⟩
    · have c1' : inB m 0 ((l.length : Int) - 1) = false := by simpa using c1
      have EH := Lib.hid (show accB s l m vs = false by simp [accB, c1'])
      rw [c1'] at Y2
      clear c1 c1'
      go_enter Try.func26, Try.ntmps26
      go_wp2
      rw [← EW.out]
      refine wp_region_quiet_below (by kernel_rfl) (by kernel_rfl) ?_
      repeat (go_big_quiet_step (first | (go_at_call 21; with_reducible exact Calls.regrown_of (Y1.out _ (below_regrown _ _ _))) | (go_at_call 64; with_reducible exact Calls.regrown_of (Y2.out _))))
      refine wpQuiet_nil ?_
      intro u hw'
      have hb0 : Below W0.heap.size W0 u := by obtain ⟨⟨dq, osq⟩, rfl⟩ := hw'; exact below_regrown _ _ _
      have hb2 := step HB0.out hb0
      clear hw' k0 k1
      go_wp2
      go_ret
      exact ⟨ret_bool EH.out.symm, hb2⟩
  · have c0' : aremB s l = false := by simpa using c0
    have EH := Lib.hid (show accB s l m vs = false by simp [accB, c0'])
    rw [c0'] at Y1
    clear c0 c0'
    go_enter Try.func26, Try.ntmps26
    go_wp2
    rw [← EW.out]
    refine wp_region_quiet_below (by kernel_rfl) (by kernel_rfl) ?_
    repeat (go_big_quiet_step (first | (go_at_call 21; with_reducible exact Calls.regrown_of (Y1.out _ (below_regrown _ _ _)))))
    refine wpQuiet_nil ?_
    intro u hw'
    have hb0 : Below W0.heap.size W0 u := by obtain ⟨⟨dq, osq⟩, rfl⟩ := hw'; exact below_regrown _ _ _
    have hb2 := step HB0.out hb0
    clear hw' k0 k1
    go_wp2
    go_ret
    exact ⟨ret_bool EH.out.symm, hb2⟩

set_option maxHeartbeats 2000000 in
set_option maxRecDepth 100000 in
theorem impl_IsAccess (S : Option Addr) (cs : Nat) (s : List Int) (L : Option Addr) (cl : Nat) (l : ML) (m : Int) (vs : List Int) (V : Option Addr) (cv : Nat) (hls : s.length ≤ 1048576) (hz : szM l ≤ 1048576) (hlv : vs.length ≤ 1048576) (w : World) (h : RI w S s) (h' : RM w L l) (hv : RI w V vs) :
    Calls Try.prog 28 #[.slice S s.length cs, .slice L l.length cl, .agg #[.int .i64 m, .slice V vs.length cv]] w fun e w' => e = .returned (.bool (accB s l m vs)) ∧ Below w.heap.size w w' := by
  have hl := szM_len hz
  have hl' : (l.length : Int) ≤ 1048576 := by omega
  have hs' : (s.length : Int) ≤ 1048576 := by omega
  have hv' : (vs.length : Int) ≤ 1048576 := by omega
  have bb := below_alloc w (.cells #[.int .i64 m, .slice V vs.length cv] 44)
  obtain ⟨W0, hW0⟩ : ∃ W0, W0 = w.alloc (.cells #[.int .i64 m, .slice V vs.length cv] 44) := ⟨_, rfl⟩
  have HB0 := Lib.hid bb
  have X0 := Box.new w #[.int .i64 m, .slice V vs.length cv] 44
  have HI := Lib.hid (h.step bb)
  have HL := Lib.hid (h'.step bb)
  have HV := Lib.hid (hv.step bb)
  rw [← hW0] at X0 HI HL HV HB0
  have EW := Lib.hid hW0
  have HX0 := Lib.hid X0
  have e0 := X0.cell 0
  have e1 := X0.cell 1
  simp only [List.getElem?_toArray, List.getElem?_cons_zero, List.getElem?_cons_succ] at e0 e1
  have k0 := cell_regrown e0
  have k1 := cell_regrown e1
  have Y1 := Lib.hid fun (W : World) (hW : Below W0.heap.size W0 W) => impl_AreMethods S cs s L cl l hls hz W (HI.out.step hW) (HL.out.step hW)
  have Y2 := Lib.hid fun (W : World) => (show Calls Try.prog 71 #[.slice L l.length cl, .int .i64 m] W fun e w' => e = .returned (.bool (inB m 0 ((l.length : Int) - 1))) ∧ Below W.heap.size W w' from (hasMethod_any L cl l.length m hl W).mono (by rintro e w' ⟨he, rfl⟩; exact ⟨he, Below.refl _ _⟩))
  clear h h' hv bb hW0 X0 e0 e1
  by_cases c0 : aremB s l = true
  · have C0 := Lib.hid c0
    rw [c0] at Y1
    clear c0
    by_cases c1 : inB m 0 ((l.length : Int) - 1) = true
    · have C1 := Lib.hid c1
      rw [c1] at Y2
      have hr : 0 ≤ m ∧ m ≤ (l.length : Int) - 1 := by simpa [inB] using c1
      clear c1
      obtain ⟨k, rfl⟩ := Int.eq_ofNat_of_zero_le hr.1
      have hk : k < l.length := by omega
      have hk0 : (0 : Int) ≤ (k : Int) := by omega
      have hk1 : (k : Int) < (l.length : Int) := by omega
      generalize hf : l.getD k noM = f
      obtain ⟨r, xs, li, co, qu⟩ := f
      have hxl : xs.length ≤ 1048576 := by have := szM_elem hz hk; rw [hf] at this; exact this
      have hx' : (xs.length : Int) ≤ 1048576 := by omega
      obtain ⟨b, off, B, c2, rfl, n1, e0, e1, e2, e3, e4, _, _, _⟩ := HL.out.at_ hk hf
      have k2 := cell_regrown e1
      by_cases c2' : (vs.length : Int) = (xs.length : Int)
      · have d1 : ((vs.length : Int) == (xs.length : Int)) = true := by simpa using c2'
        have d2 : ((vs.length : Int) != (xs.length : Int)) = false := by simpa using c2'
        have EH := Lib.hid (show accB s l (k : Int) vs = allB 0 9 vs by simp only [accB, C0.out, C1.out, Int.toNat_natCast, hf, decide_eq_true c2', Bool.true_and])
        clear hf hr c2' e0 e1 e2 e3 e4
        have Y3 := Lib.hid fun (W : World) (hW : Below W0.heap.size W0 W) => (show Calls Try.prog 72 #[.slice V vs.length cv] W fun e w' => e = .returned (.bool (allB 0 9 vs)) ∧ Below W.heap.size W w' from (areValues_any 0 W.heap.size V cv vs (by omega) W (HV.out.step hW)).mono (by rintro e w' ⟨he, rfl⟩; exact ⟨he, Below.refl _ _⟩))
        generalize allB 0 9 vs = res at Y3 EH
        go_enter Try.func28, Try.ntmps28
        go_wp2
        rw [← EW.out]
        refine wp_region_quiet_below (by kernel_rfl) (by kernel_rfl) ?_
        repeat (go_big_quiet_step (first | (go_at_call 23; with_reducible exact Calls.regrown_of (Y1.out _ (below_regrown _ _ _))) | (go_at_call 71; with_reducible exact Calls.regrown_of (Y2.out _)) | (go_at_call 72; with_reducible exact Calls.regrown_of (Y3.out _ (below_regrown _ _ _)))))
        refine wpQuiet_nil ?_
        intro u hw'
        have hb0 : Below W0.heap.size W0 u := by obtain ⟨⟨dq, osq⟩, rfl⟩ := hw'; exact below_regrown _ _ _
        have hb2 := step HB0.out hb0
        clear k2
        clear hw' k0 k1
        go_wp2
        go_ret
        exact ⟨ret_bool EH.out.symm, hb2⟩
      · have d1 : ((vs.length : Int) == (xs.length : Int)) = false := by simpa using c2'
        have d2 : ((vs.length : Int) != (xs.length : Int)) = true := by simpa using c2'
        have EH := Lib.hid (show accB s l (k : Int) vs = false by simp only [accB, C0.out, C1.out, Int.toNat_natCast, hf, decide_eq_false c2', Bool.true_and, Bool.false_and])
        clear hf hr c2' e0 e1 e2 e3 e4
        go_enter Try.func28, Try.ntmps28
        go_wp2
        rw [← EW.out]
        refine wp_region_quiet_below (by kernel_rfl) (by kernel_rfl) ?_
        repeat (go_big_quiet_step (first | (go_at_call 23; with_reducible exact Calls.regrown_of (Y1.out _ (below_regrown _ _ _))) | (go_at_call 71; with_reducible exact Calls.regrown_of (Y2.out _))))
        refine wpQuiet_nil ?_
        intro u hw'
        have hb0 : Below W0.heap.size W0 u := by obtain ⟨⟨dq, osq⟩, rfl⟩ := hw'; exact below_regrown _ _ _
        have hb2 := step HB0.out hb0
        clear k2
        clear hw' k0 k1
        go_wp2
        go_ret
        exact ⟨ret_bool EH.out.symm, hb2⟩
    · have c1' : inB m 0 ((l.length : Int) - 1) = false := by simpa using c1
      have EH := Lib.hid (show accB s l m vs = false by simp [accB, c1'])
      rw [c1'] at Y2
      clear c1 c1'
      go_enter Try.func28, Try.ntmps28
      go_wp2
      rw [← EW.out]
      refine wp_region_quiet_below (by kernel_rfl) (by kernel_rfl) ?_
      repeat (go_big_quiet_step (first | (go_at_call 23; with_reducible exact Calls.regrown_of (Y1.out _ (below_regrown _ _ _))) | (go_at_call 71; with_reducible exact Calls.regrown_of (Y2.out _))))
      refine wpQuiet_nil ?_
      intro u hw'
      have hb0 : Below W0.heap.size W0 u := by obtain ⟨⟨dq, osq⟩, rfl⟩ := hw'; exact below_regrown _ _ _
      have hb2 := step HB0.out hb0
      clear hw' k0 k1
      go_wp2
      go_ret
      exact ⟨ret_bool EH.out.symm, hb2⟩
  · have c0' : aremB s l = false := by simpa using c0
    have EH := Lib.hid (show accB s l m vs = false by simp [accB, c0'])
    rw [c0'] at Y1
    clear c0 c0'
    go_enter Try.func28, Try.ntmps28
    go_wp2
    rw [← EW.out]
    refine wp_region_quiet_below (by kernel_rfl) (by kernel_rfl) ?_
    repeat (go_big_quiet_step (first | (go_at_call 23; with_reducible exact Calls.regrown_of (Y1.out _ (below_regrown _ _ _)))))
    refine wpQuiet_nil ?_
    intro u hw'
    have hb0 : Below W0.heap.size W0 u := by obtain ⟨⟨dq, osq⟩, rfl⟩ := hw'; exact below_regrown _ _ _
    have hb2 := step HB0.out hb0
    clear hw' k0 k1
    go_wp2
    go_ret
    exact ⟨ret_bool EH.out.symm, hb2⟩
end Go.Proofs.Ytenondgjipmhnaa
