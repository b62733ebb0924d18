/- What the program's IsMethod answers. Conditions: none beyond each theorem's own. -/
import Derived.Test.YtighalbnpgmdfaaMthN
namespace Go.Proofs.Ytighalbnpgmdfaa
open Go.ChangeShapes Go.WideShapes Go.ChangeAt Go.RowKit Go.Sort
set_option linter.unusedVariables false
set_option linter.unusedSimpArgs false

set_option maxHeartbeats 2000000 in
set_option maxRecDepth 100000 in
theorem areInputs_any (A : Option Addr) (c : Nat) (xs : List Int) (a : Int) (ha1 : 0 ≤ a) (ha2 : a ≤ 1000) (hl : xs.length ≤ 1048576) (w : World) (h : RI w A xs) :
    Calls Try.prog 154 #[.slice A xs.length c, .int .i64 a] w fun e w' => e = .returned (.bool (inpB a xs)) ∧ Below w.heap.size w w' := by
  have hx' : (xs.length : Int) ≤ 1048576 := by omega
  have HJ := Lib.hid h
  clear h
  go_enter Try.func154, Try.ntmps154
  go_wp2
  go_loopw [5, 6, 9] (fun _ _ i wr => ∃ j : Nat, j ≤ xs.length ∧ i = .int .i64 j ∧ inpN a xs j = true ∧ Hid (Below w.heap.size w wr)) (fun _ _ i _ => xs.length - (intOf i).toNat)
  case atStart => exact ⟨0, by omega, rfl, rfl, Lib.hid (Below.refl _ _)⟩
  case round =>
    obtain ⟨j, hj, rfl, ha, hb⟩ := hrel
    have HA := Lib.hid ha
    clear ha
    by_cases hlt : j < xs.length
    · obtain ⟨b2, off2, rfl, nb2, hc2⟩ := (HJ.out.step hb.out).at_ hlt
      generalize hx : xs.getD j 0 = x at hc2
      have HX := Lib.hid hx
      clear hx
      have hj0 : (0 : Int) ≤ (j : Int) := by omega
      have hj1 : (j : Int) < (xs.length : Int) := by omega
      by_cases hin : inB x 0 (a - 1) = true
      · have HN := Lib.hid hin
        clear hin
        by_cases h0 : j = 0
        · have IA := Lib.hid (show inpAt a xs j = true by unfold inpAt; rw [HX.out, HN.out, decide_eq_true h0]; rfl)
          have d0 : decide ((0 : Int) < (j : Int)) = false := by simp; omega
          have d0' : ¬ ((0 : Int) < (j : Int)) := by omega
          have d0n : decide (0 < j) = false := by simp; omega
          have d0m : ¬ (0 < j) := by omega
          clear h0
          go_wp2_with fail
          refine (isBetween_any x 0 (a - 1) _).mono ?_
          rintro e w' ⟨he, rfl⟩
          rw [HN.out] at he
          subst he
          go_wp2
          go_roundw
          case rel => exact ⟨j + 1, by omega, by go_num, by rw [inpN_succ, HA.out, IA.out]; rfl, hb⟩
          case measure => simp [intOf]; omega
        · have hp : j - 1 < xs.length := by omega
          obtain ⟨b3, off3, hbb, _, hc3⟩ := (HJ.out.step hb.out).at_ hp
          injection hbb with hbb
          injection hbb with hb1 hb2
          subst hb1 hb2
          generalize hx' : xs.getD (j - 1) 0 = x' at hc3
          have HX' := Lib.hid hx'
          clear hx'
          have J0 := Lib.hid h0
          have d0 : decide ((0 : Int) < (j : Int)) = true := by simp; omega
          have d0' : (0 : Int) < (j : Int) := by omega
          have d0n : decide (0 < j) = true := by simp; omega
          have q0 : IntKind.i64.wrap ((j : Int) - 1) = (j : Int) - 1 := IntWalk.i64_in _ ⟨by omega, by omega⟩
          have q1 : (0 : Int) ≤ (j : Int) - 1 := by omega
          have q1' : (1 : Int) ≤ (j : Int) := by omega
          have q2 : ((j : Int) - 1).toNat = j - 1 := by omega
          have q3 : (j : Int) - 1 < (xs.length : Int) := by omega
          have q5 : j ≤ xs.length := by omega
          clear h0
          by_cases hlt2 : x' < x
          · have d4 : decide (x ≤ x') = false := by simp; omega
            have d4' : ¬ (x ≤ x') := by omega
            have IA := Lib.hid (show inpAt a xs j = true by unfold inpAt; rw [HX.out, HX'.out, HN.out, decide_eq_true hlt2]; simp)
            clear hlt2
            go_wp2_with fail
            refine (isBetween_any x 0 (a - 1) _).mono ?_
            rintro e w' ⟨he, rfl⟩
            rw [HN.out] at he
            subst he
            go_wp2
            go_roundw
            case rel => exact ⟨j + 1, by omega, by go_num, by rw [inpN_succ, HA.out, IA.out]; rfl, hb⟩
            case measure => simp [intOf]; omega
          · have d4 : decide (x ≤ x') = true := by simp; omega
            have d4' : x ≤ x' := by omega
            have IA := Lib.hid (show inpAt a xs j = false by unfold inpAt; rw [HX.out, HX'.out, HN.out, decide_eq_false hlt2, decide_eq_false J0.out]; rfl)
            clear hlt2
            go_wp2_with fail
            refine (isBetween_any x 0 (a - 1) _).mono ?_
            rintro e w' ⟨he, rfl⟩
            rw [HN.out] at he
            subst he
            go_wp2
            go_ret
            exact ⟨ret_bool (inpN_not a xs j _ hlt IA.out).symm, hb.out⟩
      · have HN := Lib.hid (show inB x 0 (a - 1) = false by simpa using hin)
        clear hin
        have IA := Lib.hid (show inpAt a xs j = false by unfold inpAt; rw [HX.out, HN.out]; rfl)
        go_wp2_with fail
        refine (isBetween_any x 0 (a - 1) _).mono ?_
        rintro e w' ⟨he, rfl⟩
        rw [HN.out] at he
        subst he
        go_wp2
        go_ret
        exact ⟨ret_bool (inpN_not a xs j _ hlt IA.out).symm, hb.out⟩
    · obtain rfl : j = xs.length := by omega
      go_wp2
      go_ret
      exact ⟨ret_bool HA.out.symm, hb.out⟩

set_option maxHeartbeats 2000000 in
set_option maxRecDepth 100000 in
theorem impl_IsMethod (S : Option Addr) (cs : Nat) (s : List Int) (r : Int) (xs : List Int) (li co qu : Int) (A : Option Addr) (c : Nat) (hls : s.length ≤ 1048576) (hl : xs.length ≤ 1048576) (w : World) (h : RI w S s) (h' : RI w A xs) :
    Calls Try.prog 129 #[.slice S s.length cs, .agg #[.int .i64 r, .slice A xs.length c, .int .i64 li, .int .i64 co, .int .i64 qu]] w fun e w' => e = .returned (.bool (methB s r xs li co qu)) ∧ Below w.heap.size w w' := by
  have hs' : (s.length : Int) ≤ 1048576 := by omega
  have hx' : (xs.length : Int) ≤ 1048576 := by omega
  have bb := below_alloc w (.cells #[.int .i64 r, .slice A xs.length c, .int .i64 li, .int .i64 co, .int .i64 qu] 71)
  obtain ⟨W0, hW0⟩ : ∃ W0, W0 = w.alloc (.cells #[.int .i64 r, .slice A xs.length c, .int .i64 li, .int .i64 co, .int .i64 qu] 71) := ⟨_, rfl⟩
  have HB0 := Lib.hid bb
  have X0 := Box.new w #[.int .i64 r, .slice A xs.length c, .int .i64 li, .int .i64 co, .int .i64 qu] 71
  have HI := Lib.hid (h.step bb)
  have HJ := Lib.hid (h'.step bb)
  rw [← hW0] at X0 HI HJ HB0
  have EW := Lib.hid hW0
  have e0 := X0.cell 0
  have e1 := X0.cell 1
  have e2 := X0.cell 2
  have e3 := X0.cell 3
  have e4 := X0.cell 4
  simp only [List.getElem?_toArray, List.getElem?_cons_zero, List.getElem?_cons_succ] at e0 e1 e2 e3 e4
  have k0 := cell_regrown e0
  have k1 := cell_regrown e1
  have k2 := cell_regrown e2
  have k3 := cell_regrown e3
  have k4 := cell_regrown e4
  have Y1 := Lib.hid fun (W : World) (hW : Below W0.heap.size W0 W) => (show Calls Try.prog 130 #[.slice S s.length cs] W fun e w' => e = .returned (.bool (schB s)) ∧ Below W.heap.size W w' from (impl_IsSchema _ _ S cs s (by omega) W (HI.out.step hW)).mono (by rintro e w' ⟨he, rfl⟩; exact ⟨he, Below.refl _ _⟩))
  have Y2 := Lib.hid fun (W : World) => (show Calls Try.prog 111 #[.int .i64 r, .int .i64 0, .int .i64 ((s.length : Int) - 1)] W fun e w' => e = .returned (.bool (inB r 0 ((s.length : Int) - 1))) ∧ Below W.heap.size W w' from (isBetween_any r 0 ((s.length : Int) - 1) W).mono (by rintro e w' ⟨he, rfl⟩; exact ⟨he, Below.refl _ _⟩))
  have Y4 := Lib.hid fun (W : World) => hasMethodNumbers_any r xs A xs.length c li co qu W
  clear h h' bb hW0 X0 e0 e1 e2 e3 e4
  by_cases c0 : schB s = true
  · have C0 := Lib.hid c0
    rw [c0] at Y1
    clear c0
    by_cases c1 : inB r 0 ((s.length : Int) - 1) = true
    · have C1 := Lib.hid c1
      rw [c1] at Y2
      have hr : 0 ≤ r ∧ r ≤ (s.length : Int) - 1 := by simpa [inB] using c1
      clear c1
      obtain ⟨k, rfl⟩ := Int.eq_ofNat_of_zero_le hr.1
      have hk : k < s.length := by omega
      have hk0 : (0 : Int) ≤ (k : Int) := by omega
      have hk1 : (k : Int) < (s.length : Int) := by omega
      have hy := schB_at C0.out hk
      obtain ⟨b, off, rfl, nb, hcell⟩ := HI.out.at_ hk
      generalize ha : s.getD k 0 = a at hy hcell
      have k5 := cell_regrown hcell
      have EH := Lib.hid (show methB s (k : Int) xs li co qu = (inpB a xs && numB li co qu) by simp only [methB, C0.out, C1.out, Int.toNat_natCast, ha, Bool.true_and, Bool.and_comm])
      have Y3 := Lib.hid fun (W : World) (hW : Below W0.heap.size W0 W) => areInputs_any A c xs a (by omega) (by omega) hl W (HJ.out.step hW)
      clear ha hr hy hcell
      by_cases c3 : inpB a xs = true
      · have E3 := Lib.hid (show methB s (k : Int) xs li co qu = numB li co qu by rw [EH.out, c3]; rfl)
        rw [c3] at Y3
        clear c3
        generalize numB li co qu = res at E3 Y4
        go_enter Try.func129, Try.ntmps129
        go_wp2
        rw [← EW.out]
        refine wp_region_quiet_below (by kernel_rfl) (by kernel_rfl) ?_
        repeat (go_big_quiet_step (first | (go_at_call 130; with_reducible exact Calls.regrown_of (Y1.out _ (below_regrown _ _ _))) | (go_at_call 111; with_reducible exact Calls.regrown_of (Y2.out _)) | (go_at_call 154; with_reducible exact Calls.regrown_of (Y3.out _ (below_regrown _ _ _))) | (go_at_call 155; with_reducible exact Calls.regrown_of (Y4.out _))))
        refine wpQuiet_nil ?_
        intro u hw'
        have hb2 := step HB0.out (show Below _ _ u by obtain ⟨⟨dq, osq⟩, rfl⟩ := hw'; exact below_regrown _ _ _)
        clear hw' k0 k1 k2 k3 k4 k5
        go_wp2
        go_ret
        exact ⟨ret_bool E3.out.symm, hb2⟩
      · have E3 := Lib.hid (show methB s (k : Int) xs li co qu = false by rw [EH.out, show inpB a xs = false by simpa using c3]; rfl)
        rw [show inpB a xs = false by simpa using c3] at Y3
        clear c3
        go_enter Try.func129, Try.ntmps129
        go_wp2
        rw [← EW.out]
        refine wp_region_quiet_below (by kernel_rfl) (by kernel_rfl) ?_
        repeat (go_big_quiet_step (first | (go_at_call 130; with_reducible exact Calls.regrown_of (Y1.out _ (below_regrown _ _ _))) | (go_at_call 111; with_reducible exact Calls.regrown_of (Y2.out _)) | (go_at_call 154; with_reducible exact Calls.regrown_of (Y3.out _ (below_regrown _ _ _)))))
        refine wpQuiet_nil ?_
        intro u hw'
        have hb2 := step HB0.out (show Below _ _ u by obtain ⟨⟨dq, osq⟩, rfl⟩ := hw'; exact below_regrown _ _ _)
        clear hw' k0 k1 k2 k3 k4 k5
        go_wp2
        go_ret
        exact ⟨ret_bool E3.out.symm, hb2⟩
    · have E3 := Lib.hid (show methB s r xs li co qu = false by simp [methB, show inB r 0 ((s.length : Int) - 1) = false by simpa using c1])
      rw [show inB r 0 ((s.length : Int) - 1) = false by simpa using c1] at Y2
      clear c1
      go_enter Try.func129, Try.ntmps129
      go_wp2
      rw [← EW.out]
      refine wp_region_quiet_below (by kernel_rfl) (by kernel_rfl) ?_
      repeat (go_big_quiet_step (first | (go_at_call 130; with_reducible exact Calls.regrown_of (Y1.out _ (below_regrown _ _ _))) | (go_at_call 111; with_reducible exact Calls.regrown_of (Y2.out _))))
      refine wpQuiet_nil ?_
      intro u hw'
      have hb2 := step HB0.out (show Below _ _ u by obtain ⟨⟨dq, osq⟩, rfl⟩ := hw'; exact below_regrown _ _ _)
      clear hw' k0 k1 k2 k3 k4
      go_wp2
      go_ret
      exact ⟨ret_bool E3.out.symm, hb2⟩
  · have E3 := Lib.hid (show methB s r xs li co qu = false by simp [methB, show schB s = false by simpa using c0])
    rw [show schB s = false by simpa using c0] at Y1
    clear c0
    go_enter Try.func129, Try.ntmps129
    go_wp2
    rw [← EW.out]
    refine wp_region_quiet_below (by kernel_rfl) (by kernel_rfl) ?_
    repeat (go_big_quiet_step (first | (go_at_call 130; with_reducible exact Calls.regrown_of (Y1.out _ (below_regrown _ _ _)))))
    refine wpQuiet_nil ?_
    intro u hw'
    have hb2 := step HB0.out (show Below _ _ u by obtain ⟨⟨dq, osq⟩, rfl⟩ := hw'; exact below_regrown _ _ _)
    clear hw' k0 k1 k2 k3 k4
    go_wp2
    go_ret
    exact ⟨ret_bool E3.out.symm, hb2⟩

set_option maxRecDepth 100000 in
set_option maxHeartbeats 1000000 in
theorem hasMethod_any (A : Option Addr) (c n : Nat) (x : Int) (hl : n ≤ 1048576) (w : World) :
    Calls Try.prog 135 #[.slice A n c, .int .i64 x] w fun e w' => e = .returned (.bool (inB x 0 ((n : Int) - 1))) ∧ w = w' := by
  have hl' : (n : Int) ≤ 1048576 := by omega
  go_enter Try.func135, Try.ntmps135
  go_wp2_with fail
  refine (isBetween_any x 0 ((n : Int) - 1) _).mono ?_
  rintro e w' ⟨rfl, rfl⟩
  go_wp2
  go_ret
  exact ⟨rfl, rfl⟩

end Go.Proofs.Ytighalbnpgmdfaa
