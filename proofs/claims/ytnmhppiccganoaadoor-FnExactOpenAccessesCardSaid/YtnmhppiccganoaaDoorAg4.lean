/- What the program's IsMethod answers. Conditions: none beyond each theorem's own. What the two functions AreMethods answer. Conditions: none beyond each theorem's own. What the two functions that compare lists of numbers answer. Conditions: none beyond each theorem's own. What the two functions SameAccesses answer. Conditions: none beyond each theorem's own. Where one more item stands: plain lists, and what owns them. Conditions: none beyond each theorem's own. -/
import Derived.Test.YtnmhppiccganoaaDoorAg3
import Derived.Test.YtnmhppiccganoaaDoorEqList
import Derived.Test.YtnmhppiccganoaaDoorAcc
import Derived.Lib.QuietBelow
import Derived.Test.YtnmhppiccganoaaDoorAddM

namespace Go.Proofs.YtnmhppiccganoaaDoor
open Go.ChangeShapes Go.WideShapes Go.ChangeAt Go.RowKit Go.Sort
set_option linter.unusedVariables false
set_option linter.unusedSimpArgs false

set_option maxHeartbeats 2000000 in
set_option maxRecDepth 100000 in
theorem areInputs_any (A : Option Addr) (c : Nat) (xs : List Int) (a : Int) (ha1 : 0 ≤ a) (ha2 : a ≤ 1000) (hl : xs.length ≤ 1048576) (w : World) (h : RI w A xs) :
    Calls Tryd.prog 31 #[.slice A xs.length c, .int .i64 a] w fun e w' => e = .returned (.bool (inpB a xs)) ∧ Below w.heap.size w w' := by
  have hx' : (xs.length : Int) ≤ 1048576 := by omega
  have HJ := Lib.hid h
  clear h
  go_enter Tryd.func31, Tryd.ntmps31
  go_wp2
  go_loopw [5, 6, 9] (fun _ _ i wr => ∃ j : Nat, j ≤ xs.length ∧ i = .int .i64 j ∧ inpN a xs j = true ∧ Hid (Below w.heap.size w wr)) (fun _ _ i _ => xs.length - (intOf i).toNat)
  case atStart => exact ⟨0, by omega, rfl, rfl, Lib.hid (Below.refl _ _)⟩
  case round =>
    obtain ⟨j, hj, rfl, ha, hb⟩ := hrel
    have HA := Lib.hid ha
    clear ha
    by_cases hlt : j < xs.length
    · obtain ⟨b2, off2, rfl, nb2, hc2⟩ := (HJ.out.step hb.out).at_ hlt
      generalize hx : xs.getD j 0 = x at hc2
      have HX := Lib.hid hx
      clear hx
      have hj0 : (0 : Int) ≤ (j : Int) := by omega
      have hj1 : (j : Int) < (xs.length : Int) := by omega
      by_cases hin : inB x 0 (a - 1) = true
      · have HN := Lib.hid hin
        clear hin
        by_cases h0 : j = 0
        · have IA := Lib.hid (show inpAt a xs j = true by unfold inpAt; rw [HX.out, HN.out, decide_eq_true h0]; rfl)
          have d0 : decide ((0 : Int) < (j : Int)) = false := by simp; omega
          have d0' : ¬ ((0 : Int) < (j : Int)) := by omega
          have d0n : decide (0 < j) = false := by simp; omega
          have d0m : ¬ (0 < j) := by omega
          clear h0
          go_wp2_with fail
          refine (isBetween_any x 0 (a - 1) _).mono ?_
          rintro e w' ⟨he, rfl⟩
          rw [HN.out] at he
          subst he
          go_wp2
          go_roundw
          case rel => exact ⟨j + 1, by omega, by go_num, by rw [inpN_succ, HA.out, IA.out]; rfl, hb⟩
          case measure => simp [intOf]; omega
        · have hp : j - 1 < xs.length := by omega
          obtain ⟨b3, off3, hbb, _, hc3⟩ := (HJ.out.step hb.out).at_ hp
          injection hbb with hbb
          injection hbb with hb1 hb2
          subst hb1 hb2
          generalize hx' : xs.getD (j - 1) 0 = x' at hc3
          have HX' := Lib.hid hx'
          clear hx'
          have J0 := Lib.hid h0
          have d0 : decide ((0 : Int) < (j : Int)) = true := by simp; omega
          have d0' : (0 : Int) < (j : Int) := by omega
          have d0n : decide (0 < j) = true := by simp; omega
          have q0 : IntKind.i64.wrap ((j : Int) - 1) = (j : Int) - 1 := IntWalk.i64_in _ ⟨by omega, by omega⟩
          have q1 : (0 : Int) ≤ (j : Int) - 1 := by omega
          have q1' : (1 : Int) ≤ (j : Int) := by omega
          have q2 : ((j : Int) - 1).toNat = j - 1 := by omega
          have q3 : (j : Int) - 1 < (xs.length : Int) := by omega
          have q5 : j ≤ xs.length := by omega
          clear h0
          by_cases hlt2 : x' < x
          · have d4 : decide (x ≤ x') = false := by simp; omega
            have d4' : ¬ (x ≤ x') := by omega
            have IA := Lib.hid (show inpAt a xs j = true by unfold inpAt; rw [HX.out, HX'.out, HN.out, decide_eq_true hlt2]; simp)
            clear hlt2
            go_wp2_with fail
            refine (isBetween_any x 0 (a - 1) _).mono ?_
            rintro e w' ⟨he, rfl⟩
            rw [HN.out] at he
            subst he
            go_wp2
            go_roundw
            case rel => exact ⟨j + 1, by omega, by go_num, by rw [inpN_succ, HA.out, IA.out]; rfl, hb⟩
            case measure => simp [intOf]; omega
          · have d4 : decide (x ≤ x') = true := by simp; omega
            have d4' : x ≤ x' := by omega
            have IA := Lib.hid (show inpAt a xs j = false by unfold inpAt; rw [HX.out, HX'.out, HN.out, decide_eq_false hlt2, decide_eq_false J0.out]; rfl)
            clear hlt2
            go_wp2_with fail
            refine (isBetween_any x 0 (a - 1) _).mono ?_
            rintro e w' ⟨he, rfl⟩
            rw [HN.out] at he
            subst he
            go_wp2
            go_ret
            exact ⟨ret_bool (inpN_not a xs j _ hlt IA.out).symm, hb.out⟩
      · have HN := Lib.hid (show inB x 0 (a - 1) = false by simpa using hin)
        clear hin
        have IA := Lib.hid (show inpAt a xs j = false by unfold inpAt; rw [HX.out, HN.out]; rfl)
        go_wp2_with fail
        refine (isBetween_any x 0 (a - 1) _).mono ?_
        rintro e w' ⟨he, rfl⟩
        rw [HN.out] at he
        subst he
        go_wp2
        go_ret
        exact ⟨ret_bool (inpN_not a xs j _ hlt IA.out).symm, hb.out⟩
    · obtain rfl : j = xs.length := by omega
      go_wp2
      go_ret
      exact ⟨ret_bool HA.out.symm, hb.out⟩

set_option maxHeartbeats 2000000 in
set_option maxRecDepth 100000 in
theorem impl_IsMethod (S : Option Addr) (cs : Nat) (s : List Int) (r : Int) (xs : List Int) (li co qu : Int) (A : Option Addr) (c : Nat) (hls : s.length ≤ 1048576) (hl : xs.length ≤ 1048576) (w : World) (h : RI w S s) (h' : RI w A xs) :
    Calls Tryd.prog 51 #[.slice S s.length cs, .agg #[.int .i64 r, .slice A xs.length c, .int .i64 li, .int .i64 co, .int .i64 qu]] w fun e w' => e = .returned (.bool (methB s r xs li co qu)) ∧ Below w.heap.size w w' := by
  have hs' : (s.length : Int) ≤ 1048576 := by omega
  have hx' : (xs.length : Int) ≤ 1048576 := by omega
  have bb := below_alloc w (.cells #[.int .i64 r, .slice A xs.length c, .int .i64 li, .int .i64 co, .int .i64 qu] 56)
  obtain ⟨W0, hW0⟩ : ∃ W0, W0 = w.alloc (.cells #[.int .i64 r, .slice A xs.length c, .int .i64 li, .int .i64 co, .int .i64 qu] 56) := ⟨_, rfl⟩
  have HB0 := Lib.hid bb
  have X0 := Box.new w #[.int .i64 r, .slice A xs.length c, .int .i64 li, .int .i64 co, .int .i64 qu] 56
  have HI := Lib.hid (h.step bb)
  have HJ := Lib.hid (h'.step bb)
  rw [← hW0] at X0 HI HJ HB0
  have EW := Lib.hid hW0
  have e0 := X0.cell 0
  have e1 := X0.cell 1
  have e2 := X0.cell 2
  have e3 := X0.cell 3
  have e4 := X0.cell 4
  simp only [List.getElem?_toArray, List.getElem?_cons_zero, List.getElem?_cons_succ] at e0 e1 e2 e3 e4
  have k0 := cell_regrown e0
  have k1 := cell_regrown e1
  have k2 := cell_regrown e2
  have k3 := cell_regrown e3
  have k4 := cell_regrown e4
  have Y1 := Lib.hid fun (W : World) (hW : Below W0.heap.size W0 W) => (show Calls Tryd.prog 52 #[.slice S s.length cs] W fun e w' => e = .returned (.bool (schB s)) ∧ Below W.heap.size W w' from (impl_IsSchema _ _ S cs s (by omega) W (HI.out.step hW)).mono (by rintro e w' ⟨he, rfl⟩; exact ⟨he, Below.refl _ _⟩))
  have Y2 := Lib.hid fun (W : World) => (show Calls Tryd.prog 54 #[.int .i64 r, .int .i64 0, .int .i64 ((s.length : Int) - 1)] W fun e w' => e = .returned (.bool (inB r 0 ((s.length : Int) - 1))) ∧ Below W.heap.size W w' from (isBetween_any r 0 ((s.length : Int) - 1) W).mono (by rintro e w' ⟨he, rfl⟩; exact ⟨he, Below.refl _ _⟩))
  have Y4 := Lib.hid fun (W : World) => hasMethodNumbers_any r xs A xs.length c li co qu W
  clear h h' bb hW0 X0 e0 e1 e2 e3 e4
  by_cases c0 : schB s = true
  · have C0 := Lib.hid c0
    rw [c0] at Y1
    clear c0
    by_cases c1 : inB r 0 ((s.length : Int) - 1) = true
    · have C1 := Lib.hid c1
      rw [c1] at Y2
      have hr : 0 ≤ r ∧ r ≤ (s.length : Int) - 1 := by simpa [inB] using c1
      clear c1
      obtain ⟨k, rfl⟩ := Int.eq_ofNat_of_zero_le hr.1
      have hk : k < s.length := by omega
      have hk0 : (0 : Int) ≤ (k : Int) := by omega
      have hk1 : (k : Int) < (s.length : Int) := by omega
      have hy := schB_at C0.out hk
      obtain ⟨b, off, rfl, nb, hcell⟩ := HI.out.at_ hk
      generalize ha : s.getD k 0 = a at hy hcell
      have k5 := cell_regrown hcell
      have EH := Lib.hid (show methB s (k : Int) xs li co qu = (inpB a xs && numB li co qu) by simp only [methB, C0.out, C1.out, Int.toNat_natCast, ha, Bool.true_and, Bool.and_comm])
      have Y3 := Lib.hid fun (W : World) (hW : Below W0.heap.size W0 W) => areInputs_any A c xs a (by omega) (by omega) hl W (HJ.out.step hW)
      clear ha hr hy hcell
      by_cases c3 : inpB a xs = true
      · have E3 := Lib.hid (show methB s (k : Int) xs li co qu = numB li co qu by rw [EH.out, c3]; rfl)
        rw [c3] at Y3
        clear c3
        generalize numB li co qu = res at E3 Y4
        go_enter Tryd.func51, Tryd.ntmps51
        go_wp2
        rw [← EW.out]
        refine wp_region_quiet_below (by kernel_rfl) (by kernel_rfl) ?_
        repeat (go_big_quiet_step (first | (go_at_call 52; with_reducible exact Calls.regrown_of (Y1.out _ (below_regrown _ _ _))) | (go_at_call 54; with_reducible exact Calls.regrown_of (Y2.out _)) | (go_at_call 31; with_reducible exact Calls.regrown_of (Y3.out _ (below_regrown _ _ _))) | (go_at_call 61; with_reducible exact Calls.regrown_of (Y4.out _))))
        refine wpQuiet_nil ?_
        intro u hw'
        have hb2 := step HB0.out (show Below _ _ u by obtain ⟨⟨dq, osq⟩, rfl⟩ := hw'; exact below_regrown _ _ _)
        clear hw' k0 k1 k2 k3 k4 k5
        go_wp2
        go_ret
        exact ⟨ret_bool E3.out.symm, hb2⟩
      · have E3 := Lib.hid (show methB s (k : Int) xs li co qu = false by rw [EH.out, show inpB a xs = false by simpa using c3]; rfl)
        rw [show inpB a xs = false by simpa using c3] at Y3
        clear c3
        go_enter Tryd.func51, Tryd.ntmps51
        go_wp2
        rw [← EW.out]
        refine wp_region_quiet_below (by kernel_rfl) (by kernel_rfl) ?_
        repeat (go_big_quiet_step (first | (go_at_call 52; with_reducible exact Calls.regrown_of (Y1.out _ (below_regrown _ _ _))) | (go_at_call 54; with_reducible exact Calls.regrown_of (Y2.out _)) | (go_at_call 31; with_reducible exact Calls.regrown_of (Y3.out _ (below_regrown _ _ _)))))
        refine wpQuiet_nil ?_
        intro u hw'
        have hb2 := step HB0.out (show Below _ _ u by obtain ⟨⟨dq, osq⟩, rfl⟩ := hw'; exact below_regrown _ _ _)
        clear hw' k0 k1 k2 k3 k4 k5
        go_wp2
        go_ret
        exact ⟨ret_bool E3.out.symm, hb2⟩
    · have E3 := Lib.hid (show methB s r xs li co qu = false by simp [methB, show inB r 0 ((s.length : Int) - 1) = false by simpa using c1])
      rw [show inB r 0 ((s.length : Int) - 1) = false by simpa using c1] at Y2
      clear c1
      go_enter Tryd.func51, Tryd.ntmps51
      go_wp2
      rw [← EW.out]
      refine wp_region_quiet_below (by kernel_rfl) (by kernel_rfl) ?_
      repeat (go_big_quiet_step (first | (go_at_call 52; with_reducible exact Calls.regrown_of (Y1.out _ (below_regrown _ _ _))) | (go_at_call 54; with_reducible exact Calls.regrown_of (Y2.out _))))
      refine wpQuiet_nil ?_
      intro u hw'
      have hb2 := step HB0.out (show Below _ _ u by obtain ⟨⟨dq, osq⟩, rfl⟩ := hw'; exact below_regrown _ _ _)
      clear hw' k0 k1 k2 k3 k4
      go_wp2
      go_ret
      exact ⟨ret_bool E3.out.symm, hb2⟩
  · have E3 := Lib.hid (show methB s r xs li co qu = false by simp [methB, show schB s = false by simpa using c0])
    rw [show schB s = false by simpa using c0] at Y1
    clear c0
    go_enter Tryd.func51, Tryd.ntmps51
    go_wp2
    rw [← EW.out]
    refine wp_region_quiet_below (by kernel_rfl) (by kernel_rfl) ?_
    repeat (go_big_quiet_step (first | (go_at_call 52; with_reducible exact Calls.regrown_of (Y1.out _ (below_regrown _ _ _)))))
    refine wpQuiet_nil ?_
    intro u hw'
    have hb2 := step HB0.out (show Below _ _ u by obtain ⟨⟨dq, osq⟩, rfl⟩ := hw'; exact below_regrown _ _ _)
    clear hw' k0 k1 k2 k3 k4
    go_wp2
    go_ret
    exact ⟨ret_bool E3.out.symm, hb2⟩

end Go.Proofs.YtnmhppiccganoaaDoor

namespace Go.Proofs.YtnmhppiccganoaaDoor
open Go.ChangeShapes Go.WideShapes Go.ChangeAt Go.RowKit Go.Sort
set_option linter.unusedVariables false
set_option linter.unusedSimpArgs false

def metB (s : List Int) (m : Met) : Bool := methB s m.1 m.2.1 m.2.2.1 m.2.2.2.1 m.2.2.2.2
/-- Are the first n of the list methods of the schema? -/
def allM (s : List Int) (l : ML) (n : Nat) : Bool := (List.range n).all fun k => metB s (l.getD k noM)
theorem allM_succ (s : List Int) (l : ML) (k : Nat) : allM s l (k + 1) = (allM s l k && metB s (l.getD k noM)) := by
  unfold allM
  rw [List.range_succ, List.all_append]
  simp
theorem allM_not (s : List Int) (l : ML) (k n : Nat) (hk : k < n) (h : metB s (l.getD k noM) = false) : allM s l n = false := by
  unfold allM
  rw [List.all_eq_false]
  exact ⟨k, by simpa using hk, by rw [h]; simp⟩
def aremB (s : List Int) (l : ML) : Bool := allM s l l.length && schB s && decide (l.length ≤ 5)

set_option maxHeartbeats 1000000 in
set_option maxRecDepth 100000 in
theorem spec_AreMethods (S : Option Addr) (cs : Nat) (s : List Int) (A : Option Addr) (c : Nat) (l : ML) (hls : s.length ≤ 1048576) (hz : szM l ≤ 1048576) (w : World) (h : RI w S s) (h' : RM w A l) :
    Calls Tryd.prog 24 #[.slice S s.length cs, .slice A l.length c] w fun e w' => e = .returned (.bool (aremB s l)) ∧ Below w.heap.size w w' := by
  have hl := szM_len hz
  have hl' : (l.length : Int) ≤ 1048576 := by omega
  have hs' : (s.length : Int) ≤ 1048576 := by omega
  have HI := Lib.hid h
  have HJ := Lib.hid h'
  clear h h'
  go_enter Tryd.func24, Tryd.ntmps24
  go_wp2
  go_loopw [5] (fun i wr => ∃ k : Nat, k ≤ l.length ∧ i = .int .i64 k ∧ allM s l k = true ∧ Hid (Below w.heap.size w wr)) (fun i _ => l.length - (intOf i).toNat)
  case atStart => exact ⟨0, by omega, rfl, rfl, Lib.hid (Below.refl _ _)⟩
  case round =>
    obtain ⟨k, hk, rfl, ha, hb⟩ := hrel
    have HA := Lib.hid ha
    clear ha
    by_cases hlt : k < l.length
    · generalize hf : l.getD k noM = f
      obtain ⟨r, xs, li, co, qu⟩ := f
      have HF := Lib.hid (show metB s (l.getD k noM) = methB s r xs li co qu by rw [hf]; rfl)
      have hxl : xs.length ≤ 1048576 := by have := szM_elem hz hlt; rw [hf] at this; exact this
      obtain ⟨b, off, B, c2, rfl, n1, e0, e1, e2, e3, e4, _, _, hI⟩ := (HJ.out.step hb.out).at_ hlt hf
      have XC := Lib.hid (spec_IsMethod S cs s r xs li co qu B c2 hls hxl wr (HI.out.step hb.out) hI)
      generalize methB s r xs li co qu = res at XC HF
      clear hf hI
      have hk0 : (0 : Int) ≤ (k : Int) := by omega
      have hk1 : (k : Int) < (l.length : Int) := by omega
      go_wp2_with fail
      refine XC.out.mono ?_
      rintro e u ⟨rfl, d⟩
      have hb2 := step hb.out d
      clear d
      cases res
      · go_wp2
        go_ret
        exact ⟨ret_bool (by unfold aremB; rw [allM_not s l k _ hlt HF.out]; rfl), hb2⟩
      · go_wp2
        go_roundw
        case rel => exact ⟨k + 1, by omega, by go_num, by rw [allM_succ, HA.out, HF.out]; rfl, Lib.hid hb2⟩
        case measure => simp [intOf]; omega
    · obtain rfl : k = l.length := by omega
      have XC := Lib.hid (spec_IsSchema _ _ S cs s (by omega) wr (HI.out.step hb.out))
      have EH := Lib.hid (show aremB s l = (schB s && decide (l.length ≤ 5)) by unfold aremB; rw [HA.out]; rfl)
      generalize schB s = res at XC EH
      go_wp2_with fail
      refine XC.out.mono ?_
      rintro e u ⟨rfl, rfl⟩
      cases res
      · go_wp2
        go_ret
        exact ⟨ret_bool (by rw [EH.out]; rfl), hb.out⟩
      · go_wp2
        go_ret
        exact ⟨ret_bool (by rw [EH.out, Bool.eq_iff_iff]; simp; omega), hb.out⟩

set_option maxHeartbeats 1000000 in
set_option maxRecDepth 100000 in
theorem areMethods1_any (g : Nat) (S : Option Addr) (cs : Nat) (s : List Int) (r : Int) (xs : List Int) (li co qu : Int) (A : Option Addr) (c : Nat) (hls : s.length ≤ 1048576) (hl : xs.length ≤ 1048576) (w : World) (h : RI w S s) (h' : RI w A xs) (hb : Box w g #[.slice S s.length cs] 22) :
    Calls Tryd.prog 50 #[.agg #[.int .i64 r, .slice A xs.length c, .int .i64 li, .int .i64 co, .int .i64 qu], .pointer (some ⟨g, 0, none⟩)] w fun e w' => e = .returned (.bool (methB s r xs li co qu)) ∧ Below w.heap.size w w' := by
  have B0 := Lib.hid (below_alloc w (.cells #[.int .i64 r, .slice A xs.length c, .int .i64 li, .int .i64 co, .int .i64 qu] 56))
  have XC := Lib.hid (impl_IsMethod S cs s r xs li co qu A c hls hl _ (h.step B0.out) (h'.step B0.out))
  have X1 := (hb.step B0.out).cell 0
  have gn := hb.lt
  simp only [List.getElem?_toArray, List.getElem?_cons_zero, List.getElem?_cons_succ] at X1
  clear h h' hb
  go_enter Tryd.func50, Tryd.ntmps50
  go_wp2_with fail
  refine XC.out.mono ?_
  rintro e u ⟨rfl, d⟩
  have D := Lib.hid (step B0.out d)
  clear d
  go_wp2
  go_ret
  exact ⟨rfl, D.out⟩

set_option maxHeartbeats 1000000 in
set_option maxRecDepth 100000 in
theorem areAllM_any (g : Nat) (S : Option Addr) (cs : Nat) (s : List Int) (A : Option Addr) (c : Nat) (l : ML) (hls : s.length ≤ 1048576) (hz : szM l ≤ 1048576) (w : World) (h : RI w S s) (h' : RM w A l) (hg : Box w g #[.slice S s.length cs] 22) :
    Calls Tryd.prog 53 #[.slice A l.length c, .func (.func 50) #[] #[.pointer (some ⟨g, 0, none⟩)]] w fun e w' => e = .returned (.bool (allM s l l.length)) ∧ Below w.heap.size w w' := by
  have hl := szM_len hz
  have hl' : (l.length : Int) ≤ 1048576 := by omega
  have HI := Lib.hid h
  have HJ := Lib.hid h'
  have HG := Lib.hid hg
  clear h h' hg
  go_enter Tryd.func53, Tryd.ntmps53
  go_wp2
  go_loopw [6, 9] (fun _ i wr => ∃ k : Nat, k ≤ l.length ∧ i = .int .i64 k ∧ allM s l k = true ∧ Hid (Below w.heap.size w wr)) (fun _ i _ => l.length - (intOf i).toNat)
  case atStart => exact ⟨0, by omega, rfl, rfl, Lib.hid (Below.refl _ _)⟩
  case round =>
    obtain ⟨k, hk, rfl, ha, hb⟩ := hrel
    have HA := Lib.hid ha
    clear ha
    by_cases hlt : k < l.length
    · generalize hf : l.getD k noM = f
      obtain ⟨r, xs, li, co, qu⟩ := f
      have HF := Lib.hid (show metB s (l.getD k noM) = methB s r xs li co qu by rw [hf]; rfl)
      have hxl : xs.length ≤ 1048576 := by have := szM_elem hz hlt; rw [hf] at this; exact this
      obtain ⟨b, off, B, c2, rfl, n1, e0, e1, e2, e3, e4, _, _, hI⟩ := (HJ.out.step hb.out).at_ hlt hf
      have bv := below_alloc wr (.cells #[.int .i64 r, .slice B xs.length c2, .int .i64 li, .int .i64 co, .int .i64 qu] 56)
      have XC := Lib.hid (areMethods1_any g S cs s r xs li co qu B c2 hls hxl _ ((HI.out.step hb.out).step bv) (hI.step bv) ((HG.out.step hb.out).step bv))
      generalize methB s r xs li co qu = res at XC HF
      clear hf hI bv
      have hk0 : (0 : Int) ≤ (k : Int) := by omega
      have hk1 : (k : Int) < (l.length : Int) := by omega
      go_wp2_with fail
      refine XC.out.mono ?_
      rintro e u ⟨rfl, d⟩
      have hb2 := step hb.out (below_new d)
      clear d
      cases res
      · go_wp2
        go_ret
        exact ⟨ret_bool (allM_not s l k _ hlt HF.out).symm, hb2⟩
      · go_wp2
        go_roundw
        case rel => exact ⟨k + 1, by omega, by go_num, by rw [allM_succ, HA.out, HF.out]; rfl, Lib.hid hb2⟩
        case measure => simp [intOf]; omega
    · obtain rfl : k = l.length := by omega
      go_wp2
      go_ret
      exact ⟨ret_bool HA.out.symm, hb.out⟩

set_option maxHeartbeats 1000000 in
set_option maxRecDepth 100000 in
theorem impl_AreMethods (S : Option Addr) (cs : Nat) (s : List Int) (A : Option Addr) (c : Nat) (l : ML) (hls : s.length ≤ 1048576) (hz : szM l ≤ 1048576) (w : World) (h : RI w S s) (h' : RM w A l) :
    Calls Tryd.prog 30 #[.slice S s.length cs, .slice A l.length c] w fun e w' => e = .returned (.bool (aremB s l)) ∧ Below w.heap.size w w' := by
  have hl := szM_len hz
  have hl' : (l.length : Int) ≤ 1048576 := by omega
  have B0 := Lib.hid (below_alloc w (.cells #[.slice S s.length cs] 22))
  have X0 := Lib.hid (Box.new w #[.slice S s.length cs] 22)
  have XS := Lib.hid (impl_IsSchema _ _ S cs s (by omega) _ (h.step B0.out))
  have XA := Lib.hid (areAllM_any w.heap.size S cs s A c l hls hz _ (h.step B0.out) (h'.step B0.out) X0.out)
  clear h h'
  by_cases c0 : schB s = true
  · have C0 := Lib.hid c0
    rw [c0] at XS
    clear c0
    by_cases c1 : l.length ≤ 5
    · have EH := Lib.hid (show aremB s l = allM s l l.length by simp [aremB, C0.out, c1])
      have d1 : decide (l.length ≤ 5) = true := by simpa using c1
      have d2 : (l.length : Int) ≤ 5 := by omega
      have d3 : decide ((l.length : Int) ≤ 5) = true := by simpa using d2
      generalize allM s l l.length = res at XA EH
      go_enter Tryd.func30, Tryd.ntmps30
      go_wp2_with fail
      refine XS.out.mono ?_
      rintro e u ⟨rfl, rfl⟩
      go_wp2_with fail
      refine XA.out.mono ?_
      rintro e u ⟨rfl, d⟩
      have D := Lib.hid (step B0.out d)
      clear d
      go_wp2
      go_ret
      exact ⟨ret_bool EH.out.symm, D.out⟩
    · have EH := Lib.hid (show aremB s l = false by simp [aremB, c1])
      have d1 : decide (l.length ≤ 5) = false := by simpa using c1
      have d2 : ¬ (l.length : Int) ≤ 5 := by omega
      have d3 : decide ((l.length : Int) ≤ 5) = false := by simpa using d2
      go_enter Tryd.func30, Tryd.ntmps30
      go_wp2_with fail
      refine XS.out.mono ?_
      rintro e u ⟨rfl, rfl⟩
      go_wp2
      go_ret
      exact ⟨ret_bool EH.out.symm, B0.out⟩
  · have c0' : schB s = false := by simpa using c0
    have EH := Lib.hid (show aremB s l = false by simp [aremB, c0'])
    rw [c0'] at XS
    clear c0 c0'
    go_enter Tryd.func30, Tryd.ntmps30
    go_wp2_with fail
    refine XS.out.mono ?_
    rintro e u ⟨rfl, rfl⟩
    go_wp2
    go_ret
    exact ⟨ret_bool EH.out.symm, B0.out⟩
end Go.Proofs.YtnmhppiccganoaaDoor

namespace Go.Proofs.YtnmhppiccganoaaDoor
open Go.ChangeShapes Go.WideShapes Go.ChangeAt Go.RowKit Go.Sort
set_option linter.unusedVariables false
set_option linter.unusedSimpArgs false

set_option maxRecDepth 100000 in
set_option maxHeartbeats 1000000 in
theorem l2Ints_any (lo hi lo' hi' : Nat) (A A' : Option Addr) (c c' : Nat) (xs ys : List Int) (hl : xs.length ≤ 140737488355328) (hl2 : ys.length ≤ 140737488355328) (w : World) (h : Ints w lo hi A xs) (h' : Ints w lo' hi' A' ys) :
    Calls Tryd.prog 67 #[.slice A xs.length c, .slice A' ys.length c'] w fun e w' => e = .returned (.bool (decide (xs = ys))) ∧ Below w.heap.size w w' := by
  by_cases hlen : xs.length = ys.length
  · have HI := Lib.hid h
    have HJ := Lib.hid h'
    have HL := Lib.hid hlen
    clear h h'
    have hl' : (xs.length : Int) ≤ 140737488355328 := by omega
    rw [← hlen]
    clear hlen
    go_enter Tryd.func67, Tryd.ntmps67
    go_wp2
    go_loopw [5] (fun i wr => ∃ k : Nat, k ≤ xs.length ∧ i = .int .i64 k ∧ xs.take k = ys.take k ∧ Below w.heap.size w wr ∧ wr.heap = w.heap) (fun i _ => xs.length - (intOf i).toNat)
    case atStart => exact ⟨0, by omega, rfl, rfl, Below.refl _ _, rfl⟩
    case round =>
      obtain ⟨k, hk, rfl, ha, hb, hh⟩ := hrel
      have HA := Lib.hid ha
      have HH := Lib.hid hh
      clear ha hh
      by_cases hlt : k < xs.length
      · have HI1 : Ints wr lo hi A xs := HI.out.keep fun b _ _ => by rw [HH.out]
        have HJ1 : Ints wr lo' hi' A' ys := HJ.out.keep fun b _ _ => by rw [HH.out]
        obtain ⟨b, off, rfl, _, _, hc⟩ := HI1.at_ hlt
        obtain ⟨b', off', rfl, _, _, hc'⟩ := HJ1.at_ (show k < ys.length by have := HL.out; omega)
        generalize hx : xs.getD k 0 = x at hc
        generalize hy : ys.getD k 0 = y at hc'
        have HX := Lib.hid hx
        have HY := Lib.hid hy
        clear hx hy HI1 HJ1
        have hk0 : (0 : Int) ≤ (k : Int) := by omega
        have hk1 : (k : Int) < (xs.length : Int) := by omega
        by_cases hin : x = y
        · subst hin
          go_wp2
          go_quiet (fail)
          go_wp2
          go_roundw
          case rel => exact ⟨k + 1, by omega, by go_num, eq_take _ _ HL.out _ hlt HA.out (by rw [HX.out, HY.out]), below_drewN hb _, HH.out⟩
          case measure => simp [intOf]; omega
        · have hd : (x == y) = false := by simpa using hin
          have hd2 : (x != y) = true := by simpa using hin
          go_wp2
          go_quiet (fail)
          go_wp2
          go_ret
          exact ⟨ret_bool (by rw [decide_eq_false]; rintro rfl; exact hin (HX.out.symm.trans HY.out)), below_drewN hb _⟩
      · obtain rfl : k = xs.length := by omega
        go_wp2
        go_ret
        exact ⟨ret_bool (by rw [decide_eq_true]; have := HA.out; rwa [take_all, HL.out, take_all] at this), hb⟩
  · have hd : ((xs.length : Int) == (ys.length : Int)) = false := by simp; omega
    have hd2 : ((xs.length : Int) != (ys.length : Int)) = true := by simp; omega
    have H := Lib.hid hlen
    clear hlen
    go_enter Tryd.func67, Tryd.ntmps67
    go_wp2
    go_ret
    exact ⟨ret_bool (by rw [decide_eq_false]; rintro rfl; exact H.out rfl), Below.refl _ _⟩

end Go.Proofs.YtnmhppiccganoaaDoor

namespace Go.Proofs.YtnmhppiccganoaaDoor
open Go.ChangeShapes Go.WideShapes Go.ChangeAt Go.RowKit Go.Sort
set_option linter.unusedVariables false
set_option linter.unusedSimpArgs false

def samA (us bs : FL) : Bool := decide (us = bs)
def sam1 (r : Int) (xs : List Int) (r' : Int) (ys : List Int) : Bool := decide (r = r') && decide (xs = ys)
theorem sam1_iff {r r' : Int} {xs ys : List Int} : sam1 r xs r' ys = true ↔ r = r' ∧ xs = ys := by simp [sam1]
theorem al_take (us bs : FL) (hl : us.length = bs.length) (k : Nat) (hk : k < us.length) (h : us.take k = bs.take k) {r r' : Int} {xs ys : List Int} (ha : us.getD k (0, []) = (r, xs)) (hb : bs.getD k (0, []) = (r', ys)) (hs : sam1 r xs r' ys = true) : us.take (k + 1) = bs.take (k + 1) := by
  rw [List.take_succ_eq_append_getElem hk, List.take_succ_eq_append_getElem (by omega), h]
  have h1 : us[k] = us.getD k (0, []) := by simp [List.getD_eq_getElem?_getD, hk]
  have h2 : bs[k]'(by omega) = bs.getD k (0, []) := by simp [List.getD_eq_getElem?_getD, show k < bs.length by omega]
  rw [h1, h2, ha, hb]
  obtain ⟨e1, e2⟩ := sam1_iff.1 hs
  rw [e1, e2]
theorem al_differ (us bs : FL) (k : Nat) {r r' : Int} {xs ys : List Int} (ha : us.getD k (0, []) = (r, xs)) (hb : bs.getD k (0, []) = (r', ys)) (hs : sam1 r xs r' ys = false) : samA us bs = false := by
  unfold samA
  rw [decide_eq_false]
  rintro rfl
  rw [ha] at hb
  injection hb with h1 h2
  subst h1 h2
  simp [sam1] at hs

set_option maxRecDepth 100000 in
set_option maxHeartbeats 1000000 in
theorem l5Same_any (r r' : Int) (xs ys : List Int) (A A' : Option Addr) (c c' : Nat) (hl : xs.length ≤ 1048576) (hl2 : ys.length ≤ 1048576) (w : World) (h : RI w A xs) (h' : RI w A' ys) :
    Calls Tryd.prog 60 #[.agg #[.int .i64 r, .slice A xs.length c], .agg #[.int .i64 r', .slice A' ys.length c']] w fun e w' => e = .returned (.bool (sam1 r xs r' ys)) ∧ Below w.heap.size w w' := by
  have bv := step (below_alloc w (.cells #[.int .i64 r, .slice A xs.length c] 66)) (below_alloc _ (.cells #[.int .i64 r', .slice A' ys.length c'] 66))
  have HB := Lib.hid bv
  have X1 := Lib.hid (l2Ints_any _ _ _ _ A A' c c' xs ys (by omega) (by omega) _ (h.step bv) (h'.step bv))
  clear h h' bv
  by_cases hr : r = r'
  · have E := Lib.hid (show sam1 r xs r' ys = decide (xs = ys) by simp [sam1, hr])
    have d1 : (r == r') = true := by simpa using hr
    clear hr
    go_enter Tryd.func60, Tryd.ntmps60
    go_wp2_with fail
    refine X1.out.mono ?_
    rintro e u ⟨rfl, d⟩
    have D := Lib.hid (step HB.out d)
    clear d
    go_wp2
    go_ret
    exact ⟨ret_bool E.out.symm, D.out⟩
  · have E := Lib.hid (show sam1 r xs r' ys = false by simp [sam1, hr])
    have d1 : (r == r') = false := by simpa using hr
    clear hr
    go_enter Tryd.func60, Tryd.ntmps60
    go_wp2
    go_ret
    exact ⟨ret_bool E.out.symm, HB.out⟩

end Go.Proofs.YtnmhppiccganoaaDoor

namespace Go.Proofs.YtnmhppiccganoaaDoor
open Go.ChangeShapes Go.WideShapes Go.ChangeAt Go.RowKit Go.Sort
set_option linter.unusedVariables false
set_option linter.unusedSimpArgs false

theorem ins_get {α : Type} (fs : List α) (x : α) (k : Nat) (hk : k ≤ fs.length) (j : Nat) : (fs.take k ++ x :: fs.drop k)[j]? = if j < k then fs[j]? else if j = k then some x else fs[j - 1]? := by
  by_cases h1 : j < k
  · rw [if_pos h1, List.getElem?_append_left (by rw [List.length_take]; omega), List.getElem?_take_of_lt h1]
  · rw [if_neg h1, List.getElem?_append_right (by rw [List.length_take]; omega), List.length_take, show j - min k fs.length = j - k by omega]
    by_cases h2 : j = k
    · subst h2; simp
    · rw [if_neg h2, show j - k = (j - 1 - k) + 1 by omega, List.getElem?_cons_succ, List.getElem?_drop, show k + (j - 1 - k) = j - 1 by omega]
theorem ins_getD {α : Type} (d : α) (fs : List α) (x : α) (k : Nat) (hk : k ≤ fs.length) (j : Nat) : (fs.take k ++ x :: fs.drop k).getD j d = if j < k then fs.getD j d else if j = k then x else fs.getD (j - 1) d := by
  simp only [List.getD_eq_getElem?_getD, ins_get fs x k hk j]
  split
  · rfl
  · split <;> rfl
theorem ins_len {α : Type} (fs : List α) (x : α) (k : Nat) (hk : k ≤ fs.length) : (fs.take k ++ x :: fs.drop k).length = fs.length + 1 := by
  simp only [List.length_append, List.length_take, List.length_cons, List.length_drop]; omega
theorem ins2_get (cs : List Value) (a b : Value) (m : Nat) (hm : m ≤ cs.length) (i : Nat) : (cs.take m ++ [a, b] ++ cs.drop m)[i]? = if i < m then cs[i]? else if i = m then some a else if i = m + 1 then some b else cs[i - 2]? := by
  rw [List.append_assoc]
  by_cases h1 : i < m
  · rw [if_pos h1, List.getElem?_append_left (by rw [List.length_take]; omega), List.getElem?_take_of_lt h1]
  · rw [if_neg h1, List.getElem?_append_right (by rw [List.length_take]; omega), List.length_take, show i - min m cs.length = i - m by omega]
    by_cases h2 : i = m
    · subst h2; simp
    · rw [if_neg h2, show i - m = (i - m - 1) + 1 by omega, List.cons_append, List.getElem?_cons_succ]
      by_cases h3 : i = m + 1
      · subst h3; simp
      · rw [if_neg h3, show i - m - 1 = (i - m - 2) + 1 by omega, List.cons_append, List.getElem?_cons_succ, List.nil_append, List.getElem?_drop, show m + (i - m - 2) = i - 2 by omega]

theorem Items.insert {w : World} {lo mid hi : Nat} {fs : FL} {cs : List Value} {bs : Nat → Nat} (h : Items w lo mid fs cs bs) {q : Nat} {r : Int} {xs : List Int} {v : Value} (hv : OwnV w mid hi v q xs) (a : lo ≤ mid) (b : mid ≤ hi) (k : Nat) (hk : k ≤ fs.length) :
    Items w lo hi (fs.take k ++ (r, xs) :: fs.drop k) (cs.take (k * 2) ++ [.int .i64 r, v] ++ cs.drop (k * 2)) (fun j => if j < k then bs j else if j = k then q else bs (j - 1)) := by
  have H := h
  obtain ⟨h1, h2, h3⟩ := h
  have hm : k * 2 ≤ cs.length := by omega
  refine ⟨?_, fun j hj => ?_, fun i j hij hj hi0 hj0 => ?_⟩
  · rw [ins_len _ _ _ hk]
    simp only [List.length_append, List.length_take, List.length_drop, List.length_cons, List.length_nil]; omega
  · rw [ins_len _ _ _ hk] at hj
    rw [ins_getD _ _ _ _ hk, ins2_get _ _ _ _ hm, ins2_get _ _ _ _ hm]
    by_cases e1 : j < k
    · simp only [if_pos e1, if_pos (show j * 2 < k * 2 by omega), if_pos (show j * 2 + 1 < k * 2 by omega)]
      obtain ⟨e0, v1, e2, hv1⟩ := h2 j (by omega)
      exact ⟨e0, v1, e2, hv1.mono (Nat.le_refl _) b⟩
    · by_cases e2 : j = k
      · subst e2
        simp only [if_neg e1, if_pos, if_neg (show ¬ j * 2 < j * 2 by omega), if_neg (show ¬ j * 2 + 1 < j * 2 by omega), if_neg (show ¬ j * 2 + 1 = j * 2 by omega)]
        exact ⟨trivial, v, rfl, hv.mono a (Nat.le_refl _)⟩
      · simp only [if_neg e1, if_neg e2, if_neg (show ¬ j * 2 < k * 2 by omega), if_neg (show ¬ j * 2 = k * 2 by omega), if_neg (show ¬ j * 2 = k * 2 + 1 by omega), if_neg (show ¬ j * 2 + 1 < k * 2 by omega), if_neg (show ¬ j * 2 + 1 = k * 2 by omega), if_neg (show ¬ j * 2 + 1 = k * 2 + 1 by omega)]
        obtain ⟨e0, v1, e3, hv1⟩ := h2 (j - 1) (by omega)
        refine ⟨by rw [show j * 2 - 2 = (j - 1) * 2 by omega]; exact e0, v1, by rw [show j * 2 + 1 - 2 = (j - 1) * 2 + 1 by omega]; exact e3, hv1.mono (Nat.le_refl _) b⟩
  · rw [ins_len _ _ _ hk] at hj
    rw [ins_getD _ _ _ _ hk] at hi0 hj0
    by_cases j1 : j < k
    · have i1 : i < k := by omega
      simp only [if_pos i1, if_pos j1] at hi0 hj0 ⊢
      exact h3 i j hij (by omega) hi0 hj0
    · by_cases j2 : j = k
      · subst j2
        simp only [if_pos hij, if_neg j1, if_pos] at hi0 hj0 ⊢
        have r1 := H.rng (show i < fs.length by omega) hi0
        have r2 := hv.rng hj0
        omega
      · simp only [if_neg j1, if_neg j2] at hj0 ⊢
        have r2 := H.rng (show j - 1 < fs.length by omega) hj0
        by_cases i1 : i < k
        · simp only [if_pos i1] at hi0 ⊢
          exact h3 i (j - 1) (by omega) (by omega) hi0 hj0
        · by_cases i2 : i = k
          · subst i2
            simp only [if_neg i1, if_pos] at hi0 ⊢
            have r1 := hv.rng hi0
            omega
          · simp only [if_neg i1, if_neg i2] at hi0 ⊢
            exact h3 (i - 1) (j - 1) (by omega) (by omega) hi0 hj0
theorem ownsRow_low {w : World} {lo lo' : Nat} {e : TypeId} {K n : Nat} {v : Value} {cs : List Value} (h : w.ownsRow lo e K v n cs) (a : lo' ≤ lo) : w.ownsRow lo' e K v n cs := by
  obtain ⟨h1, h2⟩ := h
  refine ⟨h1, ?_⟩
  rcases h2 with h2 | ⟨g, cap, cur, hv, hb, hr⟩
  · exact .inl h2
  · exact .inr ⟨g, cap, cur, hv, Nat.le_trans a hb, hr⟩
theorem ownC_cells {w : World} {lo hi g n c : Nat} {fs : FL} {cs : List Value} {bs : Nat → Nat} (h : OwnC w lo hi (.slice (some ⟨g, 0, none⟩) n c) fs cs bs) : ∀ j v, cs[j]? = some v → w.cell? ⟨g, j, none⟩ = some v := fun j v hj => by
  have := h.1.cells (g := g) rfl j v hj
  rwa [add_eq, Nat.zero_add] at this
theorem items_one' {w : World} {lo hi : Nat} {fs : FL} {cs : List Value} {bs : Nat → Nat} (h : Items w lo hi fs cs bs) : ∀ x ∈ cs, x.oneCell' = true := fun x hx => by
  obtain ⟨j, hj⟩ := List.getElem?_of_mem hx
  have hlt : j < fs.length * 2 := by have := (List.getElem?_eq_some_iff.1 hj).1; have := h.1; omega
  obtain ⟨e0, v1, e1, hv⟩ := h.2.1 (j / 2) (by omega)
  rcases Nat.mod_two_eq_zero_or_one j with hm | hm
  · rw [show j / 2 * 2 = j by omega, hj] at e0
    injection e0 with e0
    subst e0
    rfl
  · rw [show j / 2 * 2 + 1 = j by omega, hj] at e1
    injection e1 with e1
    subst e1
    obtain ⟨A, c, rfl, _⟩ := hv
    rfl
theorem hasB_iff (l : FL) (r : Int) (xs : List Int) : hasB l r xs = true ↔ ∃ k, k < l.length ∧ decide (cmpF (l.getD k (0, [])).1 (l.getD k (0, [])).2 r xs = 0) = true := by
  constructor
  · intro h
    by_cases hc : ∃ k, k < l.length ∧ decide (cmpF (l.getD k (0, [])).1 (l.getD k (0, [])).2 r xs = 0) = true
    · exact hc
    · exfalso
      unfold hasB at h
      rw [List.any_eq_true] at h
      obtain ⟨g, hg, hs⟩ := h
      obtain ⟨k, hk, rfl⟩ := List.getElem_of_mem hg
      refine hc ⟨k, hk, ?_⟩
      have e : l.getD k (0, []) = l[k] := by simp [List.getD_eq_getElem?_getD, hk]
      rw [e]
      have := cmp_same l[k].1 l[k].2 r xs
      rw [hs] at this
      simpa using this
  · rintro ⟨k, hk, h⟩
    refine hasB_found l r xs k hk ?_
    rw [← cmp_same]
    simpa using h
theorem addI_gr {l : FL} {r : Int} {xs : List Int} (h : hasB l r xs = false) {k : Nat} (hk : k ≤ l.length) (h1 : ∀ j, j < k → decide (cmpF (l.getD j (0, [])).1 (l.getD j (0, [])).2 r xs > 0) = false) (h2 : k < l.length → decide (cmpF (l.getD k (0, [])).1 (l.getD k (0, [])).2 r xs > 0) = true) :
    addI l r xs = l.take k ++ (r, xs) :: l.drop k := by
  refine addI_at l r xs k hk (fun j hj => ?_) (fun hlt => ?_)
  · have := of_decide_eq_false (h1 j hj)
    have hn := hasB_none h (show j < l.length by omega)
    unfold ltAt; omega
  · have := of_decide_eq_true (h2 hlt)
    unfold ltAt; omega
end Go.Proofs.YtnmhppiccganoaaDoor
