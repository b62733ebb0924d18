/- What the two functions AreFacts answer. Conditions: none beyond each theorem's own. -/
import Derived.Test.YtighalbnpgmdfaaGreatEqList
import Derived.Lib.QuietBelow
namespace Go.Proofs.YtighalbnpgmdfaaGreat
open Go.ChangeShapes Go.WideShapes Go.ChangeAt Go.RowKit Go.Sort
set_option linter.unusedVariables false
set_option linter.unusedSimpArgs false

/-- Is number k of the list a fact that is greater than the one before? -/
def okAt (s : List Int) (l : FL) (k : Nat) : Bool := factB s (l.getD k (0, [])).1 (l.getD k (0, [])).2 && (decide (k = 0) || decide (cmpF (l.getD (k - 1) (0, [])).1 (l.getD (k - 1) (0, [])).2 (l.getD k (0, [])).1 (l.getD k (0, [])).2 < 0))
def allOk (s : List Int) (l : FL) (n : Nat) : Bool := (List.range n).all (okAt s l)
theorem allOk_succ (s : List Int) (l : FL) (k : Nat) : allOk s l (k + 1) = (allOk s l k && okAt s l k) := by
  unfold allOk
  rw [List.range_succ, List.all_append]
  simp
theorem allOk_not (s : List Int) (l : FL) (k n : Nat) (hk : k < n) (h : okAt s l k = false) : allOk s l n = false := by
  unfold allOk
  rw [List.all_eq_false]
  exact ⟨k, by simpa using hk, by simp [h]⟩
def areB (s : List Int) (l : FL) : Bool := allOk s l l.length && schB s && decide (l.length ≤ 24)

set_option maxRecDepth 100000 in
set_option maxHeartbeats 2000000 in
theorem spec_AreFacts (S : Option Addr) (cs : Nat) (s : List Int) (A : Option Addr) (c : Nat) (l : FL) (hls : s.length ≤ 1048576) (hz : szF l ≤ 1048576) (w : World) (h : RI w S s) (h' : RF w A l) :
    Calls Tryz.prog 28 #[.slice S s.length cs, .slice A l.length c] w fun e w' => e = .returned (.bool (areB s l)) ∧ Below w.heap.size w w' := by
  have hl := szF_len hz
  have hl' : (l.length : Int) ≤ 1048576 := by omega
  have hs' : (s.length : Int) ≤ 1048576 := by omega
  have HI := Lib.hid h
  have HJ := Lib.hid h'
  clear h h'
  go_enter Tryz.func28, Tryz.ntmps28
  go_wp2
  go_loopw [5] (fun i wr => ∃ k : Nat, k ≤ l.length ∧ i = .int .i64 k ∧ allOk s l k = true ∧ Below w.heap.size w wr) (fun i _ => l.length - (intOf i).toNat)
  case atStart => exact ⟨0, by omega, rfl, rfl, Below.refl _ _⟩
  case round =>
    obtain ⟨k, hk, rfl, ha, hb⟩ := hrel
    have HA := Lib.hid ha
    clear ha
    have HS := Lib.hid (HI.out.step hb)
    by_cases hlt : k < l.length
    · generalize hf : l.getD k (0, []) = f
      obtain ⟨r, xs⟩ := f
      have HF := Lib.hid hf
      have hxl : xs.length ≤ 1048576 := by have := szF_elem hz hlt; rw [hf] at this; exact this
      obtain ⟨b, off, B, c2, rfl, n1, e0, e1, _, _, hI⟩ := (HJ.out.step hb).at_ hlt hf
      have HX := Lib.hid hI
      clear hf hI
      have k0 := cell_regrown e0
      have k1 := cell_regrown e1
      have hk0 : (0 : Int) ≤ (k : Int) := by omega
      have hk1 : (k : Int) < (l.length : Int) := by omega
      by_cases hfb : factB s r xs = true
      · have FB := Lib.hid hfb
        clear hfb
        have X1 := Lib.hid fun (W : World) (hW : Below wr.heap.size wr W) => (show Calls Tryz.prog 55 #[.slice S s.length cs, .agg #[.int .i64 r, .slice B xs.length c2]] W fun e w' => e = .returned (.bool true) ∧ Below W.heap.size W w' by have := spec_IsFact_r S cs s r xs B c2 (by omega) (by omega) W (HS.out.step hW) (HX.out.step hW); rw [FB.out] at this; exact this)
        by_cases h0 : k = 0
        · have K0 := Lib.hid h0
          have d0 : decide ((0 : Int) < (k : Int)) = false := by simp; omega
          have d0' : ¬ ((0 : Int) < (k : Int)) := by omega
          have d0n : decide (0 < k) = false := by simp; omega
          have d0m : ¬ (0 < k) := by omega
          clear h0
          go_wp2
          refine wp_region_quiet_below (by kernel_rfl) (by kernel_rfl) ?_
          repeat (go_big_quiet_step (first | (go_at_call 55; exact Calls.regrown_of (X1.out _ (below_regrown _ _ _)))))
          refine wpQuiet_nil ?_
          intro u hw'
          have hb2 : Below w.heap.size w u := by obtain ⟨⟨dq, osq⟩, rfl⟩ := hw'; exact step hb (below_regrown _ _ _)
          clear hw'
          go_wp2
          go_roundw
          case rel => exact ⟨k + 1, by omega, by go_num, by rw [allOk_succ, HA.out, okAt, HF.out, FB.out, K0.out]; rfl, hb2⟩
          case measure => simp [intOf]; omega
        · have K0 : 0 < k := by omega
          clear h0
          generalize hf' : l.getD (k - 1) (0, []) = f'
          obtain ⟨r', xs'⟩ := f'
          have HF' := Lib.hid hf'
          have hxl' : xs'.length ≤ 1048576 := by have := szF_elem hz (show k - 1 < l.length by omega); rw [hf'] at this; exact this
          obtain ⟨b', off', B', c2', hbb, _, e0', e1', _, _, hI'⟩ := (HJ.out.step hb).at_ (show k - 1 < l.length by omega) hf'
          injection hbb with hbb
          injection hbb with hb1 hb2
          subst hb1 hb2
          have HX' := Lib.hid hI'
          clear hf' hI'
          have k2 := cell_regrown e0'
          have k3 := cell_regrown e1'
          have d0 : decide ((0 : Int) < (k : Int)) = true := by simp; omega
          have d0' : (0 : Int) < (k : Int) := by omega
          have d0n : decide (0 < k) = true := by simp; omega
          have q0 : IntKind.i64.wrap ((k : Int) - 1) = (k : Int) - 1 := IntWalk.i64_in _ ⟨by omega, by omega⟩
          have q1 : (0 : Int) ≤ (k : Int) - 1 := by omega
          have q1' : (1 : Int) ≤ (k : Int) := by omega
          have q2 : ((k : Int) - 1).toNat = k - 1 := by omega
          have q3 : (k : Int) - 1 < (l.length : Int) := by omega
          have q5 : k ≤ l.length := by omega
          generalize hq : cmpF r' xs' r xs = q
          have HQ := Lib.hid hq
          clear hq
          have X2 := Lib.hid fun (W : World) (hW : Below wr.heap.size wr W) => (show Calls Tryz.prog 56 #[.agg #[.int .i64 r', .slice B' xs'.length c2'], .agg #[.int .i64 r, .slice B xs.length c2]] W fun e w' => e = .returned (.int .i64 q) ∧ Below W.heap.size W w' by have := spec_CompareFacts r' r xs' xs B' B c2' c2 (by omega) (by omega) W (HX'.out.step hW) (HX.out.step hW); rw [HQ.out] at this; exact this)
          by_cases hcm : q < 0
          · have q4 : decide ((0 : Int) ≤ q) = false := by simp; omega
            have q4' : ¬ (0 : Int) ≤ q := by omega
            go_wp2
            refine wp_region_quiet_below (by kernel_rfl) (by kernel_rfl) ?_
            repeat (go_big_quiet_step (first | (go_at_call 55; exact Calls.regrown_of (X1.out _ (below_regrown _ _ _))) | (go_at_call 56; exact Calls.regrown_of (X2.out _ (below_regrown _ _ _)))))
            refine wpQuiet_nil ?_
            intro u hw'
            have hb2 : Below w.heap.size w u := by obtain ⟨⟨dq, osq⟩, rfl⟩ := hw'; exact step hb (below_regrown _ _ _)
            clear hw'
            clear q0 q2
            go_wp2
            go_roundw
            case rel => exact ⟨k + 1, by omega, by go_num, by rw [allOk_succ, HA.out, okAt, HF.out, HF'.out, FB.out, HQ.out]; simp [hcm], hb2⟩
            case measure => simp [intOf]; omega
          · have q4 : decide ((0 : Int) ≤ q) = true := by simp; omega
            have q4' : (0 : Int) ≤ q := by omega
            go_wp2
            refine wp_region_quiet_below (by kernel_rfl) (by kernel_rfl) ?_
            repeat (go_big_quiet_step (first | (go_at_call 55; exact Calls.regrown_of (X1.out _ (below_regrown _ _ _))) | (go_at_call 56; exact Calls.regrown_of (X2.out _ (below_regrown _ _ _)))))
            refine wpQuiet_nil ?_
            intro u hw'
            have hb2 : Below w.heap.size w u := by obtain ⟨⟨dq, osq⟩, rfl⟩ := hw'; exact step hb (below_regrown _ _ _)
            clear hw'
            go_wp2
            go_ret
            exact ⟨ret_bool (by unfold areB; rw [allOk_not s l k _ hlt (by rw [okAt, HF.out, HF'.out, HQ.out]; simp [hcm]; intro _; omega)]; rfl), hb2⟩
      · have FB := Lib.hid (show factB s r xs = false by simpa using hfb)
        clear hfb
        have X1 := Lib.hid fun (W : World) (hW : Below wr.heap.size wr W) => (show Calls Tryz.prog 55 #[.slice S s.length cs, .agg #[.int .i64 r, .slice B xs.length c2]] W fun e w' => e = .returned (.bool false) ∧ Below W.heap.size W w' by have := spec_IsFact_r S cs s r xs B c2 (by omega) (by omega) W (HS.out.step hW) (HX.out.step hW); rw [FB.out] at this; exact this)
        go_wp2
        refine wp_region_quiet_below (by kernel_rfl) (by kernel_rfl) ?_
        repeat (go_big_quiet_step (first | (go_at_call 55; exact Calls.regrown_of (X1.out _ (below_regrown _ _ _)))))
        refine wpQuiet_nil ?_
        intro u hw'
        have hb2 : Below w.heap.size w u := by obtain ⟨⟨dq, osq⟩, rfl⟩ := hw'; exact step hb (below_regrown _ _ _)
        clear hw'
        go_wp2
        go_ret
        exact ⟨ret_bool (by unfold areB; rw [allOk_not s l k _ hlt (by rw [okAt, HF.out, FB.out]; rfl)]; rfl), hb2⟩
    · obtain rfl : k = l.length := by omega
      by_cases hsc : schB s = true
      · have SC := Lib.hid hsc
        clear hsc
        go_wp2_with fail
        refine (spec_IsSchema _ _ S cs s (by omega) _ HS.out).mono ?_
        rintro e u ⟨he, rfl⟩
        rw [SC.out] at he
        subst he
        go_wp2
        go_ret
        exact ⟨ret_bool (by unfold areB; rw [HA.out, SC.out, Bool.eq_iff_iff]; simp; omega), hb⟩
      · have SC := Lib.hid (show schB s = false by simpa using hsc)
        clear hsc
        go_wp2_with fail
        refine (spec_IsSchema _ _ S cs s (by omega) _ HS.out).mono ?_
        rintro e u ⟨he, rfl⟩
        rw [SC.out] at he
        subst he
        go_wp2
        go_ret
        exact ⟨ret_bool (by unfold areB; rw [HA.out, SC.out]; simp), hb⟩
set_option maxRecDepth 100000 in
set_option maxHeartbeats 2000000 in
theorem impl_AreFacts (S : Option Addr) (cs : Nat) (s : List Int) (A : Option Addr) (c : Nat) (l : FL) (hls : s.length ≤ 1048576) (hz : szF l ≤ 1048576) (w : World) (h : RI w S s) (h' : RF w A l) :
    Calls Tryz.prog 34 #[.slice S s.length cs, .slice A l.length c] w fun e w' => e = .returned (.bool (areB s l)) ∧ Below w.heap.size w w' := by
  have hl := szF_len hz
  have hl' : (l.length : Int) ≤ 1048576 := by omega
  have hs' : (s.length : Int) ≤ 1048576 := by omega
  have HI := Lib.hid h
  have HJ := Lib.hid h'
  clear h h'
  by_cases hsc : schB s = true
  · have SC := Lib.hid hsc
    clear hsc
    by_cases h24 : l.length ≤ 24
    · have d24 : decide (24 < l.length) = false := by simp; omega
      have d24' : decide ((24 : Int) < (l.length : Int)) = false := by simp; omega
      have d24'' : (l.length : Int) ≤ 24 := by omega
      go_enter Tryz.func34, Tryz.ntmps34
      go_wp2_with fail
      refine (impl_IsSchema _ _ S cs s (by omega) _ HI.out).mono ?_
      rintro e u ⟨he, rfl⟩
      rw [SC.out] at he
      subst he
      go_wp2
      go_loopw [5, 6, 17] (fun _ _ i wr => ∃ k : Nat, k ≤ l.length ∧ i = .int .i64 k ∧ allOk s l k = true ∧ Below w.heap.size w wr) (fun _ _ i _ => l.length - (intOf i).toNat)
      case atStart => exact ⟨0, by omega, rfl, rfl, Below.refl _ _⟩
      case round =>
        obtain ⟨k, hk, rfl, ha, hb⟩ := hrel
        have HA := Lib.hid ha
        clear ha
        have HS := Lib.hid (HI.out.step hb)
        by_cases hlt : k < l.length
        · generalize hf : l.getD k (0, []) = f
          obtain ⟨r, xs⟩ := f
          have HF := Lib.hid hf
          have hxl : xs.length ≤ 1048576 := by have := szF_elem hz hlt; rw [hf] at this; exact this
          obtain ⟨b, off, B, c2, rfl, n1, e0, e1, _, _, hI⟩ := (HJ.out.step hb).at_ hlt hf
          have bv := below_alloc wr (.cells #[.int .i64 r, .slice B xs.length c2] 59)
          have hbv := step hb bv
          have HV := Lib.hid (HS.out.step bv)
          have HX := Lib.hid (hI.step bv)
          have g0 := cell_new wr #[.int .i64 r, .slice B xs.length c2] 59 0
          have g1 := cell_new wr #[.int .i64 r, .slice B xs.length c2] 59 1
          simp only [List.getElem?_toArray, List.getElem?_cons_zero, List.getElem?_cons_succ] at g0 g1
          have k0 := cell_regrown g0
          have k1 := cell_regrown g1
          clear hf hI g0 g1
          have hk0 : (0 : Int) ≤ (k : Int) := by omega
          have hk1 : (k : Int) < (l.length : Int) := by omega
          by_cases hfb : factB s r xs = true
          · have FB := Lib.hid hfb
            clear hfb
            have X1 := Lib.hid fun (W : World) (hW : Below (wr.alloc (.cells #[.int .i64 r, .slice B xs.length c2] 59)).heap.size (wr.alloc (.cells #[.int .i64 r, .slice B xs.length c2] 59)) W) => (show Calls Tryz.prog 65 #[.slice S s.length cs, .agg #[.int .i64 r, .slice B xs.length c2]] W fun e w' => e = .returned (.bool true) ∧ Below W.heap.size W w' by have := impl_IsFact_r S cs s r xs B c2 (by omega) (by omega) W (HV.out.step hW) (HX.out.step hW); rw [FB.out] at this; exact this)
            by_cases h0 : k = 0
            · have K0 := Lib.hid h0
              have d0 : decide ((0 : Int) < (k : Int)) = false := by simp; omega
              have d0' : ¬ ((0 : Int) < (k : Int)) := by omega
              have d0n : decide (0 < k) = false := by simp; omega
              have d0m : ¬ (0 < k) := by omega
              clear h0
              go_wp2
              refine wp_region_quiet_below (by kernel_rfl) (by kernel_rfl) ?_
              repeat (go_big_quiet_step (first | (go_at_call 65; exact Calls.regrown_of (X1.out _ (below_regrown _ _ _)))))
              refine wpQuiet_nil ?_
              intro u hw'
              have hb2 : Below w.heap.size w u := by obtain ⟨⟨dq, osq⟩, rfl⟩ := hw'; exact step hbv (below_regrown _ _ _)
              clear hw'
              go_wp2
              go_roundw
              case rel => exact ⟨k + 1, by omega, by go_num, by rw [allOk_succ, HA.out, okAt, HF.out, FB.out, K0.out]; rfl, hb2⟩
              case measure => simp [intOf]; omega
            · have K0 : 0 < k := by omega
              clear h0
              generalize hf' : l.getD (k - 1) (0, []) = f'
              obtain ⟨r', xs'⟩ := f'
              have HF' := Lib.hid hf'
              have hxl' : xs'.length ≤ 1048576 := by have := szF_elem hz (show k - 1 < l.length by omega); rw [hf'] at this; exact this
              obtain ⟨b', off', B', c2', hbb, _, e0', e1', _, _, hI'⟩ := (HJ.out.step hb).at_ (show k - 1 < l.length by omega) hf'
              injection hbb with hbb
              injection hbb with hb1 hb2
              subst hb1 hb2
              have HX' := Lib.hid (hI'.step bv)
              have k2 := cell_regrown ((World.cell?_alloc_lt wr (.cells #[.int .i64 r, .slice B xs.length c2] 59) _ n1).trans e0')
              have k3 := cell_regrown ((World.cell?_alloc_lt wr (.cells #[.int .i64 r, .slice B xs.length c2] 59) _ n1).trans e1')
              clear hf' hI'
              have d0 : decide ((0 : Int) < (k : Int)) = true := by simp; omega
              have d0' : (0 : Int) < (k : Int) := by omega
              have d0n : decide (0 < k) = true := by simp; omega
              have q0 : IntKind.i64.wrap ((k : Int) - 1) = (k : Int) - 1 := IntWalk.i64_in _ ⟨by omega, by omega⟩
              have q1 : (0 : Int) ≤ (k : Int) - 1 := by omega
              have q1' : (1 : Int) ≤ (k : Int) := by omega
              have q2 : ((k : Int) - 1).toNat = k - 1 := by omega
              have q3 : (k : Int) - 1 < (l.length : Int) := by omega
              have q5 : k ≤ l.length := by omega
              generalize hq : cmpF r' xs' r xs = q
              have HQ := Lib.hid hq
              clear hq
              have X2 := Lib.hid fun (W : World) (hW : Below (wr.alloc (.cells #[.int .i64 r, .slice B xs.length c2] 59)).heap.size (wr.alloc (.cells #[.int .i64 r, .slice B xs.length c2] 59)) W) => (show Calls Tryz.prog 66 #[.agg #[.int .i64 r', .slice B' xs'.length c2'], .agg #[.int .i64 r, .slice B xs.length c2]] W fun e w' => e = .returned (.int .i64 q) ∧ Below W.heap.size W w' by have := impl_CompareFacts r' r xs' xs B' B c2' c2 (by omega) (by omega) W (HX'.out.step hW) (HX.out.step hW); rw [HQ.out] at this; exact this)
              by_cases hcm : q < 0
              · have q4 : decide ((0 : Int) ≤ q) = false := by simp; omega
                have q4' : ¬ (0 : Int) ≤ q := by omega
                go_wp2
                refine wp_region_quiet_below (by kernel_rfl) (by kernel_rfl) ?_
                repeat (go_big_quiet_step (first | (go_at_call 65; exact Calls.regrown_of (X1.out _ (below_regrown _ _ _))) | (go_at_call 66; exact Calls.regrown_of (X2.out _ (below_regrown _ _ _)))))
                refine wpQuiet_nil ?_
                intro u hw'
                have hb2 : Below w.heap.size w u := by obtain ⟨⟨dq, osq⟩, rfl⟩ := hw'; exact step hbv (below_regrown _ _ _)
                clear hw'
                clear q0 q2
                go_wp2
                go_roundw
                case rel => exact ⟨k + 1, by omega, by go_num, by rw [allOk_succ, HA.out, okAt, HF.out, HF'.out, FB.out, HQ.out]; simp [hcm], hb2⟩
                case measure => simp [intOf]; omega
              · have q4 : decide ((0 : Int) ≤ q) = true := by simp; omega
                have q4' : (0 : Int) ≤ q := by omega
                go_wp2
                refine wp_region_quiet_below (by kernel_rfl) (by kernel_rfl) ?_
                repeat (go_big_quiet_step (first | (go_at_call 65; exact Calls.regrown_of (X1.out _ (below_regrown _ _ _))) | (go_at_call 66; exact Calls.regrown_of (X2.out _ (below_regrown _ _ _)))))
                refine wpQuiet_nil ?_
                intro u hw'
                have hb2 : Below w.heap.size w u := by obtain ⟨⟨dq, osq⟩, rfl⟩ := hw'; exact step hbv (below_regrown _ _ _)
                clear hw'
                go_wp2
                go_ret
                exact ⟨ret_bool (by unfold areB; rw [allOk_not s l k _ hlt (by rw [okAt, HF.out, HF'.out, HQ.out]; simp [hcm]; intro _; omega)]; rfl), hb2⟩
          · have FB := Lib.hid (show factB s r xs = false by simpa using hfb)
            clear hfb
            have X1 := Lib.hid fun (W : World) (hW : Below (wr.alloc (.cells #[.int .i64 r, .slice B xs.length c2] 59)).heap.size (wr.alloc (.cells #[.int .i64 r, .slice B xs.length c2] 59)) W) => (show Calls Tryz.prog 65 #[.slice S s.length cs, .agg #[.int .i64 r, .slice B xs.length c2]] W fun e w' => e = .returned (.bool false) ∧ Below W.heap.size W w' by have := impl_IsFact_r S cs s r xs B c2 (by omega) (by omega) W (HV.out.step hW) (HX.out.step hW); rw [FB.out] at this; exact this)
            go_wp2
            refine wp_region_quiet_below (by kernel_rfl) (by kernel_rfl) ?_
            repeat (go_big_quiet_step (first | (go_at_call 65; exact Calls.regrown_of (X1.out _ (below_regrown _ _ _)))))
            refine wpQuiet_nil ?_
            intro u hw'
            have hb2 : Below w.heap.size w u := by obtain ⟨⟨dq, osq⟩, rfl⟩ := hw'; exact step hbv (below_regrown _ _ _)
            clear hw'
            go_wp2
            go_ret
            exact ⟨ret_bool (by unfold areB; rw [allOk_not s l k _ hlt (by rw [okAt, HF.out, FB.out]; rfl)]; rfl), hb2⟩
        · obtain rfl : k = l.length := by omega
          go_wp2
          go_ret
          exact ⟨ret_bool (by unfold areB; rw [HA.out, SC.out, decide_eq_true h24]; rfl), hb⟩
    · have d24 : decide (24 < l.length) = true := by simp; omega
      have d24' : decide ((24 : Int) < (l.length : Int)) = true := by simp; omega
      have H : areB s l = false := by simp [areB, h24]
      rw [H]
      clear H
      go_enter Tryz.func34, Tryz.ntmps34
      go_wp2_with fail
      refine (impl_IsSchema _ _ S cs s (by omega) _ HI.out).mono ?_
      rintro e u ⟨he, rfl⟩
      rw [SC.out] at he
      subst he
      go_wp2
      go_ret
      exact ⟨rfl, Below.refl _ _⟩
  · have SC := Lib.hid (show schB s = false by simpa using hsc)
    have H : areB s l = false := by simp [areB, SC.out]
    rw [H]
    clear H hsc
    go_enter Tryz.func34, Tryz.ntmps34
    go_wp2_with fail
    refine (impl_IsSchema _ _ S cs s (by omega) _ HI.out).mono ?_
    rintro e u ⟨he, rfl⟩
    rw [SC.out] at he
    subst he
    go_wp2
    go_ret
    exact ⟨rfl, Below.refl _ _⟩
end Go.Proofs.YtighalbnpgmdfaaGreat
