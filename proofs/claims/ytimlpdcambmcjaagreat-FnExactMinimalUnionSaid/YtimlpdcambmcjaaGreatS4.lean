/- What the two functions AreFacts answer. Conditions: none beyond each theorem's own. Whether two facts are the same, and whether a list has a fact. Conditions: none beyond each theorem's own. Whether two facts are the same, and whether a list has a fact. Conditions: none beyond each theorem's own. What the two functions SameFacts answer. Conditions: none beyond each theorem's own. Copies of numbers and of facts. Conditions: none beyond each theorem's own. -/
import Derived.Test.YtimlpdcambmcjaaGreatS3
import Derived.Lib.QuietBelow
import Derived.Laws.StructEq
import Derived.Laws.CopyOwn
import Derived.Deep.RegionLaw
import Derived.Maps.AppendAt
import Derived.Deep.AppendLies
import Derived.Laws.AppendOwnNone

namespace Go.Proofs.YtimlpdcambmcjaaGreat
open Go.ChangeShapes Go.WideShapes Go.ChangeAt Go.RowKit Go.Sort
set_option linter.unusedVariables false
set_option linter.unusedSimpArgs false

/-- Is number k of the list a fact that is greater than the one before? -/
def okAt (s : List Int) (l : FL) (k : Nat) : Bool := factB s (l.getD k (0, [])).1 (l.getD k (0, [])).2 && (decide (k = 0) || decide (cmpF (l.getD (k - 1) (0, [])).1 (l.getD (k - 1) (0, [])).2 (l.getD k (0, [])).1 (l.getD k (0, [])).2 < 0))
def allOk (s : List Int) (l : FL) (n : Nat) : Bool := (List.range n).all (okAt s l)
theorem allOk_succ (s : List Int) (l : FL) (k : Nat) : allOk s l (k + 1) = (allOk s l k && okAt s l k) := by
  unfold allOk
  rw [List.range_succ, List.all_append]
  simp
theorem allOk_not (s : List Int) (l : FL) (k n : Nat) (hk : k < n) (h : okAt s l k = false) : allOk s l n = false := by
  unfold allOk
  rw [List.all_eq_false]
  exact ⟨k, by simpa using hk, by simp [h]⟩
def areB (s : List Int) (l : FL) : Bool := allOk s l l.length && schB s && decide (l.length ≤ 24)

set_option maxRecDepth 100000 in
set_option maxHeartbeats 2000000 in
theorem spec_AreFacts (S : Option Addr) (cs : Nat) (s : List Int) (A : Option Addr) (c : Nat) (l : FL) (hls : s.length ≤ 1048576) (hz : szF l ≤ 1048576) (w : World) (h : RI w S s) (h' : RF w A l) :
    Calls Tryz.prog 96 #[.slice S s.length cs, .slice A l.length c] w fun e w' => e = .returned (.bool (areB s l)) ∧ Below w.heap.size w w' := by
  have hl := szF_len hz
  have hl' : (l.length : Int) ≤ 1048576 := by omega
  have hs' : (s.length : Int) ≤ 1048576 := by omega
  have HI := Lib.hid h
  have HJ := Lib.hid h'
  clear h h'
  go_enter Tryz.func96, Tryz.ntmps96
  go_wp2
  go_loopw [5] (fun i wr => ∃ k : Nat, k ≤ l.length ∧ i = .int .i64 k ∧ allOk s l k = true ∧ Below w.heap.size w wr) (fun i _ => l.length - (intOf i).toNat)
  case atStart => exact ⟨0, by omega, rfl, rfl, Below.refl _ _⟩
  case round =>
    obtain ⟨k, hk, rfl, ha, hb⟩ := hrel
    have HA := Lib.hid ha
    clear ha
    have HS := Lib.hid (HI.out.step hb)
    by_cases hlt : k < l.length
    · generalize hf : l.getD k (0, []) = f
      obtain ⟨r, xs⟩ := f
      have HF := Lib.hid hf
      have hxl : xs.length ≤ 1048576 := by have := szF_elem hz hlt; rw [hf] at this; exact this
      obtain ⟨b, off, B, c2, rfl, n1, e0, e1, _, _, hI⟩ := (HJ.out.step hb).at_ hlt hf
      have HX := Lib.hid hI
      clear hf hI
      have k0 := cell_regrown e0
      have k1 := cell_regrown e1
      have hk0 : (0 : Int) ≤ (k : Int) := by omega
      have hk1 : (k : Int) < (l.length : Int) := by omega
      by_cases hfb : factB s r xs = true
      · have FB := Lib.hid hfb
        clear hfb
        have X1 := Lib.hid fun (W : World) (hW : Below wr.heap.size wr W) => (show Calls Tryz.prog 134 #[.slice S s.length cs, .agg #[.int .i64 r, .slice B xs.length c2]] W fun e w' => e = .returned (.bool true) ∧ Below W.heap.size W w' by have := spec_IsFact_r S cs s r xs B c2 (by omega) (by omega) W (HS.out.step hW) (HX.out.step hW); rw [FB.out] at this; exact this)
        by_cases h0 : k = 0
        · have K0 := Lib.hid h0
          have d0 : decide ((0 : Int) < (k : Int)) = false := by simp; omega
          have d0' : ¬ ((0 : Int) < (k : Int)) := by omega
          have d0n : decide (0 < k) = false := by simp; omega
          have d0m : ¬ (0 < k) := by omega
          clear h0
          go_wp2
          refine wp_region_quiet_below (by kernel_rfl) (by kernel_rfl) ?_
          repeat (go_big_quiet_step (first | (go_at_call 134; exact Calls.regrown_of (X1.out _ (below_regrown _ _ _)))))
          refine wpQuiet_nil ?_
          intro u hw'
          have hb2 : Below w.heap.size w u := by obtain ⟨⟨dq, osq⟩, rfl⟩ := hw'; exact step hb (below_regrown _ _ _)
          clear hw'
          go_wp2
          go_roundw
          case rel => exact ⟨k + 1, by omega, by go_num, by rw [allOk_succ, HA.out, okAt, HF.out, FB.out, K0.out]; rfl, hb2⟩
          case measure => simp [intOf]; omega
        · have K0 : 0 < k := by omega
          clear h0
          generalize hf' : l.getD (k - 1) (0, []) = f'
          obtain ⟨r', xs'⟩ := f'
          have HF' := Lib.hid hf'
          have hxl' : xs'.length ≤ 1048576 := by have := szF_elem hz (show k - 1 < l.length by omega); rw [hf'] at this; exact this
          obtain ⟨b', off', B', c2', hbb, _, e0', e1', _, _, hI'⟩ := (HJ.out.step hb).at_ (show k - 1 < l.length by omega) hf'
          injection hbb with hbb
          injection hbb with hb1 hb2
          subst hb1 hb2
          have HX' := Lib.hid hI'
          clear hf' hI'
          have k2 := cell_regrown e0'
          have k3 := cell_regrown e1'
          have d0 : decide ((0 : Int) < (k : Int)) = true := by simp; omega
          have d0' : (0 : Int) < (k : Int) := by omega
          have d0n : decide (0 < k) = true := by simp; omega
          have q0 : IntKind.i64.wrap ((k : Int) - 1) = (k : Int) - 1 := IntWalk.i64_in _ ⟨by omega, by omega⟩
          have q1 : (0 : Int) ≤ (k : Int) - 1 := by omega
          have q1' : (1 : Int) ≤ (k : Int) := by omega
          have q2 : ((k : Int) - 1).toNat = k - 1 := by omega
          have q3 : (k : Int) - 1 < (l.length : Int) := by omega
          have q5 : k ≤ l.length := by omega
          generalize hq : cmpF r' xs' r xs = q
          have HQ := Lib.hid hq
          clear hq
          have X2 := Lib.hid fun (W : World) (hW : Below wr.heap.size wr W) => (show Calls Tryz.prog 135 #[.agg #[.int .i64 r', .slice B' xs'.length c2'], .agg #[.int .i64 r, .slice B xs.length c2]] W fun e w' => e = .returned (.int .i64 q) ∧ Below W.heap.size W w' by have := spec_CompareFacts r' r xs' xs B' B c2' c2 (by omega) (by omega) W (HX'.out.step hW) (HX.out.step hW); rw [HQ.out] at this; exact this)
          by_cases hcm : q < 0
          · have q4 : decide ((0 : Int) ≤ q) = false := by simp; omega
            have q4' : ¬ (0 : Int) ≤ q := by omega
            go_wp2
            refine wp_region_quiet_below (by kernel_rfl) (by kernel_rfl) ?_
            repeat (go_big_quiet_step (first | (go_at_call 134; exact Calls.regrown_of (X1.out _ (below_regrown _ _ _))) | (go_at_call 135; exact Calls.regrown_of (X2.out _ (below_regrown _ _ _)))))
            refine wpQuiet_nil ?_
            intro u hw'
            have hb2 : Below w.heap.size w u := by obtain ⟨⟨dq, osq⟩, rfl⟩ := hw'; exact step hb (below_regrown _ _ _)
            clear hw'
            clear q0 q2
            go_wp2
            go_roundw
            case rel => exact ⟨k + 1, by omega, by go_num, by rw [allOk_succ, HA.out, okAt, HF.out, HF'.out, FB.out, HQ.out]; simp [hcm], hb2⟩
            case measure => simp [intOf]; omega
          · have q4 : decide ((0 : Int) ≤ q) = true := by simp; omega
            have q4' : (0 : Int) ≤ q := by omega
            go_wp2
            refine wp_region_quiet_below (by kernel_rfl) (by kernel_rfl) ?_
            repeat (go_big_quiet_step (first | (go_at_call 134; exact Calls.regrown_of (X1.out _ (below_regrown _ _ _))) | (go_at_call 135; exact Calls.regrown_of (X2.out _ (below_regrown _ _ _)))))
            refine wpQuiet_nil ?_
            intro u hw'
            have hb2 : Below w.heap.size w u := by obtain ⟨⟨dq, osq⟩, rfl⟩ := hw'; exact step hb (below_regrown _ _ _)
            clear hw'
            go_wp2
            go_ret
            exact ⟨ret_bool (by unfold areB; rw [allOk_not s l k _ hlt (by rw [okAt, HF.out, HF'.out, HQ.out]; simp [hcm]; intro _; omega)]; rfl), hb2⟩
      · have FB := Lib.hid (show factB s r xs = false by simpa using hfb)
        clear hfb
        have X1 := Lib.hid fun (W : World) (hW : Below wr.heap.size wr W) => (show Calls Tryz.prog 134 #[.slice S s.length cs, .agg #[.int .i64 r, .slice B xs.length c2]] W fun e w' => e = .returned (.bool false) ∧ Below W.heap.size W w' by have := spec_IsFact_r S cs s r xs B c2 (by omega) (by omega) W (HS.out.step hW) (HX.out.step hW); rw [FB.out] at this; exact this)
        go_wp2
        refine wp_region_quiet_below (by kernel_rfl) (by kernel_rfl) ?_
        repeat (go_big_quiet_step (first | (go_at_call 134; exact Calls.regrown_of (X1.out _ (below_regrown _ _ _)))))
        refine wpQuiet_nil ?_
        intro u hw'
        have hb2 : Below w.heap.size w u := by obtain ⟨⟨dq, osq⟩, rfl⟩ := hw'; exact step hb (below_regrown _ _ _)
        clear hw'
        go_wp2
        go_ret
        exact ⟨ret_bool (by unfold areB; rw [allOk_not s l k _ hlt (by rw [okAt, HF.out, FB.out]; rfl)]; rfl), hb2⟩
    · obtain rfl : k = l.length := by omega
      by_cases hsc : schB s = true
      · have SC := Lib.hid hsc
        clear hsc
        go_wp2_with fail
        refine (spec_IsSchema _ _ S cs s (by omega) _ HS.out).mono ?_
        rintro e u ⟨he, rfl⟩
        rw [SC.out] at he
        subst he
        go_wp2
        go_ret
        exact ⟨ret_bool (by unfold areB; rw [HA.out, SC.out, Bool.eq_iff_iff]; simp; omega), hb⟩
      · have SC := Lib.hid (show schB s = false by simpa using hsc)
        clear hsc
        go_wp2_with fail
        refine (spec_IsSchema _ _ S cs s (by omega) _ HS.out).mono ?_
        rintro e u ⟨he, rfl⟩
        rw [SC.out] at he
        subst he
        go_wp2
        go_ret
        exact ⟨ret_bool (by unfold areB; rw [HA.out, SC.out]; simp), hb⟩
set_option maxRecDepth 100000 in
set_option maxHeartbeats 2000000 in
theorem impl_AreFacts (S : Option Addr) (cs : Nat) (s : List Int) (A : Option Addr) (c : Nat) (l : FL) (hls : s.length ≤ 1048576) (hz : szF l ≤ 1048576) (w : World) (h : RI w S s) (h' : RF w A l) :
    Calls Tryz.prog 57 #[.slice S s.length cs, .slice A l.length c] w fun e w' => e = .returned (.bool (areB s l)) ∧ Below w.heap.size w w' := by
  have hl := szF_len hz
  have hl' : (l.length : Int) ≤ 1048576 := by omega
  have hs' : (s.length : Int) ≤ 1048576 := by omega
  have HI := Lib.hid h
  have HJ := Lib.hid h'
  clear h h'
  by_cases hsc : schB s = true
  · have SC := Lib.hid hsc
    clear hsc
    by_cases h24 : l.length ≤ 24
    · have d24 : decide (24 < l.length) = false := by simp; omega
      have d24' : decide ((24 : Int) < (l.length : Int)) = false := by simp; omega
      have d24'' : (l.length : Int) ≤ 24 := by omega
      go_enter Tryz.func57, Tryz.ntmps57
      go_wp2_with fail
      refine (impl_IsSchema _ _ S cs s (by omega) _ HI.out).mono ?_
      rintro e u ⟨he, rfl⟩
      rw [SC.out] at he
      subst he
      go_wp2
      go_loopw [5, 6, 17] (fun _ _ i wr => ∃ k : Nat, k ≤ l.length ∧ i = .int .i64 k ∧ allOk s l k = true ∧ Below w.heap.size w wr) (fun _ _ i _ => l.length - (intOf i).toNat)
      case atStart => exact ⟨0, by omega, rfl, rfl, Below.refl _ _⟩
      case round =>
        obtain ⟨k, hk, rfl, ha, hb⟩ := hrel
        have HA := Lib.hid ha
        clear ha
        have HS := Lib.hid (HI.out.step hb)
        by_cases hlt : k < l.length
        · generalize hf : l.getD k (0, []) = f
          obtain ⟨r, xs⟩ := f
          have HF := Lib.hid hf
          have hxl : xs.length ≤ 1048576 := by have := szF_elem hz hlt; rw [hf] at this; exact this
          obtain ⟨b, off, B, c2, rfl, n1, e0, e1, _, _, hI⟩ := (HJ.out.step hb).at_ hlt hf
          have bv := below_alloc wr (.cells #[.int .i64 r, .slice B xs.length c2] 77)
          have hbv := step hb bv
          have HV := Lib.hid (HS.out.step bv)
          have HX := Lib.hid (hI.step bv)
          have g0 := cell_new wr #[.int .i64 r, .slice B xs.length c2] 77 0
          have g1 := cell_new wr #[.int .i64 r, .slice B xs.length c2] 77 1
          simp only [List.getElem?_toArray, List.getElem?_cons_zero, List.getElem?_cons_succ] at g0 g1
          have k0 := cell_regrown g0
          have k1 := cell_regrown g1
          clear hf hI g0 g1
          have hk0 : (0 : Int) ≤ (k : Int) := by omega
          have hk1 : (k : Int) < (l.length : Int) := by omega
          by_cases hfb : factB s r xs = true
          · have FB := Lib.hid hfb
            clear hfb
            have X1 := Lib.hid fun (W : World) (hW : Below (wr.alloc (.cells #[.int .i64 r, .slice B xs.length c2] 77)).heap.size (wr.alloc (.cells #[.int .i64 r, .slice B xs.length c2] 77)) W) => (show Calls Tryz.prog 103 #[.slice S s.length cs, .agg #[.int .i64 r, .slice B xs.length c2]] W fun e w' => e = .returned (.bool true) ∧ Below W.heap.size W w' by have := impl_IsFact_r S cs s r xs B c2 (by omega) (by omega) W (HV.out.step hW) (HX.out.step hW); rw [FB.out] at this; exact this)
            by_cases h0 : k = 0
            · have K0 := Lib.hid h0
              have d0 : decide ((0 : Int) < (k : Int)) = false := by simp; omega
              have d0' : ¬ ((0 : Int) < (k : Int)) := by omega
              have d0n : decide (0 < k) = false := by simp; omega
              have d0m : ¬ (0 < k) := by omega
              clear h0
              go_wp2
              refine wp_region_quiet_below (by kernel_rfl) (by kernel_rfl) ?_
              repeat (go_big_quiet_step (first | (go_at_call 103; exact Calls.regrown_of (X1.out _ (below_regrown _ _ _)))))
              refine wpQuiet_nil ?_
              intro u hw'
              have hb2 : Below w.heap.size w u := by obtain ⟨⟨dq, osq⟩, rfl⟩ := hw'; exact step hbv (below_regrown _ _ _)
              clear hw'
              go_wp2
              go_roundw
              case rel => exact ⟨k + 1, by omega, by go_num, by rw [allOk_succ, HA.out, okAt, HF.out, FB.out, K0.out]; rfl, hb2⟩
              case measure => simp [intOf]; omega
            · have K0 : 0 < k := by omega
              clear h0
              generalize hf' : l.getD (k - 1) (0, []) = f'
              obtain ⟨r', xs'⟩ := f'
              have HF' := Lib.hid hf'
              have hxl' : xs'.length ≤ 1048576 := by have := szF_elem hz (show k - 1 < l.length by omega); rw [hf'] at this; exact this
              obtain ⟨b', off', B', c2', hbb, _, e0', e1', _, _, hI'⟩ := (HJ.out.step hb).at_ (show k - 1 < l.length by omega) hf'
              injection hbb with hbb
              injection hbb with hb1 hb2
              subst hb1 hb2
              have HX' := Lib.hid (hI'.step bv)
              have k2 := cell_regrown ((World.cell?_alloc_lt wr (.cells #[.int .i64 r, .slice B xs.length c2] 77) _ n1).trans e0')
              have k3 := cell_regrown ((World.cell?_alloc_lt wr (.cells #[.int .i64 r, .slice B xs.length c2] 77) _ n1).trans e1')
              clear hf' hI'
              have d0 : decide ((0 : Int) < (k : Int)) = true := by simp; omega
              have d0' : (0 : Int) < (k : Int) := by omega
              have d0n : decide (0 < k) = true := by simp; omega
              have q0 : IntKind.i64.wrap ((k : Int) - 1) = (k : Int) - 1 := IntWalk.i64_in _ ⟨by omega, by omega⟩
              have q1 : (0 : Int) ≤ (k : Int) - 1 := by omega
              have q1' : (1 : Int) ≤ (k : Int) := by omega
              have q2 : ((k : Int) - 1).toNat = k - 1 := by omega
              have q3 : (k : Int) - 1 < (l.length : Int) := by omega
              have q5 : k ≤ l.length := by omega
              generalize hq : cmpF r' xs' r xs = q
              have HQ := Lib.hid hq
              clear hq
              have X2 := Lib.hid fun (W : World) (hW : Below (wr.alloc (.cells #[.int .i64 r, .slice B xs.length c2] 77)).heap.size (wr.alloc (.cells #[.int .i64 r, .slice B xs.length c2] 77)) W) => (show Calls Tryz.prog 104 #[.agg #[.int .i64 r', .slice B' xs'.length c2'], .agg #[.int .i64 r, .slice B xs.length c2]] W fun e w' => e = .returned (.int .i64 q) ∧ Below W.heap.size W w' by have := impl_CompareFacts r' r xs' xs B' B c2' c2 (by omega) (by omega) W (HX'.out.step hW) (HX.out.step hW); rw [HQ.out] at this; exact this)
              by_cases hcm : q < 0
              · have q4 : decide ((0 : Int) ≤ q) = false := by simp; omega
                have q4' : ¬ (0 : Int) ≤ q := by omega
                go_wp2
                refine wp_region_quiet_below (by kernel_rfl) (by kernel_rfl) ?_
                repeat (go_big_quiet_step (first | (go_at_call 103; exact Calls.regrown_of (X1.out _ (below_regrown _ _ _))) | (go_at_call 104; exact Calls.regrown_of (X2.out _ (below_regrown _ _ _)))))
                refine wpQuiet_nil ?_
                intro u hw'
                have hb2 : Below w.heap.size w u := by obtain ⟨⟨dq, osq⟩, rfl⟩ := hw'; exact step hbv (below_regrown _ _ _)
                clear hw'
                clear q0 q2
                go_wp2
                go_roundw
                case rel => exact ⟨k + 1, by omega, by go_num, by rw [allOk_succ, HA.out, okAt, HF.out, HF'.out, FB.out, HQ.out]; simp [hcm], hb2⟩
                case measure => simp [intOf]; omega
              · have q4 : decide ((0 : Int) ≤ q) = true := by simp; omega
                have q4' : (0 : Int) ≤ q := by omega
                go_wp2
                refine wp_region_quiet_below (by kernel_rfl) (by kernel_rfl) ?_
                repeat (go_big_quiet_step (first | (go_at_call 103; exact Calls.regrown_of (X1.out _ (below_regrown _ _ _))) | (go_at_call 104; exact Calls.regrown_of (X2.out _ (below_regrown _ _ _)))))
                refine wpQuiet_nil ?_
                intro u hw'
                have hb2 : Below w.heap.size w u := by obtain ⟨⟨dq, osq⟩, rfl⟩ := hw'; exact step hbv (below_regrown _ _ _)
                clear hw'
                go_wp2
                go_ret
                exact ⟨ret_bool (by unfold areB; rw [allOk_not s l k _ hlt (by rw [okAt, HF.out, HF'.out, HQ.out]; simp [hcm]; intro _; omega)]; rfl), hb2⟩
          · have FB := Lib.hid (show factB s r xs = false by simpa using hfb)
            clear hfb
            have X1 := Lib.hid fun (W : World) (hW : Below (wr.alloc (.cells #[.int .i64 r, .slice B xs.length c2] 77)).heap.size (wr.alloc (.cells #[.int .i64 r, .slice B xs.length c2] 77)) W) => (show Calls Tryz.prog 103 #[.slice S s.length cs, .agg #[.int .i64 r, .slice B xs.length c2]] W fun e w' => e = .returned (.bool false) ∧ Below W.heap.size W w' by have := impl_IsFact_r S cs s r xs B c2 (by omega) (by omega) W (HV.out.step hW) (HX.out.step hW); rw [FB.out] at this; exact this)
            go_wp2
            refine wp_region_quiet_below (by kernel_rfl) (by kernel_rfl) ?_
            repeat (go_big_quiet_step (first | (go_at_call 103; exact Calls.regrown_of (X1.out _ (below_regrown _ _ _)))))
            refine wpQuiet_nil ?_
            intro u hw'
            have hb2 : Below w.heap.size w u := by obtain ⟨⟨dq, osq⟩, rfl⟩ := hw'; exact step hbv (below_regrown _ _ _)
            clear hw'
            go_wp2
            go_ret
            exact ⟨ret_bool (by unfold areB; rw [allOk_not s l k _ hlt (by rw [okAt, HF.out, FB.out]; rfl)]; rfl), hb2⟩
        · obtain rfl : k = l.length := by omega
          go_wp2
          go_ret
          exact ⟨ret_bool (by unfold areB; rw [HA.out, SC.out, decide_eq_true h24]; rfl), hb⟩
    · have d24 : decide (24 < l.length) = true := by simp; omega
      have d24' : decide ((24 : Int) < (l.length : Int)) = true := by simp; omega
      have H : areB s l = false := by simp [areB, h24]
      rw [H]
      clear H
      go_enter Tryz.func57, Tryz.ntmps57
      go_wp2_with fail
      refine (impl_IsSchema _ _ S cs s (by omega) _ HI.out).mono ?_
      rintro e u ⟨he, rfl⟩
      rw [SC.out] at he
      subst he
      go_wp2
      go_ret
      exact ⟨rfl, Below.refl _ _⟩
  · have SC := Lib.hid (show schB s = false by simpa using hsc)
    have H : areB s l = false := by simp [areB, SC.out]
    rw [H]
    clear H hsc
    go_enter Tryz.func57, Tryz.ntmps57
    go_wp2_with fail
    refine (impl_IsSchema _ _ S cs s (by omega) _ HI.out).mono ?_
    rintro e u ⟨he, rfl⟩
    rw [SC.out] at he
    subst he
    go_wp2
    go_ret
    exact ⟨rfl, Below.refl _ _⟩
end Go.Proofs.YtimlpdcambmcjaaGreat

namespace Go.Proofs.YtimlpdcambmcjaaGreat
open Go.ChangeShapes Go.WideShapes Go.ChangeAt Go.RowKit Go.Sort
set_option linter.unusedVariables false
set_option linter.unusedSimpArgs false

theorem eq_arr3 (d : Nat) (a b c a' b' c' : Int) (w : World) : (Op.equalIn (d + 1 + 1) 126 (.agg #[.int .i64 a, .int .i64 b, .int .i64 c]) (.agg #[.int .i64 a', .int .i64 b', .int .i64 c'])).run Tryz.prog w = .ok (a == a' && b == b' && c == c') w := by
  have h3 := Tryz.underlying3
  have hu := Tryz.underlying126
  have hsz : ∀ w, (sizeOf 3).run Tryz.prog w = .ok 1 w := fun w => by
    obtain ⟨i0, hi, hz0, hz1, hz2⟩ := info_parts int_info
    simp [sizeOf, typeInfo, hi, hz1]
  have hp : ∀ (x y z : Int) (i : Nat) (hi : i < 3) (w : World), (part 3 #[.int .i64 x, .int .i64 y, .int .i64 z] i).run Tryz.prog w = .ok (#[Value.int .i64 x, .int .i64 y, .int .i64 z].getD i undef) w := fun x y z i hi w => by
    rcases (by omega : i = 0 ∨ i = 1 ∨ i = 2) with rfl | rfl | rfl <;> simp [part, isAgg, run_underlying h3]
  rw [Op.equalIn]
  simp only [Sem.run_bind, run_underlying hu, Result.andThen_ok, hsz, Std.Legacy.Range.forIn_eq_forIn_range', Std.Legacy.Range.size, Nat.sub_zero, Nat.add_sub_cancel, Nat.div_one, List.range']
  have e : ∀ (x y : Int) (w : World), (Op.equalIn (d + 1) 3 (.int .i64 x) (.int .i64 y)).run Tryz.prog w = .ok (x == y) w := fun x y w => run_equalIn_int w d 3 .i64 .i64 x y h3
  by_cases h1 : a = a' <;> by_cases h2 : b = b' <;> by_cases h4 : c = c' <;> simp [hp, e, h1, h2, h4]
theorem neq_arr3 (a b c a' b' c' : Int) (w : World) : (binOp .neq 126 (.agg #[.int .i64 a, .int .i64 b, .int .i64 c]) (.agg #[.int .i64 a', .int .i64 b', .int .i64 c'])).run Tryz.prog w = .ok (.bool (!(a == a' && b == b' && c == c'))) w := by
  rw [run_neq_struct, eq_arr3 9998]
  rfl

theorem take_more (xs ys : List Int) (hl : xs.length = ys.length) (k : Nat) (h : xs.take k = ys.take k) (he : xs.getD k 0 = ys.getD k 0) : xs.take (k + 1) = ys.take (k + 1) := by
  by_cases hk : k < xs.length
  · exact eq_take xs ys hl k hk h he
  · rw [List.take_of_length_le (by omega), List.take_of_length_le (by omega)] at h ⊢
    exact h
theorem take_differ (xs ys : List Int) (k : Nat) (h : xs.getD k 0 ≠ ys.getD k 0) : xs ≠ ys := by rintro rfl; exact h rfl

/-- The three cells of the block from place k on. -/
def cells3 (xs : List Int) (k : Nat) : List Value := ((xs.drop k).take 3).map (Value.int .i64)
theorem cells3_at (xs : List Int) (k j : Nat) (v : Value) (h : (cells3 xs k)[j]? = some v) : j < 3 ∧ k + j < xs.length ∧ v = .int .i64 (xs.getD (k + j) 0) := by
  unfold cells3 at h
  simp only [List.getElem?_map, List.getElem?_take, List.getElem?_drop, Option.map_eq_some_iff] at h
  obtain ⟨a, h, rfl⟩ := h
  split at h
  · rename_i h3
    have hlt : k + j < xs.length := (List.getElem?_eq_some_iff.1 h).1
    exact ⟨h3, hlt, by simp [List.getD_eq_getElem?_getD, h]⟩
  · cases h
theorem splice3_at (xs : List Int) (k : Nat) : splice [Value.int .i64 0, .int .i64 0, .int .i64 0] 0 (cells3 xs k) = [.int .i64 (xs.getD k 0), .int .i64 (xs.getD (k + 1) 0), .int .i64 (xs.getD (k + 2) 0)] := by
  unfold splice cells3
  have e0 : xs.getD k 0 = (xs.drop k).getD 0 0 := by simp [List.getD_eq_getElem?_getD]
  have e1 : xs.getD (k + 1) 0 = (xs.drop k).getD 1 0 := by simp [List.getD_eq_getElem?_getD]
  have e2 : xs.getD (k + 2) 0 = (xs.drop k).getD 2 0 := by simp [List.getD_eq_getElem?_getD]
  rw [e0, e1, e2]
  generalize xs.drop k = ys
  match ys with
  | [] => rfl
  | [_] => rfl
  | [_, _] => rfl
  | _ :: _ :: _ :: _ => simp

end Go.Proofs.YtimlpdcambmcjaaGreat

namespace Go.Proofs.YtimlpdcambmcjaaGreat
open Go.ChangeShapes Go.WideShapes Go.ChangeAt Go.RowKit Go.Sort
set_option linter.unusedVariables false
set_option linter.unusedSimpArgs false

def sameB (r : Int) (xs : List Int) (r' : Int) (ys : List Int) : Bool := decide (r = r') && decide (xs = ys)

def hasB (l : FL) (r : Int) (xs : List Int) : Bool := l.any fun g => sameB g.1 g.2 r xs
theorem hasB_take (l : FL) (r : Int) (xs : List Int) (k : Nat) (hk : k < l.length) : hasB (l.take (k + 1)) r xs = (hasB (l.take k) r xs || sameB (l.getD k (0, [])).1 (l.getD k (0, [])).2 r xs) := by
  unfold hasB
  rw [List.take_succ_eq_append_getElem hk, List.any_append]
  simp [List.getD_eq_getElem?_getD, hk]
theorem hasB_found (l : FL) (r : Int) (xs : List Int) (k : Nat) (hk : k < l.length) (h : sameB (l.getD k (0, [])).1 (l.getD k (0, [])).2 r xs = true) : hasB l r xs = true := by
  unfold hasB
  rw [List.any_eq_true]
  refine ⟨l[k], List.getElem_mem _, ?_⟩
  have : l.getD k (0, []) = l[k] := by simp [List.getD_eq_getElem?_getD, hk]
  rw [this] at h
  exact h
theorem cmp_same (r : Int) (xs : List Int) (r' : Int) (ys : List Int) : (cmpF r xs r' ys == 0) = sameB r xs r' ys := by
  rw [Bool.eq_iff_iff]
  have := cmpF_zero r xs r' ys
  simp [sameB, this]

set_option maxRecDepth 100000 in
set_option maxHeartbeats 1000000 in
theorem spec_HasFact (A : Option Addr) (c : Nat) (l : FL) (r : Int) (xs : List Int) (A' : Option Addr) (c' : Nat) (hz : szF l ≤ 1048576) (hl2 : xs.length ≤ 1048576) (w : World) (h : RF w A l) (h' : RI w A' xs) :
    Calls Tryz.prog 171 #[.slice A l.length c, .agg #[.int .i64 r, .slice A' xs.length c']] w fun e w' => e = .returned (.bool (hasB l r xs)) ∧ Below w.heap.size w w' := by
  have hl := szF_len hz
  have hl' : (l.length : Int) ≤ 1048576 := by omega
  have B0 := Lib.hid (below_alloc w (.cells #[.int .i64 r, .slice A' xs.length c'] 77))
  have HI := Lib.hid (h.step B0.out)
  have HJ := Lib.hid (h'.step B0.out)
  have X0 := Lib.hid (Box.new w #[.int .i64 r, .slice A' xs.length c'] 77)
  clear h h'
  go_enter Tryz.func171, Tryz.ntmps171
  go_wp2
  go_loopw [5] (fun i wr => ∃ k : Nat, k ≤ l.length ∧ i = .int .i64 k ∧ hasB (l.take k) r xs = false ∧ Below (w.alloc (.cells #[.int .i64 r, .slice A' xs.length c'] 77)).heap.size (w.alloc (.cells #[.int .i64 r, .slice A' xs.length c'] 77)) wr) (fun i _ => l.length - (intOf i).toNat)
  case atStart => exact ⟨0, by omega, rfl, rfl, Below.refl _ _⟩
  case round =>
    obtain ⟨k, hk, rfl, ha, hb⟩ := hrel
    have HA := Lib.hid ha
    clear ha
    by_cases hlt : k < l.length
    · generalize hf : l.getD k (0, []) = f
      obtain ⟨r2, xs2⟩ := f
      have HF := Lib.hid hf
      have hxl : xs2.length ≤ 1048576 := by have := szF_elem hz hlt; rw [hf] at this; exact this
      obtain ⟨b, off, B, c2, rfl, n1, e0, e1, hxc, hcm, hI⟩ := (HI.out.step hb).at_ hlt hf
      have Z := X0.out.step hb
      have g0 := Z.cell 0
      have g1 := Z.cell 1
      simp only [List.getElem?_toArray, List.getElem?_cons_zero, List.getElem?_cons_succ] at g0 g1
      have k0 := cell_regrown e0
      have k1 := cell_regrown e1
      have k2 := cell_regrown g0
      have k3 := cell_regrown g1
      have HX := Lib.hid hI
      have HY := Lib.hid (HJ.out.step hb)
      have hk0 : (0 : Int) ≤ (k : Int) := by omega
      have hk1 : (k : Int) < (l.length : Int) := by omega
      have CS := Lib.hid (cmp_same r2 xs2 r xs)
      generalize hq : cmpF r2 xs2 r xs = q at CS
      have HQ := Lib.hid hq
      clear hI hf Z hq e0 e1 g0 g1
      have X1 := Lib.hid fun (W : World) (hW : Below wr.heap.size wr W) => (show Calls Tryz.prog 135 #[.agg #[.int .i64 r2, .slice B xs2.length c2], .agg #[.int .i64 r, .slice A' xs.length c']] W fun e w' => e = .returned (.int .i64 q) ∧ Below W.heap.size W w' by have := spec_CompareFacts r2 r xs2 xs B A' c2 c' (by omega) (by omega) W (HX.out.step hW) (HY.out.step hW); rw [HQ.out] at this; exact this)
      by_cases hs : q = 0
      · have d0 : (q == 0) = true := by simpa using hs
        have HS := Lib.hid (show sameB r2 xs2 r xs = true by rw [← CS.out]; exact d0)
        clear hs
        go_wp2
        refine wp_region_quiet_below (by kernel_rfl) (by kernel_rfl) ?_
        repeat (go_big_quiet_step (first | (go_at_call 135; with_reducible exact Calls.regrown_of (X1.out _ (below_regrown _ _ _)))))
        refine wpQuiet_nil ?_
        intro u hw'
        have hb2 := step hb (show Below wr.heap.size wr u by obtain ⟨⟨dq, osq⟩, rfl⟩ := hw'; exact below_regrown _ _ _)
        clear hw' k0 k1 k2 k3
        go_wp2
        go_ret
        exact ⟨ret_bool (hasB_found l r xs k hlt (by rw [HF.out]; exact HS.out)).symm, step B0.out hb2⟩
      · have d0 : (q == 0) = false := by simpa using hs
        have HS := Lib.hid (show sameB r2 xs2 r xs = false by rw [← CS.out]; exact d0)
        clear hs
        go_wp2
        refine wp_region_quiet_below (by kernel_rfl) (by kernel_rfl) ?_
        repeat (go_big_quiet_step (first | (go_at_call 135; with_reducible exact Calls.regrown_of (X1.out _ (below_regrown _ _ _)))))
        refine wpQuiet_nil ?_
        intro u hw'
        have hb2 := step hb (show Below wr.heap.size wr u by obtain ⟨⟨dq, osq⟩, rfl⟩ := hw'; exact below_regrown _ _ _)
        clear hw' k0 k1 k2 k3
        go_wp2
        go_roundw
        case rel => exact ⟨k + 1, by omega, by go_num, by rw [hasB_take _ _ _ _ hlt, HA.out, HF.out, HS.out]; rfl, hb2⟩
        case measure => simp [intOf]; omega
    · obtain rfl : k = l.length := by omega
      go_wp2
      go_ret
      exact ⟨ret_bool (by have := HA.out; rw [take_all] at this; exact this.symm), step B0.out hb⟩
end Go.Proofs.YtimlpdcambmcjaaGreat

namespace Go.Proofs.YtimlpdcambmcjaaGreat
open Go.ChangeShapes Go.WideShapes Go.ChangeAt Go.RowKit Go.Sort
set_option linter.unusedVariables false
set_option linter.unusedSimpArgs false

def sameL (us bs : FL) : Bool := decide (us = bs)
theorem fl_take (us bs : FL) (hl : us.length = bs.length) (k : Nat) (hk : k < us.length) (h : us.take k = bs.take k) {r r' : Int} {xs ys : List Int} (ha : us.getD k (0, []) = (r, xs)) (hb : bs.getD k (0, []) = (r', ys)) (hs : sameB r xs r' ys = true) : us.take (k + 1) = bs.take (k + 1) := by
  rw [List.take_succ_eq_append_getElem hk, List.take_succ_eq_append_getElem (by omega), h]
  have h1 : us[k] = us.getD k (0, []) := by simp [List.getD_eq_getElem?_getD, hk]
  have h2 : bs[k]'(by omega) = bs.getD k (0, []) := by simp [List.getD_eq_getElem?_getD, show k < bs.length by omega]
  rw [h1, h2, ha, hb]
  simp [sameB] at hs
  rw [hs.1, hs.2]
theorem fl_differ (us bs : FL) (k : Nat) {r r' : Int} {xs ys : List Int} (ha : us.getD k (0, []) = (r, xs)) (hb : bs.getD k (0, []) = (r', ys)) (hs : sameB r xs r' ys = false) : sameL us bs = false := by
  unfold sameL
  rw [decide_eq_false]
  rintro rfl
  rw [ha] at hb
  injection hb with h1 h2
  subst h1 h2
  simp [sameB] at hs

end Go.Proofs.YtimlpdcambmcjaaGreat

namespace Go.Proofs.YtimlpdcambmcjaaGreat
open Go.ChangeShapes Go.WideShapes Go.ChangeAt Go.RowKit Go.Sort
set_option linter.unusedVariables false
set_option linter.unusedSimpArgs false

theorem add_eq (b off j : Nat) : (⟨b, off, none⟩ : Addr).add j = ⟨b, off + j, none⟩ := by unfold Addr.add; split <;> simp_all

theorem own_some {g n c k : Nat} (h : (Value.slice (some ⟨g, 0, none⟩) n c).ownBlock = some k) : g = k := by simpa [Value.ownBlock] using h

/-- append(v, s...) onto a row of the call's own, s a list of numbers that is read, nil or not. -/
theorem wpList_append_nums {P : Program} {w : World} {ops : Array Oper} {rest : List Oper} {o : Oper} {a : Act} {Q : Exit → Act → World → Prop} (hgd : o.guard = none) (s x : Operand) (t : TypeId)
    (ho : o.op = .call { callee := .builtin .append, args := #[s, x], argTypes := #[t, t] })
    (base : Nat) (e : TypeId) (i : TypeInfo) (ht : P.underlying t = some (.slice e)) (hi : P.info? e = some i) (hz : i.zero = some (.int .i64 0)) (hz1 : i.size = 1) (hz2 : i.bytes = 8)
    (v : Value) (n : Nat) (cs : List Value) (hs : a.eval s = v) (hown : w.ownsRow base e 1 v n cs) (lo hi' : Nat) (A : Option Addr) (c : Nat) (xs : List Int) (hx : a.eval x = .slice A xs.length c) (hr : Ints w lo hi' A xs)
    (hn : n + xs.length ≤ 17592186044416) (hbase : base ≤ w.heap.size)
    (h : ∀ v' w', w'.ownsRow base e 1 v' (n + xs.length) (cs ++ xs.map (Value.int .i64)) → w.grownBy w' v.ownBlock → (v'.ownBlock = v.ownBlock ∨ v'.ownBlock = some w.heap.size) → wpList P ops Q rest (a.put o.dst v') w') :
    wpList P ops Q (o :: rest) a w := by
  rcases A with _ | ad
  · have hx0 : xs = [] := by
      rcases xs with _ | ⟨y, ys⟩
      · rfl
      · obtain ⟨b, off, h1, _⟩ := hr (by simp)
        cases h1
    subst hx0
    refine wpList_plain hgd fun K hK => ?_
    have hrun : (Builtin.append_ #[t, t] o.type #[v, .slice none 0 c]).run P w = .ok v w := by
      rcases hown.2 with ⟨rfl, rfl⟩ | ⟨g, cap, cur, rfl, _, _, hnc, _⟩
      · simp [Builtin.append_, run_underlying ht, sizeOf, typeInfo, hi, Builtin.lenOf, Builtin.firstCells]
      · simp [Builtin.append_, run_underlying ht, sizeOf, typeInfo, hi, Builtin.lenOf, Builtin.firstCells, hnc, storeCells]
    unfold Oper.wp execOp
    simp only [List.length_nil] at hx
    simp only [ho, resolve, invoke, builtin, Sem.run_bind, Sem.run_pure, Result.andThen_ok, List.map_toArray, List.map_cons, List.map_nil, hs, hx, hrun]
    exact hK _ _ (h v w (by simpa using hown) (World.grownBy.refl w _) (.inl rfl))
  · refine wpList_append_own_at w hgd s x t ho base e i (.int .i64 0) 1 8 ht hi hz hz1 hz2 rfl (by omega) v n cs hs hown ad xs.length c (xs.map (Value.int .i64)) hx (by simp) (fun j u hj => ?_) (fun u hu => ?_) (by unfold maxLen; omega) (by omega) hbase
      fun v' w' h1 h2 _ h3 => h v' w' h1 h2 h3
    · have hj' : j < xs.length := by have := (List.getElem?_eq_some_iff.1 hj).1; simpa using this
      obtain ⟨b, off, h1, _, _, h4⟩ := hr (by rintro rfl; simp at hj')
      injection h1 with h1
      subst h1
      rw [add_eq, h4 j hj']
      rw [List.getElem?_map, List.getElem?_eq_getElem hj'] at hj
      injection hj with hj
      subst hj
      simp [List.getD_eq_getElem?_getD, hj']
    · simp only [List.mem_map] at hu
      obtain ⟨y, _, rfl⟩ := hu
      rfl

/-- A row of the call's own that holds the numbers xs. -/
theorem ownV_of_row {w : World} {base : Nat} {v : Value} {n : Nat} {xs : List Int} (h : w.ownsRow base 3 1 v n (xs.map (Value.int .i64))) : ∃ q, OwnV w base w.heap.size v q xs := by
  have hl : n = xs.length := by have := h.1; simp at this; omega
  rcases h.2 with ⟨rfl, h0⟩ | ⟨g, cap, cur, rfl, hb, hg, hnc, hcm, hcs, htk⟩
  · have hx : xs = [] := List.eq_nil_of_length_eq_zero (by omega)
    subst hx
    exact ⟨0, none, 0, by simp, Nat.le_refl _, by unfold maxLen; omega, fun h => absurd h (by simp)⟩
  · subst hl
    have hlt : g < w.heap.size := by
      rcases Nat.lt_or_ge g w.heap.size with hlt | hge
      · exact hlt
      · rw [Array.getElem?_eq_none hge] at hg; cases hg
    refine ⟨g, _, _, rfl, hnc, hcm, fun _ => ⟨rfl, hb, hlt, cap, fun i => cur.getD i undef, hnc, ⟨cur, hg, by omega, fun i hi => ?_⟩, fun i hi => ?_⟩⟩
    · simp [Array.getD_eq_getD_getElem?, show i < cur.size by omega]
    · have h1 : (cur.toList.take (xs.length * 1))[i]? = (xs.map (Value.int .i64))[i]? := by rw [htk]
      rw [Nat.mul_one, List.getElem?_take_of_lt hi, List.getElem?_map, List.getElem?_eq_getElem hi] at h1
      simp only [Array.getD_eq_getD_getElem?, List.getD_eq_getElem?_getD]
      rw [Array.getElem?_toList] at h1
      rw [h1, List.getElem?_eq_getElem hi]
      rfl

theorem OwnV.form {w : World} {lo hi q : Nat} {v : Value} {xs : List Int} (h : OwnV w lo hi v q xs) : ∃ A c, v = .slice A xs.length c ∧ xs.length ≤ c ∧ c ≤ maxLen := by
  obtain ⟨A, c, e, h1, h2, _⟩ := h
  exact ⟨A, c, e, h1, h2⟩
def CopyI (w : World) (xs : List Int) (e : Ending) (w' : World) : Prop := ∃ A c q, e = .returned (.slice A xs.length c) ∧ OwnV w' w.heap.size w'.heap.size (.slice A xs.length c) q xs ∧ Below w.heap.size w w'

set_option maxRecDepth 100000 in
set_option maxHeartbeats 400000 in
theorem clone_any (A : Option Addr) (c : Nat) (xs : List Int) (hl : xs.length ≤ 1048576) (w : World) (h : RI w A xs) :
    Calls Tryz.prog 83 #[.slice A xs.length c] w (CopyI w xs) := by
  obtain ⟨i0, hi, hz0, hz1, hz2⟩ := info_parts int_info
  have hq := fun (W : World) (n c : Nat) => Lib.run_eql_slice_nil (P := Tryz.prog) W 22 3 A n c 0 0 Tryz.underlying22
  rcases A with _ | ad
  · have hx0 : xs = [] := by
      rcases xs with _ | ⟨y, ys⟩
      · rfl
      · obtain ⟨b, off, h1, _⟩ := h (by simp)
        cases h1
    subst hx0
    go_enter Tryz.func83, Tryz.ntmps83
    go_wp2
    go_ret
    exact ⟨none, 0, 0, rfl, ⟨none, 0, by simp, Nat.le_refl _, by unfold maxLen; omega, fun h => absurd h (by simp)⟩, Below.refl _ _⟩
  · have HI := Lib.hid (h.step (below_alloc w (.cells #[] 3)))
    clear h
    go_enter Tryz.func83, Tryz.ntmps83
    go_wp2_with (at_builtin; refine wpList_append_nums rfl _ _ 22 rfl w.heap.size 3 i0 Tryz.underlying22 hi hz0 hz1 hz2 (.slice (some ⟨w.heap.size, 0, none⟩) 0 0) 0 [] rfl (World.ownsRow_lit _ #[] 0 (Nat.le_refl _) (by unfold maxLen; omega) rfl) _ _ (some ad) c xs rfl HI.out (by omega) (by simp) ?_; intro v' w' hown hg hat
                 have hown' : w'.ownsRow w.heap.size 3 1 v' (0 + xs.length) (xs.map (Value.int .i64)) := by simpa using hown
                 obtain ⟨q, hv⟩ := ownV_of_row hown'
                 obtain ⟨A2, c2, rfl, _, _⟩ := hv.form
                 have HV := Lib.hid hv
                 have HG := Lib.hid hg
                 clear hown hown' hv hg hat)
    go_ret
    exact ⟨_, _, q, rfl, HV.out, (below_alloc w _).grown HG.out (by simp) (fun k hk => Nat.le_of_eq (by simpa [Value.ownBlock] using hk))⟩


def CopyF (w : World) (r : Int) (xs : List Int) (e : Ending) (w' : World) : Prop := ∃ A c q, e = .returned (.agg #[.int .i64 r, .slice A xs.length c]) ∧ OwnV w' w.heap.size w'.heap.size (.slice A xs.length c) q xs ∧ Below w.heap.size w w'

theorem OwnV.step {w w' : World} {lo q : Nat} {v : Value} {xs : List Int} (h : OwnV w lo w.heap.size v q xs) (b : Below w.heap.size w w') : OwnV w' lo w'.heap.size v q xs :=
  (h.keep fun _ h2 _ => b.block _ h2).mono (Nat.le_refl _) b.size

set_option maxRecDepth 100000 in
set_option maxHeartbeats 400000 in
theorem l2One_any (r : Int) (A : Option Addr) (c : Nat) (xs : List Int) (hl : xs.length ≤ 1048576) (w : World) (h : RI w A xs) :
    Calls Tryz.prog 172 #[.int .i64 r, .slice A xs.length c] w (CopyF w r xs) := by
  obtain ⟨i0, hi, hz0, hz1, hz2⟩ := info_parts int_info
  have B1 := below_alloc w (.cells #[.int .i64 0, .slice none 0 0] 77)
  have HI := Lib.hid ((h.step B1).step (below_alloc _ (.cells #[] 3)))
  have HB1 := Lib.hid B1
  clear h B1
  go_enter Tryz.func172, Tryz.ntmps172
  go_wp2_with (at_builtin; refine wpList_append_nums rfl _ _ 22 rfl (w.heap.size + 1) 3 i0 Tryz.underlying22 hi hz0 hz1 hz2 (.slice (some ⟨w.heap.size + 1, 0, none⟩) 0 0) 0 [] rfl (by have := World.ownsRow_lit (base := w.heap.size + 1) (e := 3) (size := 1) (w.alloc (.cells #[.int .i64 0, .slice none 0 0] 77)) #[] 0 (by simp) (by unfold maxLen; omega) rfl; rw [al_size] at this; exact this) _ _ A c xs rfl HI.out (by omega) (by simp) ?_; intro v' w' hown hg hat
               have hown' : w'.ownsRow (w.heap.size + 1) 3 1 v' (0 + xs.length) (xs.map (Value.int .i64)) := by simpa using hown
               obtain ⟨q, hv⟩ := ownV_of_row hown'
               obtain ⟨A2, c2, rfl, _, _⟩ := hv.form
               have HV := Lib.hid hv
               have HG := Lib.hid hg
               have X4 : Box w' w.heap.size #[.int .i64 0, .slice none 0 0] 77 := (hg.block w.heap.size (by simp <;> omega) (by simp [Value.ownBlock])).trans ((Box.new w _ _).step (below_alloc _ _))
               have g0 := X4.cell 0
               have g1 := X4.cell 1
               have g2 := X4.frozen 0
               have g3 := X4.frozen 1
               simp only [List.getElem?_toArray, List.getElem?_cons_zero, List.getElem?_cons_succ] at g0 g1
               have HX4 := Lib.hid X4
               clear hown hown' hv hg hat X4)
  have hlt := HX4.out.lt
  have HB := Lib.hid (show Below w.heap.size w w' from (step HB1.out (below_alloc _ (.cells #[] 3))).grown HG.out (by (try simp) <;> omega) (fun k hk => by have := own_some hk; omega))
  refine bodyPost_ret (v := .agg #[.int .i64 r, .slice A2 xs.length c2]) (by simp [results, Tryz.results172, go_sem, g0, g1]) rfl ⟨A2, c2, q, rfl, ?_, ?_⟩
  · rw [size2]
    exact (HV.out.keep fun h1 _ _ => (Below.heap_setCell _ ⟨w.heap.size, 1, none⟩ _ q (by (try simp) <;> omega)).trans (Below.heap_setCell _ ⟨w.heap.size, 0, none⟩ _ q (by (try simp) <;> omega))).mono (by omega) (Nat.le_refl _)
  · exact Below.setCell (Below.setCell HB.out (by simp) _) (by simp) _

set_option maxRecDepth 100000 in
set_option maxHeartbeats 400000 in
theorem copyFact_any (r : Int) (A : Option Addr) (c : Nat) (xs : List Int) (hl : xs.length ≤ 1048576) (w : World) (h : RI w A xs) :
    Calls Tryz.prog 154 #[.agg #[.int .i64 r, .slice A xs.length c]] w (CopyF w r xs) := by
  have B0 := step (below_alloc w (.cells #[.int .i64 r, .slice A xs.length c] 77)) (below_alloc _ (.cells #[.int .i64 0, .slice none 0 0] 77))
  have HI := Lib.hid (h.step B0)
  have HB0 := Lib.hid B0
  have X0 : Box ((w.alloc (.cells #[.int .i64 r, .slice A xs.length c] 77)).alloc (.cells #[.int .i64 0, .slice none 0 0] 77)) w.heap.size #[.int .i64 r, .slice A xs.length c] 77 := (Box.new _ _ _).step (below_alloc _ _)
  have X1 : Box ((w.alloc (.cells #[.int .i64 r, .slice A xs.length c] 77)).alloc (.cells #[.int .i64 0, .slice none 0 0] 77)) (w.heap.size + 1) #[.int .i64 0, .slice none 0 0] 77 := by simpa using Box.new (w.alloc (.cells #[.int .i64 r, .slice A xs.length c] 77)) #[.int .i64 0, .slice none 0 0] 77
  have HX1 := Lib.hid X1
  have g0 := X0.cell 0
  have g1 := X0.cell 1
  simp only [List.getElem?_toArray, List.getElem?_cons_zero, List.getElem?_cons_succ] at g0 g1
  clear h B0 X0 X1
  go_enter Tryz.func154, Tryz.ntmps154
  go_wp2
  go_region_held3 (fun w' => w'.cell? ⟨w.heap.size, 0, none⟩ = some (.int .i64 r) ∧ w'.cell? ⟨w.heap.size, 1, none⟩ = some (.slice A xs.length c))
    (first
      | go_keep
      | (go_split_ands; refine ⟨?_, ?_⟩ <;> (rw [d.cell (by (try simp) <;> omega)]; assumption)))
    (first
      | (go_at_call 83; refine (clone_any A c xs hl _ (by first | exact HI.out | exact HI.out.step (below_drew _))).mono ?_; rintro e u ⟨A2, c2, q, rfl, hv, d⟩
         have b2 := (by first | exact d | exact und d : Below ((w.alloc (.cells #[.int .i64 r, .slice A xs.length c] 77)).alloc (.cells #[.int .i64 0, .slice none 0 0] 77)).heap.size ((w.alloc (.cells #[.int .i64 r, .slice A xs.length c] 77)).alloc (.cells #[.int .i64 0, .slice none 0 0] 77)) u)
         have X4 := HX1.out.step b2
         have q0 := X4.cell 0
         have q1 := X4.cell 1
         have q2 := X4.frozen 0
         have q3 := X4.frozen 1
         simp only [List.getElem?_toArray, List.getElem?_cons_zero, List.getElem?_cons_succ] at q0 q1
         have q4 := X4.lt
         have HV := Lib.hid hv
         have HB2 := Lib.hid (step HB0.out b2)
         clear hv b2 X4))
  go_wp2
  refine bodyPost_ret (v := .agg #[.int .i64 r, .slice A2 xs.length c2]) (by simp [results, Tryz.results154, go_sem, q0, q1, q2, q3]) rfl ⟨A2, c2, q, rfl, ?_, ?_⟩
  · rw [size2]
    exact (HV.out.keep fun h1 _ _ => (Below.heap_setCell _ ⟨w.heap.size + 1, 1, none⟩ _ q (by (try simp at h1 ⊢); omega)).trans (Below.heap_setCell _ ⟨w.heap.size + 1, 0, none⟩ _ q (by (try simp at h1 ⊢); omega))).mono (by (try simp) <;> omega) (Nat.le_refl _)
  · exact Below.setCell (Below.setCell HB2.out (by (try simp) <;> omega) _) (by (try simp) <;> omega) _

/-- A list of facts of the call's own, at the head of block g; the numbers' blocks lie from lo on. -/
def CopyL (w : World) (fs : FL) (e : Ending) (w' : World) : Prop :=
  e = .returned (.slice (some ⟨w.heap.size, 0, none⟩) fs.length fs.length) ∧ OwnP w' w.heap.size w'.heap.size w.heap.size (fs.length * 2) fs.length fs ∧ Below w.heap.size w w' ∧ w.heap.size < w'.heap.size

end Go.Proofs.YtimlpdcambmcjaaGreat
