/- What the program's IsMethod answers. Conditions: none beyond each theorem's own. -/
import Derived.Test.YtcfnmcemeejbeaaDoorMthN
namespace Go.Proofs.YtcfnmcemeejbeaaDoor
open Go.ChangeShapes Go.WideShapes Go.ChangeAt Go.RowKit Go.Sort
set_option linter.unusedVariables false
set_option linter.unusedSimpArgs false

set_option maxHeartbeats 2000000 in
set_option maxRecDepth 100000 in
theorem areInputs_any (A : Option Addr) (c : Nat) (xs : List Int) (a : Int) (ha1 : 0 ≤ a) (ha2 : a ≤ 1000) (hl : xs.length ≤ 1048576) (w : World) (h : RI w A xs) :
    Calls Tryd.prog 60 #[.slice A xs.length c, .int .i64 a] w fun e w' => e = .returned (.bool (inpB a xs)) ∧ Below w.heap.size w w' := by
  have hx' : (xs.length : Int) ≤ 1048576 := by omega
  have HJ := Lib.hid h
  clear h
  go_enter Tryd.func60, Tryd.ntmps60
  go_wp2
  go_loopw [5, 6, 9] (fun _ _ i wr => ∃ j : Nat, j ≤ xs.length ∧ i = .int .i64 j ∧ inpN a xs j = true ∧ Hid (Below w.heap.size w wr)) (fun _ _ i _ => xs.length - (intOf i).toNat)
  case atStart => exact ⟨0, by omega, rfl, rfl, Lib.hid (Below.refl _ _)⟩
  case round =>
    obtain ⟨j, hj, rfl, ha, hb⟩ := hrel
    have HA := Lib.hid ha
    clear ha
    by_cases hlt : j < xs.length
    · obtain ⟨b2, off2, rfl, nb2, hc2⟩ := (HJ.out.step hb.out).at_ hlt
      generalize hx : xs.getD j 0 = x at hc2
      have HX := Lib.hid hx
      clear hx
      have hj0 : (0 : Int) ≤ (j : Int) := by omega
      have hj1 : (j : Int) < (xs.length : Int) := by omega
      by_cases hin : inB x 0 (a - 1) = true
      · have HN := Lib.hid hin
        clear hin
        by_cases h0 : j = 0
        · have IA := Lib.hid (show inpAt a xs j = true by unfold inpAt; rw [HX.out, HN.out, decide_eq_true h0]; rfl)
          have d0 : decide ((0 : Int) < (j : Int)) = false := by simp; omega
          have d0' : ¬ ((0 : Int) < (j : Int)) := by omega
          have d0n : decide (0 < j) = false := by simp; omega
          have d0m : ¬ (0 < j) := by omega
          clear h0
          go_wp2_with fail
          refine (isBetween_any x 0 (a - 1) _).mono ?_
          rintro e w' ⟨he, rfl⟩
          rw [HN.out] at he
          subst he
          go_wp2
          go_roundw
          case rel => exact ⟨j + 1, by omega, by go_num, by rw [inpN_succ, HA.out, IA.out]; rfl, hb⟩
          case measure => simp [intOf]; omega
        · have hp : j - 1 < xs.length := by omega
          obtain ⟨b3, off3, hbb, _, hc3⟩ := (HJ.out.step hb.out).at_ hp
          injection hbb with hbb
          injection hbb with hb1 hb2
          subst hb1 hb2
          generalize hx' : xs.getD (j - 1) 0 = x' at hc3
          have HX' := Lib.hid hx'
          clear hx'
          have J0 := Lib.hid h0
          have d0 : decide ((0 : Int) < (j : Int)) = true := by simp; omega
          have d0' : (0 : Int) < (j : Int) := by omega
          have d0n : decide (0 < j) = true := by simp; omega
          have q0 : IntKind.i64.wrap ((j : Int) - 1) = (j : Int) - 1 := IntWalk.i64_in _ ⟨by omega, by omega⟩
          have q1 : (0 : Int) ≤ (j : Int) - 1 := by omega
          have q1' : (1 : Int) ≤ (j : Int) := by omega
          have q2 : ((j : Int) - 1).toNat = j - 1 := by omega
          have q3 : (j : Int) - 1 < (xs.length : Int) := by omega
          have q5 : j ≤ xs.length := by omega
          clear h0
          by_cases hlt2 : x' < x
          · have d4 : decide (x ≤ x') = false := by simp; omega
            have d4' : ¬ (x ≤ x') := by omega
            have IA := Lib.hid (show inpAt a xs j = true by unfold inpAt; rw [HX.out, HX'.out, HN.out, decide_eq_true hlt2]; simp)
            clear hlt2
            go_wp2_with fail
            refine (isBetween_any x 0 (a - 1) _).mono ?_
            rintro e w' ⟨he, rfl⟩
            rw [HN.out] at he
            subst he
            go_wp2
            go_roundw
            case rel => exact ⟨j + 1, by omega, by go_num, by rw [inpN_succ, HA.out, IA.out]; rfl, hb⟩
            case measure => simp [intOf]; omega
          · have d4 : decide (x ≤ x') = true := by simp; omega
            have d4' : x ≤ x' := by omega
            have IA := Lib.hid (show inpAt a xs j = false by unfold inpAt; rw [HX.out, HX'.out, HN.out, decide_eq_false hlt2, decide_eq_false J0.out]; rfl)
            clear hlt2
            go_wp2_with fail
            refine (isBetween_any x 0 (a - 1) _).mono ?_
            rintro e w' ⟨he, rfl⟩
            rw [HN.out] at he
            subst he
            go_wp2
            go_ret
            exact ⟨ret_bool (inpN_not a xs j _ hlt IA.out).symm, hb.out⟩
      · have HN := Lib.hid (show inB x 0 (a - 1) = false by simpa using hin)
        clear hin
        have IA := Lib.hid (show inpAt a xs j = false by unfold inpAt; rw [HX.out, HN.out]; rfl)
        go_wp2_with fail
        refine (isBetween_any x 0 (a - 1) _).mono ?_
        rintro e w' ⟨he, rfl⟩
        rw [HN.out] at he
        subst he
        go_wp2
        go_ret
        exact ⟨ret_bool (inpN_not a xs j _ hlt IA.out).symm, hb.out⟩
    · obtain rfl : j = xs.length := by omega
      go_wp2
      go_ret
      exact ⟨ret_bool HA.out.symm, hb.out⟩

end Go.Proofs.YtcfnmcemeejbeaaDoor
