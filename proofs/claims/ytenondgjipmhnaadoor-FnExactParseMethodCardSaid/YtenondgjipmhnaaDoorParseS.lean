/- What the model's ParseInt answers. Conditions: none beyond each theorem's own. -/
import Derived.Test.YtenondgjipmhnaaDoorParse
namespace Go.Proofs.YtenondgjipmhnaaDoor
open Go.ChangeShapes Go.WideShapes Go.ChangeAt Go.RowKit
set_option linter.unusedVariables false

theorem ret_ib {a b : Int} {p q : Bool} (h : a = b) (k : p = q) : Ending.returned (.tuple #[.int .i64 a, .bool p]) = .returned (.tuple #[.int .i64 b, .bool q]) := by rw [h, k]

set_option maxRecDepth 100000 in
set_option maxHeartbeats 400000 in
theorem spec_ParseInt (s : ByteArray) (hm : s.size ≤ 1048576) (w : World) :
    Calls Tryd.prog 48 #[.string s] w fun e w' => e = .returned (.tuple #[.int .i64 (parN s), .bool (parB s)]) ∧ Below w.heap.size w w' := by
  have hm' : (s.size : Int) ≤ 1048576 := by omega
  have hg := get_bn s
  go_enter Tryd.func48, Tryd.ntmps48
  go_wp2
  go_loop [4, 5, 6] (fun n k i => ∃ j : Nat, j ≤ min s.size 11 ∧ i = .int .i64 j ∧ n = .int .i64 (pn s j) ∧ k = .int .i64 (pk s j)) (fun _ _ i => 11 - (intOf i).toNat)
  case atStart => exact ⟨0, by omega, rfl, rfl, rfl⟩
  case round =>
    obtain ⟨j, hj, rfl, rfl, rfl⟩ := hrel
    have hb := bn_le s j
    have hn := pn_le s (show j ≤ 11 by omega)
    have hn' : ((pn s j : Nat) : Int) ≤ 99999999999 := by omega
    have hk := pk_le s j
    clear hn
    by_cases hlt : j < s.size
    · by_cases h11 : j < 11
      · have P := Lib.hid (pn_succ s j)
        have K := Lib.hid (pk_succ s j)
        by_cases d1 : 48 ≤ bn s j
        · by_cases d2 : bn s j ≤ 57
          · have D : Hid (isD (bn s j)) := Lib.hid ⟨d1, d2⟩
            go_wp2
            go_round
            case rel => exact ⟨j + 1, by omega, by go_num, by rw [P.out, if_pos D.out]; go_num, by rw [K.out, if_pos D.out]; go_num⟩
            case measure => simp [intOf]; omega
          · have D : Hid (¬ isD (bn s j)) := Lib.hid (by unfold isD; omega)
            go_wp2
            go_round
            case rel => exact ⟨j + 1, by omega, by go_num, by rw [P.out, if_neg D.out], by rw [K.out, if_neg D.out]⟩
            case measure => simp [intOf]; omega
        · have D : Hid (¬ isD (bn s j)) := Lib.hid (by unfold isD; omega)
          go_wp2
          go_round
          case rel => exact ⟨j + 1, by omega, by go_num, by rw [P.out, if_neg D.out], by rw [K.out, if_neg D.out]⟩
          case measure => simp [intOf]; omega
      · have JM : Hid (j = min s.size 11) := Lib.hid (by omega)
        by_cases h45 : bn s 0 = 45
        · have N : Hid (isNeg s) := Lib.hid ⟨by omega, h45⟩
          have PN := Lib.hid (show pN s = -(pn s j : Int) by rw [pN, if_pos N.out, ← JM.out])
          by_cases c1 : pk s j ≤ 9
          · by_cases c2 : s.size ≤ 10
            · exact absurd c2 (by omega)
            · have E := Lib.hid (par_no (s := s) fun h => c2 h.2.1)
              go_wp2
              go_ret2
              exact ⟨ret_ib E.out.2.symm E.out.1.symm, Below.refl _ _⟩
          · have E := Lib.hid (par_no (s := s) fun h => c1 (by rw [JM.out]; exact h.1))
            go_wp2
            go_ret2
            exact ⟨ret_ib E.out.2.symm E.out.1.symm, Below.refl _ _⟩
        · have N : Hid (¬ isNeg s) := Lib.hid fun h => h45 h.2
          have PN := Lib.hid (show pN s = (pn s j : Int) by rw [pN, if_neg N.out, ← JM.out])
          by_cases c1 : pk s j ≤ 9
          · by_cases c2 : s.size ≤ 10
            · exact absurd c2 (by omega)
            · have E := Lib.hid (par_no (s := s) fun h => c2 h.2.1)
              go_wp2
              go_ret2
              exact ⟨ret_ib E.out.2.symm E.out.1.symm, Below.refl _ _⟩
          · have E := Lib.hid (par_no (s := s) fun h => c1 (by rw [JM.out]; exact h.1))
            go_wp2
            go_ret2
            exact ⟨ret_ib E.out.2.symm E.out.1.symm, Below.refl _ _⟩
    · have JM : Hid (j = min s.size 11) := Lib.hid (by omega)
      have hje : s.size ≤ j := by omega
      have hje2 : j ≤ s.size := by omega
      by_cases hz : 0 < s.size
      · by_cases h45 : bn s 0 = 45
        · have N : Hid (isNeg s) := Lib.hid ⟨hz, h45⟩
          have PN := Lib.hid (show pN s = -(pn s j : Int) by rw [pN, if_pos N.out, ← JM.out])
          by_cases c1 : pk s j ≤ 9
          · by_cases c2 : s.size ≤ 10
            · by_cases c3 : fmtI (-(pn s j : Int)) = s
              · have OK := Lib.hid (par_yes (s := s) ⟨by rw [← JM.out]; exact c1, c2, by rw [PN.out]; exact c3⟩)
                have c4 : ((fmtI (-(pn s j : Int))).toList == s.toList) = true := by rw [c3]; simp
                have c5 : (fmtI (-(pn s j : Int))).toList = s.toList := by rw [c3]
                clear c3
                go_wp2_with (go_at_call 20; refine (spec_FormatInt (-(pn s j : Int)) (by omega) (by omega) _).mono ?_; rintro e w' ⟨rfl, hb1⟩)
                all_goals go_ret2
                all_goals exact ⟨ret_ib (by rw [OK.out.2, PN.out]) OK.out.1.symm, hb1⟩
              · have E := Lib.hid (par_no (s := s) fun h => c3 (by rw [← PN.out]; exact h.2.2))
                have c5 : ¬ (fmtI (-(pn s j : Int))).toList = s.toList := fun h => c3 (by
                  rw [ByteArray.toList_eq, ByteArray.toList_eq] at h
                  apply ByteArray.ext; apply Array.toList_inj.1; exact h)
                have c6 : ((fmtI (-(pn s j : Int))).toList == s.toList) = false := by simpa using c5
                have c7 : ((fmtI (-(pn s j : Int))).toList != s.toList) = true := by simpa using c5
                clear c3
                go_wp2_with (go_at_call 20; refine (spec_FormatInt (-(pn s j : Int)) (by omega) (by omega) _).mono ?_; rintro e w' ⟨rfl, hb1⟩)
                all_goals go_ret2
                all_goals exact ⟨ret_ib E.out.2.symm E.out.1.symm, hb1⟩
            · have E := Lib.hid (par_no (s := s) fun h => c2 h.2.1)
              go_wp2
              go_ret2
              exact ⟨ret_ib E.out.2.symm E.out.1.symm, Below.refl _ _⟩
          · have E := Lib.hid (par_no (s := s) fun h => c1 (by rw [JM.out]; exact h.1))
            go_wp2
            go_ret2
            exact ⟨ret_ib E.out.2.symm E.out.1.symm, Below.refl _ _⟩
        · have N : Hid (¬ isNeg s) := Lib.hid fun h => h45 h.2
          have PN := Lib.hid (show pN s = (pn s j : Int) by rw [pN, if_neg N.out, ← JM.out])
          by_cases c1 : pk s j ≤ 9
          · by_cases c2 : s.size ≤ 10
            · by_cases c3 : fmtI ((pn s j : Int)) = s
              · have OK := Lib.hid (par_yes (s := s) ⟨by rw [← JM.out]; exact c1, c2, by rw [PN.out]; exact c3⟩)
                have c4 : ((fmtI ((pn s j : Int))).toList == s.toList) = true := by rw [c3]; simp
                have c5 : (fmtI ((pn s j : Int))).toList = s.toList := by rw [c3]
                clear c3
                go_wp2_with (go_at_call 20; refine (spec_FormatInt ((pn s j : Int)) (by omega) (by omega) _).mono ?_; rintro e w' ⟨rfl, hb1⟩)
                all_goals go_ret2
                all_goals exact ⟨ret_ib (by rw [OK.out.2, PN.out]) OK.out.1.symm, hb1⟩
              · have E := Lib.hid (par_no (s := s) fun h => c3 (by rw [← PN.out]; exact h.2.2))
                have c5 : ¬ (fmtI ((pn s j : Int))).toList = s.toList := fun h => c3 (by
                  rw [ByteArray.toList_eq, ByteArray.toList_eq] at h
                  apply ByteArray.ext; apply Array.toList_inj.1; exact h)
                have c6 : ((fmtI ((pn s j : Int))).toList == s.toList) = false := by simpa using c5
                have c7 : ((fmtI ((pn s j : Int))).toList != s.toList) = true := by simpa using c5
                clear c3
                go_wp2_with (go_at_call 20; refine (spec_FormatInt ((pn s j : Int)) (by omega) (by omega) _).mono ?_; rintro e w' ⟨rfl, hb1⟩)
                all_goals go_ret2
                all_goals exact ⟨ret_ib E.out.2.symm E.out.1.symm, hb1⟩
            · have E := Lib.hid (par_no (s := s) fun h => c2 h.2.1)
              go_wp2
              go_ret2
              exact ⟨ret_ib E.out.2.symm E.out.1.symm, Below.refl _ _⟩
          · have E := Lib.hid (par_no (s := s) fun h => c1 (by rw [JM.out]; exact h.1))
            go_wp2
            go_ret2
            exact ⟨ret_ib E.out.2.symm E.out.1.symm, Below.refl _ _⟩
      · have N : Hid (¬ isNeg s) := Lib.hid fun h => hz h.1
        have PN := Lib.hid (show pN s = (pn s j : Int) by rw [pN, if_neg N.out, ← JM.out])
        have c1 : pk s j ≤ 9 := by omega
        have c2 : s.size ≤ 10 := by omega
        by_cases c3 : fmtI ((pn s j : Int)) = s
        · have OK := Lib.hid (par_yes (s := s) ⟨by rw [← JM.out]; exact c1, c2, by rw [PN.out]; exact c3⟩)
          have c4 : ((fmtI ((pn s j : Int))).toList == s.toList) = true := by rw [c3]; simp
          have c5 : (fmtI ((pn s j : Int))).toList = s.toList := by rw [c3]
          clear c3
          go_wp2_with (go_at_call 20; refine (spec_FormatInt ((pn s j : Int)) (by omega) (by omega) _).mono ?_; rintro e w' ⟨rfl, hb1⟩)
          all_goals go_ret2
          all_goals exact ⟨ret_ib (by rw [OK.out.2, PN.out]) OK.out.1.symm, hb1⟩
        · have E := Lib.hid (par_no (s := s) fun h => c3 (by rw [← PN.out]; exact h.2.2))
          have c5 : ¬ (fmtI ((pn s j : Int))).toList = s.toList := fun h => c3 (by
            rw [ByteArray.toList_eq, ByteArray.toList_eq] at h
            apply ByteArray.ext; apply Array.toList_inj.1; exact h)
          have c6 : ((fmtI ((pn s j : Int))).toList == s.toList) = false := by simpa using c5
          have c7 : ((fmtI ((pn s j : Int))).toList != s.toList) = true := by simpa using c5
          clear c3
          go_wp2_with (go_at_call 20; refine (spec_FormatInt ((pn s j : Int)) (by omega) (by omega) _).mono ?_; rintro e w' ⟨rfl, hb1⟩)
          all_goals go_ret2
          all_goals exact ⟨ret_ib E.out.2.symm E.out.1.symm, hb1⟩
end Go.Proofs.YtenondgjipmhnaaDoor
