/- What the two functions CompareFacts answer. Conditions: none beyond each theorem's own. -/
import Derived.Test.YtnmhppiccganoaaCmp
namespace Go.Proofs.Ytnmhppiccganoaa
open Go.ChangeShapes Go.WideShapes Go.ChangeAt Go.RowKit
set_option linter.unusedVariables false
set_option linter.unusedSimpArgs false

theorem RI_new2 (w : World) (x y : Int) (t : TypeId) : RI (w.alloc (.cells #[.int .i64 x, .int .i64 y] t)) (some ⟨w.heap.size, 0, none⟩) [x, y] := fun _ =>
  ⟨w.heap.size, 0, rfl, Nat.zero_le _, by simp, fun k hk => by
    rw [cell_new]
    simp at hk
    rcases (by omega : k = 0 ∨ k = 1) with rfl | rfl <;> rfl⟩

theorem cmpF_lt {r r' : Int} (xs ys : List Int) (h : r < r') : cmpF r xs r' ys = -1 := by simp [cmpF, h]
theorem cmpF_gt {r r' : Int} (xs ys : List Int) (h : r' < r) : cmpF r xs r' ys = 1 := by simp [cmpF, h, show ¬ r < r' by omega]
theorem cmpF_eq (r : Int) (xs ys : List Int) : cmpF r xs r ys = cmpL xs ys := by simp [cmpF]

set_option maxHeartbeats 1000000 in
set_option maxRecDepth 100000 in
theorem spec_CompareFacts (r r' : Int) (xs ys : List Int) (A A' : Option Addr) (c c' : Nat) (hl : xs.length ≤ 140737488355328) (hl2 : ys.length ≤ 140737488355328) (w : World) (h : RI w A xs) (h' : RI w A' ys) :
    Calls Try.prog 44 #[.agg #[.int .i64 r, .slice A xs.length c], .agg #[.int .i64 r', .slice A' ys.length c']] w fun e w' => e = .returned (.int .i64 (cmpF r xs r' ys)) ∧ Below w.heap.size w w' := by
  have hl' : (xs.length : Int) ≤ 140737488355328 := by omega
  have hl2' : (ys.length : Int) ≤ 140737488355328 := by omega
  have HI := Lib.hid h
  have HJ := Lib.hid h'
  clear h h'
  have b0 := fun o o' => step (below_alloc w o) (below_alloc _ o')
  have B0 := Lib.hid b0
  clear b0
  by_cases h1 : r < r'
  · have d1 : (r == r') = false := by simp; omega
    have d2 : (r != r') = true := by simp; omega
    rw [cmpF_lt _ _ h1]
    go_enter Try.func44, Try.ntmps44
    go_wp2
    go_ret
    exact ⟨rfl, B0.out _ _⟩
  · by_cases h2 : r' < r
    · have d1 : (r == r') = false := by simp; omega
      have d2 : (r != r') = true := by simp; omega
      rw [cmpF_gt _ _ h2]
      go_enter Try.func44, Try.ntmps44
      go_wp2
      go_ret
      exact ⟨rfl, B0.out _ _⟩
    · obtain rfl : r = r' := by omega
      rw [cmpF_eq]
      have J0 := Lib.hid fun o o' => HI.out.step (B0.out o o')
      have J1 := Lib.hid fun o o' => HJ.out.step (B0.out o o')
      have X0 := Lib.hid (show Box ((w.alloc (.cells #[.int .i64 r, .slice A xs.length c] 54)).alloc (.cells #[.int .i64 r, .slice A' ys.length c'] 54)) w.heap.size #[.int .i64 r, .slice A xs.length c] 54 from (Box.new _ _ _).step (below_alloc _ _))
      have X1 := Lib.hid (show Box ((w.alloc (.cells #[.int .i64 r, .slice A xs.length c] 54)).alloc (.cells #[.int .i64 r, .slice A' ys.length c'] 54)) (w.heap.size + 1) #[.int .i64 r, .slice A' ys.length c'] 54 by simpa using Box.new (w.alloc (.cells #[.int .i64 r, .slice A xs.length c] 54)) #[.int .i64 r, .slice A' ys.length c'] 54)
      go_enter Try.func44, Try.ntmps44
      go_wp2
      generalize hu : (w.alloc (.cells #[.int .i64 r, .slice A xs.length c] 54)).alloc (.cells #[.int .i64 r, .slice A' ys.length c'] 54) = u at X0 X1
      have HU := Lib.hid hu
      clear hu
      have T := Lib.hid (show Below w.heap.size w u by rw [← HU.out]; exact B0.out _ _)
      have J0' := Lib.hid (show RI u A xs by rw [← HU.out]; exact J0.out _ _)
      have J1' := Lib.hid (show RI u A' ys by rw [← HU.out]; exact J1.out _ _)
      try rw [HU.out]
      go_loopw [5] (fun i wr => ∃ k : Nat, k ≤ xs.length ∧ k ≤ ys.length ∧ i = .int .i64 k ∧ cmpL (xs.drop k) (ys.drop k) = cmpL xs ys ∧ ∃ n, wr = u.drewN n) (fun i _ => xs.length - (intOf i).toNat)
      case atStart => exact ⟨0, by omega, by omega, rfl, rfl, 0, rfl⟩
      case round =>
        obtain ⟨k, hk, hk2, rfl, ha, n, rfl⟩ := hrel
        have HA := Lib.hid ha
        clear ha
        have g0 := X0.out.cell 0
        have g1 := X0.out.cell 1
        have g2 := X1.out.cell 0
        have g3 := X1.out.cell 1
        simp only [List.getElem?_toArray, List.getElem?_cons_zero, List.getElem?_cons_succ] at g0 g1 g2 g3
        have hk0 : (0 : Int) ≤ (k : Int) := by omega
        by_cases hlt : k < xs.length
        · have d1 : (k : Int) < (xs.length : Int) := by omega
          have d1' : decide ((k : Int) < (xs.length : Int)) = true := by simpa using hlt
          by_cases hlt2 : k < ys.length
          · have d2 : (k : Int) < (ys.length : Int) := by omega
            have d2' : decide ((k : Int) < (ys.length : Int)) = true := by simpa using hlt2
            obtain ⟨b, off, rfl, _, hc⟩ := J0'.out.at_ hlt
            generalize hx : xs.getD k 0 = x at hc
            have HX := Lib.hid hx
            clear hx
            obtain ⟨b', off', rfl, _, hc'⟩ := J1'.out.at_ hlt2
            generalize hy : ys.getD k 0 = y at hc'
            have HY := Lib.hid hy
            clear hy
            have S := Lib.hid (cmpL_step xs ys k hlt hlt2)
            by_cases h3 : x < y
            · go_wp2
              go_quiet (fail)
              go_wp2
              go_ret
              exact ⟨ret_int (by rw [← HA.out, S.out, HX.out, HY.out, if_pos h3]), T.out.trans ⟨rfl, rfl, rfl, Nat.le_refl _, fun _ _ => rfl⟩⟩
            · by_cases h4 : y < x
              · go_wp2
                go_quiet (fail)
                go_wp2
                go_quiet (fail)
                go_wp2
                go_ret
                exact ⟨ret_int (by rw [← HA.out, S.out, HX.out, HY.out, if_neg (by omega), if_pos h4]), T.out.trans ⟨rfl, rfl, rfl, Nat.le_refl _, fun _ _ => rfl⟩⟩
              · go_wp2
                go_quiet (fail)
                go_wp2
                go_quiet (fail)
                go_wp2
                go_roundw
                case rel => exact ⟨k + 1, by omega, by omega, by go_num, by rw [← HA.out, S.out, HX.out, HY.out, if_neg (by omega), if_neg (by omega)], _, rfl⟩
                case measure => simp [intOf]; omega
          · obtain rfl : k = ys.length := by omega
            go_wp2
            go_ret
            exact ⟨ret_int (by rw [← HA.out, cmpL_long _ _ hlt]), T.out.trans ⟨rfl, rfl, rfl, Nat.le_refl _, fun _ _ => rfl⟩⟩
        · obtain rfl : k = xs.length := by omega
          by_cases hlt2 : xs.length < ys.length
          · go_wp2
            go_ret
            exact ⟨ret_int (by rw [← HA.out, cmpL_short _ _ hlt2]), T.out.trans ⟨rfl, rfl, rfl, Nat.le_refl _, fun _ _ => rfl⟩⟩
          · go_wp2
            go_ret
            exact ⟨ret_int (by rw [← HA.out, cmpL_same _ _ _ rfl (by omega)]), T.out.trans ⟨rfl, rfl, rfl, Nat.le_refl _, fun _ _ => rfl⟩⟩
end Go.Proofs.Ytnmhppiccganoaa
