/- What the two functions CompareFacts answer. Conditions: none beyond each theorem's own. -/
import Derived.Test.YtimlpdcambmcjaaCmp
namespace Go.Proofs.Ytimlpdcambmcjaa
open Go.ChangeShapes Go.WideShapes Go.ChangeAt Go.RowKit
set_option linter.unusedVariables false
set_option linter.unusedSimpArgs false

theorem RI_new2 (w : World) (x y : Int) (t : TypeId) : RI (w.alloc (.cells #[.int .i64 x, .int .i64 y] t)) (some ⟨w.heap.size, 0, none⟩) [x, y] := fun _ =>
  ⟨w.heap.size, 0, rfl, Nat.zero_le _, by simp, fun k hk => by
    rw [cell_new]
    simp at hk
    rcases (by omega : k = 0 ∨ k = 1) with rfl | rfl <;> rfl⟩

theorem cmpOr_two (A : Option Addr) (c : Nat) (x y : Int) (w : World) (h : RI w A [x, y]) :
    Calls Try.prog 102 #[.slice A 2 c] w fun e w' => e = .returned (.int .i64 (if x = 0 then y else x)) ∧ w = w' := by
  obtain ⟨b, off, rfl, _, hc⟩ := h.at_ (k := 0) (by simp)
  obtain ⟨b', off', h2, _, hc'⟩ := h.at_ (k := 1) (by simp)
  injection h2 with h2
  injection h2 with h2 h3
  subst h2 h3
  simp at hc hc'
  clear h
  by_cases h1 : x = 0
  · subst h1
    by_cases h2 : y = 0
    · subst h2
      go_enter Try.func102, Try.ntmps102
      go_wp2
      refine wp_loop_rounds 3 ?_
      rw [rounds_succ]
      go_wp2
      rw [rounds_succ]
      go_wp2
      rw [rounds_succ]
      go_wp2
      go_ret
      exact ⟨rfl, rfl⟩
    · have d : (y == 0) = false := by simpa using h2
      have d' : (y != 0) = true := by simpa using h2
      have H := Lib.hid h2
      clear h2
      go_enter Try.func102, Try.ntmps102
      go_wp2
      refine wp_loop_rounds 2 ?_
      rw [rounds_succ]
      go_wp2
      rw [rounds_succ]
      go_wp2
      go_ret
      exact ⟨rfl, rfl⟩
  · have d : (x == 0) = false := by simpa using h1
    have d' : (x != 0) = true := by simpa using h1
    rw [if_neg h1]
    clear h1
    go_enter Try.func102, Try.ntmps102
    go_wp2
    refine wp_loop_rounds 1 ?_
    rw [rounds_succ]
    go_wp2
    go_ret
    exact ⟨rfl, rfl⟩

set_option maxHeartbeats 1000000 in
set_option maxRecDepth 100000 in
theorem impl_CompareFacts (r r' : Int) (xs ys : List Int) (A A' : Option Addr) (c c' : Nat) (hl : xs.length ≤ 140737488355328) (hl2 : ys.length ≤ 140737488355328) (w : World) (h : RI w A xs) (h' : RI w A' ys) :
    Calls Try.prog 82 #[.agg #[.int .i64 r, .slice A xs.length c], .agg #[.int .i64 r', .slice A' ys.length c']] w fun e w' => e = .returned (.int .i64 (cmpF r xs r' ys)) ∧ Below w.heap.size w w' := by
  have hl' : (xs.length : Int) ≤ 140737488355328 := by omega
  have hl2' : (ys.length : Int) ≤ 140737488355328 := by omega
  have HE := Lib.hid (show (if cmpI r r' = 0 then cmpL xs ys else cmpI r r') = cmpF r xs r' ys by
    unfold cmpI cmpF
    by_cases h1 : r < r'
    · simp [h1]
    · by_cases h2 : r' < r
      · simp [h1, h2]
      · simp [h1, h2])
  have HI := Lib.hid h
  have HJ := Lib.hid h'
  clear h h'
  go_enter Try.func82, Try.ntmps82
  go_wp2
  have B0 := step (below_alloc w (.cells #[.int .i64 r, .slice A xs.length c] 73)) (below_alloc _ (.cells #[.int .i64 r', .slice A' ys.length c'] 73))
  generalize hu : (w.alloc (.cells #[.int .i64 r, .slice A xs.length c] 73)).alloc (.cells #[.int .i64 r', .slice A' ys.length c'] 73) = u at B0 ⊢
  have X0 : Box u w.heap.size #[.int .i64 r, .slice A xs.length c] 73 := by rw [← hu]; exact (Box.new _ _ _).step (below_alloc _ _)
  have X1 : Box u (w.heap.size + 1) #[.int .i64 r', .slice A' ys.length c'] 73 := by rw [← hu]; simpa using Box.new (w.alloc (.cells #[.int .i64 r, .slice A xs.length c] 73)) #[.int .i64 r', .slice A' ys.length c'] 73
  have J0 := Lib.hid (HI.out.step B0)
  have J1 := Lib.hid (HJ.out.step B0)
  have g0 := X0.cell 0
  have g1 := X0.cell 1
  have g2 := X1.cell 0
  have g3 := X1.cell 1
  have z0 := X1.lt
  simp only [List.getElem?_toArray, List.getElem?_cons_zero, List.getElem?_cons_succ] at g0 g1 g2 g3
  clear hu X0 X1
  go_region_held3 (fun w' => w'.cell? ⟨w.heap.size, 0, none⟩ = some (.int .i64 r) ∧ w'.cell? ⟨w.heap.size, 1, none⟩ = some (.slice A xs.length c) ∧ w'.cell? ⟨w.heap.size + 1, 0, none⟩ = some (.int .i64 r') ∧ w'.cell? ⟨w.heap.size + 1, 1, none⟩ = some (.slice A' ys.length c'))
    (first
      | go_keep)
    (first
      | (go_at_call 103; refine (cmpCompare_any r r' _).mono ?_; rintro e u1 ⟨rfl, rfl⟩)
      | (go_at_call 104; refine (slicesCompare_any A A' c c' xs ys hl hl2 _ (by first | exact J0.out | exact J0.out.step (below_drew _)) (by first | exact J1.out | exact J1.out.step (below_drew _))).mono ?_; rintro e u2 ⟨rfl, rfl⟩)
      | (go_at_call 102; refine (cmpOr_two _ _ (cmpI r r') (cmpL xs ys) _ (by first | exact RI_new2 _ _ _ _ | exact (RI_new2 _ _ _ _).step (below_drew _))).mono ?_; rintro e u3 ⟨he, rfl⟩; rw [HE.out] at he; subst he))
  go_wp2
  go_ret
  exact ⟨rfl, by first | exact step B0 (below_alloc _ _) | exact step B0 (step (below_drew _) (below_alloc _ _)) | exact step B0 (step (below_alloc _ _) (below_drew _))⟩

theorem cmpF_lt {r r' : Int} (xs ys : List Int) (h : r < r') : cmpF r xs r' ys = -1 := by simp [cmpF, h]
theorem cmpF_gt {r r' : Int} (xs ys : List Int) (h : r' < r) : cmpF r xs r' ys = 1 := by simp [cmpF, h, show ¬ r < r' by omega]
theorem cmpF_eq (r : Int) (xs ys : List Int) : cmpF r xs r ys = cmpL xs ys := by simp [cmpF]

set_option maxHeartbeats 1000000 in
set_option maxRecDepth 100000 in
theorem spec_CompareFacts (r r' : Int) (xs ys : List Int) (A A' : Option Addr) (c c' : Nat) (hl : xs.length ≤ 140737488355328) (hl2 : ys.length ≤ 140737488355328) (w : World) (h : RI w A xs) (h' : RI w A' ys) :
    Calls Try.prog 92 #[.agg #[.int .i64 r, .slice A xs.length c], .agg #[.int .i64 r', .slice A' ys.length c']] w fun e w' => e = .returned (.int .i64 (cmpF r xs r' ys)) ∧ Below w.heap.size w w' := by
  have hl' : (xs.length : Int) ≤ 140737488355328 := by omega
  have hl2' : (ys.length : Int) ≤ 140737488355328 := by omega
  have HI := Lib.hid h
  have HJ := Lib.hid h'
  clear h h'
  have b0 := fun o o' => step (below_alloc w o) (below_alloc _ o')
  have B0 := Lib.hid b0
  clear b0
  by_cases h1 : r < r'
  · have d1 : (r == r') = false := by simp; omega
    have d2 : (r != r') = true := by simp; omega
    rw [cmpF_lt _ _ h1]
    go_enter Try.func92, Try.ntmps92
    go_wp2
    go_ret
    exact ⟨rfl, B0.out _ _⟩
  · by_cases h2 : r' < r
    · have d1 : (r == r') = false := by simp; omega
      have d2 : (r != r') = true := by simp; omega
      rw [cmpF_gt _ _ h2]
      go_enter Try.func92, Try.ntmps92
      go_wp2
      go_ret
      exact ⟨rfl, B0.out _ _⟩
    · obtain rfl : r = r' := by omega
      rw [cmpF_eq]
      have J0 := Lib.hid fun o o' => HI.out.step (B0.out o o')
      have J1 := Lib.hid fun o o' => HJ.out.step (B0.out o o')
      have X0 := Lib.hid (show Box ((w.alloc (.cells #[.int .i64 r, .slice A xs.length c] 73)).alloc (.cells #[.int .i64 r, .slice A' ys.length c'] 73)) w.heap.size #[.int .i64 r, .slice A xs.length c] 73 from (Box.new _ _ _).step (below_alloc _ _))
      have X1 := Lib.hid (show Box ((w.alloc (.cells #[.int .i64 r, .slice A xs.length c] 73)).alloc (.cells #[.int .i64 r, .slice A' ys.length c'] 73)) (w.heap.size + 1) #[.int .i64 r, .slice A' ys.length c'] 73 by simpa using Box.new (w.alloc (.cells #[.int .i64 r, .slice A xs.length c] 73)) #[.int .i64 r, .slice A' ys.length c'] 73)
      go_enter Try.func92, Try.ntmps92
      go_wp2
      generalize hu : (w.alloc (.cells #[.int .i64 r, .slice A xs.length c] 73)).alloc (.cells #[.int .i64 r, .slice A' ys.length c'] 73) = u at X0 X1
      have HU := Lib.hid hu
      clear hu
      have T := Lib.hid (show Below w.heap.size w u by rw [← HU.out]; exact B0.out _ _)
      have J0' := Lib.hid (show RI u A xs by rw [← HU.out]; exact J0.out _ _)
      have J1' := Lib.hid (show RI u A' ys by rw [← HU.out]; exact J1.out _ _)
      try rw [HU.out]
      go_loopw [5] (fun i wr => ∃ k : Nat, k ≤ xs.length ∧ k ≤ ys.length ∧ i = .int .i64 k ∧ cmpL (xs.drop k) (ys.drop k) = cmpL xs ys ∧ ∃ n, wr = u.drewN n) (fun i _ => xs.length - (intOf i).toNat)
      case atStart => exact ⟨0, by omega, by omega, rfl, rfl, 0, rfl⟩
      case round =>
        obtain ⟨k, hk, hk2, rfl, ha, n, rfl⟩ := hrel
        have HA := Lib.hid ha
        clear ha
        have g0 := X0.out.cell 0
        have g1 := X0.out.cell 1
        have g2 := X1.out.cell 0
        have g3 := X1.out.cell 1
        simp only [List.getElem?_toArray, List.getElem?_cons_zero, List.getElem?_cons_succ] at g0 g1 g2 g3
        have hk0 : (0 : Int) ≤ (k : Int) := by omega
        by_cases hlt : k < xs.length
        · have d1 : (k : Int) < (xs.length : Int) := by omega
          have d1' : decide ((k : Int) < (xs.length : Int)) = true := by simpa using hlt
          by_cases hlt2 : k < ys.length
          · have d2 : (k : Int) < (ys.length : Int) := by omega
            have d2' : decide ((k : Int) < (ys.length : Int)) = true := by simpa using hlt2
            obtain ⟨b, off, rfl, _, hc⟩ := J0'.out.at_ hlt
            generalize hx : xs.getD k 0 = x at hc
            have HX := Lib.hid hx
            clear hx
            obtain ⟨b', off', rfl, _, hc'⟩ := J1'.out.at_ hlt2
            generalize hy : ys.getD k 0 = y at hc'
            have HY := Lib.hid hy
            clear hy
            have S := Lib.hid (cmpL_step xs ys k hlt hlt2)
            by_cases h3 : x < y
            · go_wp2
              go_quiet (fail)
              go_wp2
              go_ret
              exact ⟨ret_int (by rw [← HA.out, S.out, HX.out, HY.out, if_pos h3]), T.out.trans ⟨rfl, rfl, rfl, Nat.le_refl _, fun _ _ => rfl⟩⟩
            · by_cases h4 : y < x
              · go_wp2
                go_quiet (fail)
                go_wp2
                go_quiet (fail)
                go_wp2
                go_ret
                exact ⟨ret_int (by rw [← HA.out, S.out, HX.out, HY.out, if_neg (by omega), if_pos h4]), T.out.trans ⟨rfl, rfl, rfl, Nat.le_refl _, fun _ _ => rfl⟩⟩
              · go_wp2
                go_quiet (fail)
                go_wp2
                go_quiet (fail)
                go_wp2
                go_roundw
                case rel => exact ⟨k + 1, by omega, by omega, by go_num, by rw [← HA.out, S.out, HX.out, HY.out, if_neg (by omega), if_neg (by omega)], _, rfl⟩
                case measure => simp [intOf]; omega
          · obtain rfl : k = ys.length := by omega
            go_wp2
            go_ret
            exact ⟨ret_int (by rw [← HA.out, cmpL_long _ _ hlt]), T.out.trans ⟨rfl, rfl, rfl, Nat.le_refl _, fun _ _ => rfl⟩⟩
        · obtain rfl : k = xs.length := by omega
          by_cases hlt2 : xs.length < ys.length
          · go_wp2
            go_ret
            exact ⟨ret_int (by rw [← HA.out, cmpL_short _ _ hlt2]), T.out.trans ⟨rfl, rfl, rfl, Nat.le_refl _, fun _ _ => rfl⟩⟩
          · go_wp2
            go_ret
            exact ⟨ret_int (by rw [← HA.out, cmpL_same _ _ _ rfl (by omega)]), T.out.trans ⟨rfl, rfl, rfl, Nat.le_refl _, fun _ _ => rfl⟩⟩
end Go.Proofs.Ytimlpdcambmcjaa
