/- What comparing two facts answers. Conditions: none beyond each theorem's own. What the two functions CompareFacts answer. Conditions: none beyond each theorem's own. Lists of facts: their size, their copy, their comparison by the law. Conditions: none beyond each theorem's own. Lists of facts of the call's own. Conditions: none beyond each theorem's own. Two lists of the same facts are found equal by the law's own comparison. Conditions: none beyond each theorem's own. Bindings in memory: their size, their copy, their comparison by the law. Conditions: none beyond each theorem's own. What the two functions ValueOf answer. Conditions: none beyond each theorem's own. What matching an atom with a fact gives: plain lists. Conditions: none beyond each theorem's own. What the two functions AreFacts answer. Conditions: none beyond each theorem's own. Whether two facts are the same, and whether a list has a fact. Conditions: none beyond each theorem's own. -/
import Derived.Test.YtimlpdcambmcjaaM1
import Derived.Lib.QuietBelow
import Derived.Laws.StructEq
import Derived.Laws.CopyOwn
import Derived.Deep.RegionLaw

namespace Go.Proofs.Ytimlpdcambmcjaa
open Go.ChangeShapes Go.WideShapes Go.ChangeAt Go.RowKit
set_option linter.unusedVariables false
set_option linter.unusedSimpArgs false

def cmpI (a b : Int) : Int := if a < b then -1 else if b < a then 1 else 0
def cmpL : List Int → List Int → Int
  | [], [] => 0
  | [], _ :: _ => -1
  | _ :: _, [] => 1
  | x :: xs, y :: ys => if x < y then -1 else if y < x then 1 else cmpL xs ys
def cmpF (r : Int) (xs : List Int) (r' : Int) (ys : List Int) : Int := if r < r' then -1 else if r' < r then 1 else cmpL xs ys
theorem cmpL_step (xs ys : List Int) (k : Nat) (h1 : k < xs.length) (h2 : k < ys.length) :
    cmpL (xs.drop k) (ys.drop k) = if xs.getD k 0 < ys.getD k 0 then -1 else if ys.getD k 0 < xs.getD k 0 then 1 else cmpL (xs.drop (k + 1)) (ys.drop (k + 1)) := by
  rw [List.drop_eq_getElem_cons h1, List.drop_eq_getElem_cons h2]
  simp [cmpL, List.getD_eq_getElem?_getD, h1, h2]
theorem cmpL_short (xs ys : List Int) (h2 : xs.length < ys.length) : cmpL (xs.drop xs.length) (ys.drop xs.length) = -1 := by
  rw [List.drop_length, List.drop_eq_getElem_cons h2]
  rfl
theorem cmpL_long (xs ys : List Int) (h2 : ys.length < xs.length) : cmpL (xs.drop ys.length) (ys.drop ys.length) = 1 := by
  rw [List.drop_length, List.drop_eq_getElem_cons h2]
  rfl
theorem cmpL_same (xs ys : List Int) (k : Nat) (h1 : xs.length = k) (h2 : ys.length = k) : cmpL (xs.drop k) (ys.drop k) = 0 := by
  rw [← h1, List.drop_length, h1, ← h2, List.drop_length]
  rfl
theorem cmpL_rng : ∀ xs ys : List Int, -1 ≤ cmpL xs ys ∧ cmpL xs ys ≤ 1
  | [], [] => by simp [cmpL]
  | [], _ :: _ => by simp [cmpL]
  | _ :: _, [] => by simp [cmpL]
  | x :: xs, y :: ys => by
    have := cmpL_rng xs ys
    simp only [cmpL]
    split
    · omega
    · split <;> omega
theorem cmpL_zero : ∀ xs ys : List Int, cmpL xs ys = 0 ↔ xs = ys
  | [], [] => by simp [cmpL]
  | [], _ :: _ => by simp [cmpL]
  | _ :: _, [] => by simp [cmpL]
  | x :: xs, y :: ys => by
    have := cmpL_zero xs ys
    simp only [cmpL, List.cons.injEq]
    split
    · constructor
      · intro h; omega
      · rintro ⟨rfl, _⟩; omega
    · split
      · constructor
        · intro h; omega
        · rintro ⟨rfl, _⟩; omega
      · rw [this]
        constructor
        · intro h; exact ⟨by omega, h⟩
        · exact fun h => h.2
theorem cmpF_rng (r : Int) (xs : List Int) (r' : Int) (ys : List Int) : -1 ≤ cmpF r xs r' ys ∧ cmpF r xs r' ys ≤ 1 := by
  have := cmpL_rng xs ys
  unfold cmpF
  split
  · omega
  · split <;> omega
theorem cmpF_zero (r : Int) (xs : List Int) (r' : Int) (ys : List Int) : cmpF r xs r' ys = 0 ↔ r = r' ∧ xs = ys := by
  have := cmpL_zero xs ys
  unfold cmpF
  split
  · constructor
    · intro h; omega
    · rintro ⟨rfl, _⟩; omega
  · split
    · constructor
      · intro h; omega
      · rintro ⟨rfl, _⟩; omega
    · rw [this]
      constructor
      · intro h; exact ⟨by omega, h⟩
      · exact fun h => h.2

theorem isNaN_any (x : Int) (w : World) : Calls Try.prog 110 #[.int .i64 x] w fun e w' => e = .returned (.bool false) ∧ w = w' := by
  go_enter Try.func110, Try.ntmps110
  go_wp2
  go_ret
  exact ⟨by simp, rfl⟩

theorem cmpCompare_any (x y : Int) (w : World) : Calls Try.prog 103 #[.int .i64 x, .int .i64 y] w fun e w' => e = .returned (.int .i64 (cmpI x y)) ∧ w = w' := by
  rcases (by omega : x < y ∨ (¬ x < y ∧ y < x) ∨ (¬ x < y ∧ ¬ y < x)) with h | ⟨h, h2⟩ | ⟨h, h2⟩
  · rw [show cmpI x y = -1 by simp [cmpI, h]]
    go_enter Try.func103, Try.ntmps103
    go_wp2_with fail
    refine (isNaN_any x _).mono ?_
    rintro e w1 ⟨rfl, rfl⟩
    go_wp2_with fail
    refine (isNaN_any y _).mono ?_
    rintro e w1 ⟨rfl, rfl⟩
    go_wp2
    go_ret
    exact ⟨rfl, rfl⟩
  · rw [show cmpI x y = 1 by simp [cmpI, h, h2]]
    go_enter Try.func103, Try.ntmps103
    go_wp2_with fail
    refine (isNaN_any x _).mono ?_
    rintro e w1 ⟨rfl, rfl⟩
    go_wp2_with fail
    refine (isNaN_any y _).mono ?_
    rintro e w1 ⟨rfl, rfl⟩
    go_wp2
    go_ret
    exact ⟨rfl, rfl⟩
  · rw [show cmpI x y = 0 by simp [cmpI, h, h2]]
    go_enter Try.func103, Try.ntmps103
    go_wp2_with fail
    refine (isNaN_any x _).mono ?_
    rintro e w1 ⟨rfl, rfl⟩
    go_wp2_with fail
    refine (isNaN_any y _).mono ?_
    rintro e w1 ⟨rfl, rfl⟩
    go_wp2
    go_ret
    exact ⟨rfl, rfl⟩

set_option maxHeartbeats 400000 in
theorem slicesCompare_any (A A' : Option Addr) (c c' : Nat) (xs ys : List Int) (hl : xs.length ≤ 140737488355328) (hl2 : ys.length ≤ 140737488355328) (w : World) (h : RI w A xs) (h' : RI w A' ys) :
    Calls Try.prog 104 #[.slice A xs.length c, .slice A' ys.length c'] w fun e w' => e = .returned (.int .i64 (cmpL xs ys)) ∧ w = w' := by
  have HI := Lib.hid h
  have HJ := Lib.hid h'
  clear h h'
  have hl' : (xs.length : Int) ≤ 140737488355328 := by omega
  have hl2' : (ys.length : Int) ≤ 140737488355328 := by omega
  have HC := Lib.hid cmpL_step
  go_enter Try.func104, Try.ntmps104
  go_wp2
  go_loop [5, 6, 7, 8, 11] (fun _ _ _ _ i => ∃ k : Nat, k ≤ xs.length ∧ k ≤ ys.length ∧ i = .int .i64 k ∧ cmpL (xs.drop k) (ys.drop k) = cmpL xs ys) (fun _ _ _ _ i => xs.length - (intOf i).toNat)
  case atStart => exact ⟨0, by omega, by omega, rfl, rfl⟩
  case round =>
    obtain ⟨k, hk, hk2, rfl, ha⟩ := hrel
    have HA := Lib.hid ha
    clear ha
    by_cases hlt : k < xs.length
    · obtain ⟨b, off, rfl, _, hc⟩ := HI.out.at_ hlt
      generalize hx : xs.getD k 0 = x at hc
      have HX := Lib.hid hx
      clear hx
      by_cases hlt2 : k < ys.length
      · obtain ⟨b', off', rfl, _, hc'⟩ := HJ.out.at_ hlt2
        generalize hy : ys.getD k 0 = y at hc'
        have HY := Lib.hid hy
        clear hy
        have S := Lib.hid (cmpL_step xs ys k hlt hlt2)
        go_wp2_with fail
        refine (cmpCompare_any x y _).mono ?_
        rintro e w1 ⟨rfl, rfl⟩
        by_cases h1 : x < y
        · rw [show cmpI x y = -1 by simp [cmpI, h1]]
          go_wp2
          go_ret
          exact ⟨ret_int (by rw [← HA.out, S.out, HX.out, HY.out, if_pos h1]), rfl⟩
        · by_cases h2 : y < x
          · rw [show cmpI x y = 1 by simp [cmpI, h1, h2]]
            go_wp2
            go_ret
            exact ⟨ret_int (by rw [← HA.out, S.out, HX.out, HY.out, if_neg (by omega), if_pos h2]), rfl⟩
          · rw [show cmpI x y = 0 by simp [cmpI, h1, h2]]
            go_wp2
            go_round
            case rel => exact ⟨k + 1, by omega, by omega, by go_num, by rw [← HA.out, S.out, HX.out, HY.out, if_neg (by omega), if_neg (by omega)]⟩
            case measure => simp [intOf]; omega
      · obtain rfl : k = ys.length := by omega
        go_wp2
        go_ret
        exact ⟨ret_int (by rw [← HA.out, cmpL_long _ _ hlt]), rfl⟩
    · obtain rfl : k = xs.length := by omega
      by_cases hlt2 : xs.length < ys.length
      · go_wp2
        go_ret
        exact ⟨ret_int (by rw [← HA.out, cmpL_short _ _ hlt2]), rfl⟩
      · go_wp2
        go_ret
        exact ⟨ret_int (by rw [← HA.out, cmpL_same _ _ _ rfl (by omega)]), rfl⟩
end Go.Proofs.Ytimlpdcambmcjaa

namespace Go.Proofs.Ytimlpdcambmcjaa
open Go.ChangeShapes Go.WideShapes Go.ChangeAt Go.RowKit
set_option linter.unusedVariables false
set_option linter.unusedSimpArgs false

theorem RI_new2 (w : World) (x y : Int) (t : TypeId) : RI (w.alloc (.cells #[.int .i64 x, .int .i64 y] t)) (some ⟨w.heap.size, 0, none⟩) [x, y] := fun _ =>
  ⟨w.heap.size, 0, rfl, Nat.zero_le _, by simp, fun k hk => by
    rw [cell_new]
    simp at hk
    rcases (by omega : k = 0 ∨ k = 1) with rfl | rfl <;> rfl⟩

theorem cmpOr_two (A : Option Addr) (c : Nat) (x y : Int) (w : World) (h : RI w A [x, y]) :
    Calls Try.prog 102 #[.slice A 2 c] w fun e w' => e = .returned (.int .i64 (if x = 0 then y else x)) ∧ w = w' := by
  obtain ⟨b, off, rfl, _, hc⟩ := h.at_ (k := 0) (by simp)
  obtain ⟨b', off', h2, _, hc'⟩ := h.at_ (k := 1) (by simp)
  injection h2 with h2
  injection h2 with h2 h3
  subst h2 h3
  simp at hc hc'
  clear h
  by_cases h1 : x = 0
  · subst h1
    by_cases h2 : y = 0
    · subst h2
      go_enter Try.func102, Try.ntmps102
      go_wp2
      refine wp_loop_rounds 3 ?_
      rw [rounds_succ]
      go_wp2
      rw [rounds_succ]
      go_wp2
      rw [rounds_succ]
      go_wp2
      go_ret
      exact ⟨rfl, rfl⟩
    · have d : (y == 0) = false := by simpa using h2
      have d' : (y != 0) = true := by simpa using h2
      have H := Lib.hid h2
      clear h2
      go_enter Try.func102, Try.ntmps102
      go_wp2
      refine wp_loop_rounds 2 ?_
      rw [rounds_succ]
      go_wp2
      rw [rounds_succ]
      go_wp2
      go_ret
      exact ⟨rfl, rfl⟩
  · have d : (x == 0) = false := by simpa using h1
    have d' : (x != 0) = true := by simpa using h1
    rw [if_neg h1]
    clear h1
    go_enter Try.func102, Try.ntmps102
    go_wp2
    refine wp_loop_rounds 1 ?_
    rw [rounds_succ]
    go_wp2
    go_ret
    exact ⟨rfl, rfl⟩

set_option maxHeartbeats 1000000 in
set_option maxRecDepth 100000 in
theorem impl_CompareFacts (r r' : Int) (xs ys : List Int) (A A' : Option Addr) (c c' : Nat) (hl : xs.length ≤ 140737488355328) (hl2 : ys.length ≤ 140737488355328) (w : World) (h : RI w A xs) (h' : RI w A' ys) :
    Calls Try.prog 82 #[.agg #[.int .i64 r, .slice A xs.length c], .agg #[.int .i64 r', .slice A' ys.length c']] w fun e w' => e = .returned (.int .i64 (cmpF r xs r' ys)) ∧ Below w.heap.size w w' := by
  have hl' : (xs.length : Int) ≤ 140737488355328 := by omega
  have hl2' : (ys.length : Int) ≤ 140737488355328 := by omega
  have HE := Lib.hid (show (if cmpI r r' = 0 then cmpL xs ys else cmpI r r') = cmpF r xs r' ys by
    unfold cmpI cmpF
    by_cases h1 : r < r'
    · simp [h1]
    · by_cases h2 : r' < r
      · simp [h1, h2]
      · simp [h1, h2])
  have HI := Lib.hid h
  have HJ := Lib.hid h'
  clear h h'
  go_enter Try.func82, Try.ntmps82
  go_wp2
  have B0 := step (below_alloc w (.cells #[.int .i64 r, .slice A xs.length c] 73)) (below_alloc _ (.cells #[.int .i64 r', .slice A' ys.length c'] 73))
  generalize hu : (w.alloc (.cells #[.int .i64 r, .slice A xs.length c] 73)).alloc (.cells #[.int .i64 r', .slice A' ys.length c'] 73) = u at B0 ⊢
  have X0 : Box u w.heap.size #[.int .i64 r, .slice A xs.length c] 73 := by rw [← hu]; exact (Box.new _ _ _).step (below_alloc _ _)
  have X1 : Box u (w.heap.size + 1) #[.int .i64 r', .slice A' ys.length c'] 73 := by rw [← hu]; simpa using Box.new (w.alloc (.cells #[.int .i64 r, .slice A xs.length c] 73)) #[.int .i64 r', .slice A' ys.length c'] 73
  have J0 := Lib.hid (HI.out.step B0)
  have J1 := Lib.hid (HJ.out.step B0)
  have g0 := X0.cell 0
  have g1 := X0.cell 1
  have g2 := X1.cell 0
  have g3 := X1.cell 1
  have z0 := X1.lt
  simp only [List.getElem?_toArray, List.getElem?_cons_zero, List.getElem?_cons_succ] at g0 g1 g2 g3
  clear hu X0 X1
  go_region_held3 (fun w' => w'.cell? ⟨w.heap.size, 0, none⟩ = some (.int .i64 r) ∧ w'.cell? ⟨w.heap.size, 1, none⟩ = some (.slice A xs.length c) ∧ w'.cell? ⟨w.heap.size + 1, 0, none⟩ = some (.int .i64 r') ∧ w'.cell? ⟨w.heap.size + 1, 1, none⟩ = some (.slice A' ys.length c'))
    (first
      | go_keep)
    (first
      | (go_at_call 103; refine (cmpCompare_any r r' _).mono ?_; rintro e u1 ⟨rfl, rfl⟩)
      | (go_at_call 104; refine (slicesCompare_any A A' c c' xs ys hl hl2 _ (by first | exact J0.out | exact J0.out.step (below_drew _)) (by first | exact J1.out | exact J1.out.step (below_drew _))).mono ?_; rintro e u2 ⟨rfl, rfl⟩)
      | (go_at_call 102; refine (cmpOr_two _ _ (cmpI r r') (cmpL xs ys) _ (by first | exact RI_new2 _ _ _ _ | exact (RI_new2 _ _ _ _).step (below_drew _))).mono ?_; rintro e u3 ⟨he, rfl⟩; rw [HE.out] at he; subst he))
  go_wp2
  go_ret
  exact ⟨rfl, by first | exact step B0 (below_alloc _ _) | exact step B0 (step (below_drew _) (below_alloc _ _)) | exact step B0 (step (below_alloc _ _) (below_drew _))⟩

theorem cmpF_lt {r r' : Int} (xs ys : List Int) (h : r < r') : cmpF r xs r' ys = -1 := by simp [cmpF, h]
theorem cmpF_gt {r r' : Int} (xs ys : List Int) (h : r' < r) : cmpF r xs r' ys = 1 := by simp [cmpF, h, show ¬ r < r' by omega]
theorem cmpF_eq (r : Int) (xs ys : List Int) : cmpF r xs r ys = cmpL xs ys := by simp [cmpF]

set_option maxHeartbeats 1000000 in
set_option maxRecDepth 100000 in
theorem spec_CompareFacts (r r' : Int) (xs ys : List Int) (A A' : Option Addr) (c c' : Nat) (hl : xs.length ≤ 140737488355328) (hl2 : ys.length ≤ 140737488355328) (w : World) (h : RI w A xs) (h' : RI w A' ys) :
    Calls Try.prog 92 #[.agg #[.int .i64 r, .slice A xs.length c], .agg #[.int .i64 r', .slice A' ys.length c']] w fun e w' => e = .returned (.int .i64 (cmpF r xs r' ys)) ∧ Below w.heap.size w w' := by
  have hl' : (xs.length : Int) ≤ 140737488355328 := by omega
  have hl2' : (ys.length : Int) ≤ 140737488355328 := by omega
  have HI := Lib.hid h
  have HJ := Lib.hid h'
  clear h h'
  have b0 := fun o o' => step (below_alloc w o) (below_alloc _ o')
  have B0 := Lib.hid b0
  clear b0
  by_cases h1 : r < r'
  · have d1 : (r == r') = false := by simp; omega
    have d2 : (r != r') = true := by simp; omega
    rw [cmpF_lt _ _ h1]
    go_enter Try.func92, Try.ntmps92
    go_wp2
    go_ret
    exact ⟨rfl, B0.out _ _⟩
  · by_cases h2 : r' < r
    · have d1 : (r == r') = false := by simp; omega
      have d2 : (r != r') = true := by simp; omega
      rw [cmpF_gt _ _ h2]
      go_enter Try.func92, Try.ntmps92
      go_wp2
      go_ret
      exact ⟨rfl, B0.out _ _⟩
    · obtain rfl : r = r' := by omega
      rw [cmpF_eq]
      have J0 := Lib.hid fun o o' => HI.out.step (B0.out o o')
      have J1 := Lib.hid fun o o' => HJ.out.step (B0.out o o')
      have X0 := Lib.hid (show Box ((w.alloc (.cells #[.int .i64 r, .slice A xs.length c] 73)).alloc (.cells #[.int .i64 r, .slice A' ys.length c'] 73)) w.heap.size #[.int .i64 r, .slice A xs.length c] 73 from (Box.new _ _ _).step (below_alloc _ _))
      have X1 := Lib.hid (show Box ((w.alloc (.cells #[.int .i64 r, .slice A xs.length c] 73)).alloc (.cells #[.int .i64 r, .slice A' ys.length c'] 73)) (w.heap.size + 1) #[.int .i64 r, .slice A' ys.length c'] 73 by simpa using Box.new (w.alloc (.cells #[.int .i64 r, .slice A xs.length c] 73)) #[.int .i64 r, .slice A' ys.length c'] 73)
      go_enter Try.func92, Try.ntmps92
      go_wp2
      generalize hu : (w.alloc (.cells #[.int .i64 r, .slice A xs.length c] 73)).alloc (.cells #[.int .i64 r, .slice A' ys.length c'] 73) = u at X0 X1
      have HU := Lib.hid hu
      clear hu
      have T := Lib.hid (show Below w.heap.size w u by rw [← HU.out]; exact B0.out _ _)
      have J0' := Lib.hid (show RI u A xs by rw [← HU.out]; exact J0.out _ _)
      have J1' := Lib.hid (show RI u A' ys by rw [← HU.out]; exact J1.out _ _)
      try rw [HU.out]
      go_loopw [5] (fun i wr => ∃ k : Nat, k ≤ xs.length ∧ k ≤ ys.length ∧ i = .int .i64 k ∧ cmpL (xs.drop k) (ys.drop k) = cmpL xs ys ∧ ∃ n, wr = u.drewN n) (fun i _ => xs.length - (intOf i).toNat)
      case atStart => exact ⟨0, by omega, by omega, rfl, rfl, 0, rfl⟩
      case round =>
        obtain ⟨k, hk, hk2, rfl, ha, n, rfl⟩ := hrel
        have HA := Lib.hid ha
        clear ha
        have g0 := X0.out.cell 0
        have g1 := X0.out.cell 1
        have g2 := X1.out.cell 0
        have g3 := X1.out.cell 1
        simp only [List.getElem?_toArray, List.getElem?_cons_zero, List.getElem?_cons_succ] at g0 g1 g2 g3
        have hk0 : (0 : Int) ≤ (k : Int) := by omega
        by_cases hlt : k < xs.length
        · have d1 : (k : Int) < (xs.length : Int) := by omega
          have d1' : decide ((k : Int) < (xs.length : Int)) = true := by simpa using hlt
          by_cases hlt2 : k < ys.length
          · have d2 : (k : Int) < (ys.length : Int) := by omega
            have d2' : decide ((k : Int) < (ys.length : Int)) = true := by simpa using hlt2
            obtain ⟨b, off, rfl, _, hc⟩ := J0'.out.at_ hlt
            generalize hx : xs.getD k 0 = x at hc
            have HX := Lib.hid hx
            clear hx
            obtain ⟨b', off', rfl, _, hc'⟩ := J1'.out.at_ hlt2
            generalize hy : ys.getD k 0 = y at hc'
            have HY := Lib.hid hy
            clear hy
            have S := Lib.hid (cmpL_step xs ys k hlt hlt2)
            by_cases h3 : x < y
            · go_wp2
              go_quiet (fail)
              go_wp2
              go_ret
              exact ⟨ret_int (by rw [← HA.out, S.out, HX.out, HY.out, if_pos h3]), T.out.trans ⟨rfl, rfl, rfl, Nat.le_refl _, fun _ _ => rfl⟩⟩
            · by_cases h4 : y < x
              · go_wp2
                go_quiet (fail)
                go_wp2
                go_quiet (fail)
                go_wp2
                go_ret
                exact ⟨ret_int (by rw [← HA.out, S.out, HX.out, HY.out, if_neg (by omega), if_pos h4]), T.out.trans ⟨rfl, rfl, rfl, Nat.le_refl _, fun _ _ => rfl⟩⟩
              · go_wp2
                go_quiet (fail)
                go_wp2
                go_quiet (fail)
                go_wp2
                go_roundw
                case rel => exact ⟨k + 1, by omega, by omega, by go_num, by rw [← HA.out, S.out, HX.out, HY.out, if_neg (by omega), if_neg (by omega)], _, rfl⟩
                case measure => simp [intOf]; omega
          · obtain rfl : k = ys.length := by omega
            go_wp2
            go_ret
            exact ⟨ret_int (by rw [← HA.out, cmpL_long _ _ hlt]), T.out.trans ⟨rfl, rfl, rfl, Nat.le_refl _, fun _ _ => rfl⟩⟩
        · obtain rfl : k = xs.length := by omega
          by_cases hlt2 : xs.length < ys.length
          · go_wp2
            go_ret
            exact ⟨ret_int (by rw [← HA.out, cmpL_short _ _ hlt2]), T.out.trans ⟨rfl, rfl, rfl, Nat.le_refl _, fun _ _ => rfl⟩⟩
          · go_wp2
            go_ret
            exact ⟨ret_int (by rw [← HA.out, cmpL_same _ _ _ rfl (by omega)]), T.out.trans ⟨rfl, rfl, rfl, Nat.le_refl _, fun _ _ => rfl⟩⟩
end Go.Proofs.Ytimlpdcambmcjaa

namespace Go.Proofs.Ytimlpdcambmcjaa
open Go.ChangeShapes Go.WideShapes Go.ChangeAt Go.RowKit
set_option linter.unusedVariables false
set_option linter.unusedSimpArgs false

abbrev FL := List (Int × List Int)
def sumN (l : FL) : Nat := (l.map fun f => f.2.length).sum
/-- How many values a list of facts holds, each fact counted, too. -/
def szF (l : FL) : Int := (l.length : Int) + (sumN l : Int)
theorem szF_nonneg (l : FL) : 0 ≤ szF l := by unfold szF; omega
theorem szF_len {l : FL} (h : szF l ≤ 1048576) : l.length ≤ 1048576 := by unfold szF at h; omega
theorem sumN_take (l : FL) (k : Nat) (hk : k < l.length) : sumN (l.take (k + 1)) = sumN (l.take k) + (l.getD k (0, [])).2.length := by
  unfold sumN
  rw [List.take_succ_eq_append_getElem hk, List.map_append, List.sum_append]
  simp [List.getD_eq_getElem?_getD, hk]
theorem sumN_le (l : FL) (k : Nat) : sumN (l.take k) ≤ sumN l := by
  have : sumN l = sumN (l.take k) + sumN (l.drop k) := by
    unfold sumN
    rw [← List.sum_append, ← List.map_append, List.take_append_drop]
  omega
theorem szF_elem {l : FL} (h : szF l ≤ 1048576) {k : Nat} (hk : k < l.length) : (l.getD k (0, [])).2.length ≤ 1048576 := by
  have h1 := sumN_take l k hk
  have h2 := sumN_le l (k + 1)
  unfold szF at h
  omega

/-- What is left, or -1. -/
def szR (left z : Int) : Int := if left - z < 0 then -1 else left - z
theorem szR_neg {left z : Int} (h : left - z < 0) : szR left z = -1 := if_pos h
theorem szR_pos {left z : Int} (h : ¬ left - z < 0) : szR left z = left - z := if_neg h

end Go.Proofs.Ytimlpdcambmcjaa

namespace Go.Proofs.Ytimlpdcambmcjaa
open Go.ChangeShapes Go.WideShapes Go.ChangeAt Go.RowKit
set_option linter.unusedVariables false
set_option linter.unusedSimpArgs false

set_option maxRecDepth 100000 in
theorem fact_info : (Try.prog.info? 73).map (fun i => (i.zero, i.size, i.bytes)) = some (some (.agg #[.int .i64 0, .slice none 0 0]), 2, 32) := by kernel_rfl

/-- v1 is a slice of the numbers xs that owns block q (if it has any), which lies from lo to below hi. -/
def OwnV (w : World) (lo hi : Nat) (v1 : Value) (q : Nat) (xs : List Int) : Prop :=
  ∃ A c, v1 = .slice A xs.length c ∧ xs.length ≤ c ∧ c ≤ maxLen ∧ (0 < xs.length → A = some ⟨q, 0, none⟩ ∧ lo ≤ q ∧ q < hi ∧ ∃ m F, xs.length ≤ m ∧ w.rowIs q 3 m F ∧ ∀ i, i < xs.length → F i = .int .i64 (xs.getD i 0))
/-- Block g begins with the first k of the facts fs, their numbers each in a block of its own, all from lo to below hi. -/
def OwnP (w : World) (lo hi g m k : Nat) (fs : FL) : Prop :=
  lo ≤ g ∧ g < hi ∧ ∃ (F : Nat → Value) (bs : Nat → Nat), w.rowIs g 73 m F ∧ (∀ j, j < k → F (j * 2) = .int .i64 (fs.getD j (0, [])).1 ∧ OwnV w lo hi (F (j * 2 + 1)) (bs j) (fs.getD j (0, [])).2) ∧
    (∀ i j, i < j → j < k → 0 < (fs.getD i (0, [])).2.length → 0 < (fs.getD j (0, [])).2.length → bs i ≠ bs j)

theorem OwnV.mono {w : World} {lo hi lo' hi' q : Nat} {v : Value} {xs : List Int} (h : OwnV w lo hi v q xs) (h1 : lo' ≤ lo) (h2 : hi ≤ hi') : OwnV w lo' hi' v q xs := by
  obtain ⟨A, c, e, hc, hm, hx⟩ := h
  exact ⟨A, c, e, hc, hm, fun hp => by
    obtain ⟨a, b, d, r⟩ := hx hp
    exact ⟨a, by omega, by omega, r⟩⟩
theorem OwnV.keep {w w' : World} {lo hi q : Nat} {v : Value} {xs : List Int} (h : OwnV w lo hi v q xs) (hk : lo ≤ q → q < hi → (∃ c, w.heap[q]? = some (.cells c 3 (0, 0))) → w'.heap[q]? = w.heap[q]?) : OwnV w' lo hi v q xs := by
  obtain ⟨A, c, e, hc, hm, hx⟩ := h
  exact ⟨A, c, e, hc, hm, fun hp => by
    obtain ⟨a, b, d, m, F, h1, h2, h3⟩ := hx hp
    refine ⟨a, b, d, m, F, h1, World.rowIs.of_block h2 (hk b d ?_), h3⟩
    obtain ⟨cc, hcc, _⟩ := h2
    exact ⟨cc, hcc⟩⟩
theorem OwnV.ints {w : World} {lo hi q : Nat} {A : Option Addr} {n c : Nat} {xs : List Int} (h : OwnV w lo hi (.slice A n c) q xs) : n = xs.length ∧ xs.length ≤ c ∧ c ≤ maxLen ∧ Ints w lo hi A xs := by
  obtain ⟨A', c', e, hc, hm, hx⟩ := h
  injection e with e1 e2 e3
  subst e1 e2 e3
  refine ⟨rfl, hc, hm, fun hne => ?_⟩
  obtain ⟨ha, b, d, m, F, h1, h2, h3⟩ := hx (List.length_pos_iff.2 hne)
  exact ⟨q, 0, ha, b, d, fun k hk => by rw [Nat.zero_add, World.rowIs.cell h2 (show k < m by omega), h3 k hk]⟩
theorem OwnV.of_row {w : World} {lo hi q c : Nat} {xs : List Int} (h : Row w q xs) (h1 : lo ≤ q) (h2 : q < hi) (hc : xs.length ≤ c) (hm : c ≤ maxLen) : OwnV w lo hi (.slice (some ⟨q, 0, none⟩) xs.length c) q xs :=
  ⟨_, _, rfl, hc, hm, fun _ => ⟨rfl, h1, h2, _, _, Nat.le_refl _, h, fun _ _ => rfl⟩⟩

theorem OwnP.facts {w : World} {lo hi g m : Nat} {fs : FL} (h : OwnP w lo hi g m fs.length fs) (hm : fs.length * 2 ≤ m) : Facts w lo hi (some ⟨g, 0, none⟩) fs := fun _ => by
  obtain ⟨h1, h2, F, bs, hr, he, _⟩ := h
  refine ⟨g, 0, rfl, h1, h2, fun k hk => ?_⟩
  obtain ⟨e0, e1⟩ := he k hk
  obtain ⟨A, c, hv, _⟩ := id e1
  rw [hv] at e1
  obtain ⟨_, hc, hcm, hi⟩ := e1.ints
  refine ⟨A, c, ?_, ?_, hc, hcm, hi⟩
  · rw [Nat.zero_add, World.rowIs.cell hr (show k * 2 < m by omega), e0]
  · rw [Nat.zero_add, World.rowIs.cell hr (show k * 2 + 1 < m by omega), hv]

theorem size2 (w : World) (p p' : Addr) (u u' : Value) : ((w.setCell p u).setCell p' u').heap.size = w.heap.size := by rw [set_size, set_size]

/-- One fact more is stored. -/
theorem own_step {wr u : World} {lo g m k : Nat} {fs : FL} (h : OwnP wr lo wr.heap.size g m k fs) (hkm : k * 2 + 1 < m) {r : Int} {xs : List Int} (hf : fs.getD k (0, []) = (r, xs)) (hb : Below wr.heap.size wr u)
    {v : Value} {q : Nat} (hv : OwnV u lo u.heap.size v q xs) (hq : 0 < xs.length → wr.heap.size ≤ q) :
    OwnP ((u.setCell ⟨g, k * 2, none⟩ (.int .i64 r)).setCell ⟨g, k * 2 + 1, none⟩ v) lo ((u.setCell ⟨g, k * 2, none⟩ (.int .i64 r)).setCell ⟨g, k * 2 + 1, none⟩ v).heap.size g m (k + 1) fs := by
  rw [size2]
  obtain ⟨h1, h2, F, bs, hr, he, hd⟩ := h
  have hs := hb.size
  have hr2 : u.rowIs g 73 m F := World.rowIs.of_block hr (hb.block g h2)
  have far : ∀ b, b ≠ g → ((u.setCell ⟨g, k * 2, none⟩ (.int .i64 r)).setCell ⟨g, k * 2 + 1, none⟩ v).heap[b]? = u.heap[b]? := fun b hbg =>
    (Below.heap_setCell _ ⟨g, k * 2 + 1, none⟩ _ b hbg).trans (Below.heap_setCell _ ⟨g, k * 2, none⟩ _ b hbg)
  have ne : ∀ b, (∃ c, u.heap[b]? = some (.cells c 3 (0, 0))) → b ≠ g := by
    rintro b ⟨c, hc⟩ rfl
    obtain ⟨c2, hc2, _⟩ := hr2
    rw [hc] at hc2
    injection hc2 with hc2
    injection hc2 with _ ht
    exact absurd ht (by decide)
  have hlt : ∀ j, j < k → 0 < (fs.getD j (0, [])).2.length → bs j < wr.heap.size := fun j hj hp => by
    obtain ⟨_, A, c, _, _, _, hx⟩ := he j hj
    exact (hx hp).2.2.1
  refine ⟨h1, by omega, _, fun j => if j = k then q else bs j, (hr2.set (k * 2) _).set (k * 2 + 1) _, fun j hj => ?_, fun i j hij hj hi0 hj0 => ?_⟩
  · by_cases e : j = k
    · subst e
      have t1 : ¬ (j * 2 = j * 2 + 1) := by omega
      simp only [if_pos, t1, if_false, hf]
      exact ⟨trivial, hv.keep fun _ _ hc => far _ (ne _ hc)⟩
    · have t1 : ¬ (j * 2 = k * 2 + 1) := by omega
      have t2 : ¬ (j * 2 = k * 2) := by omega
      have t3 : ¬ (j * 2 + 1 = k * 2 + 1) := by omega
      have t4 : ¬ (j * 2 + 1 = k * 2) := by omega
      simp only [t1, t2, t3, t4, if_false, e]
      obtain ⟨e0, e1⟩ := he j (by omega)
      have e2 : OwnV u lo wr.heap.size (F (j * 2 + 1)) (bs j) (fs.getD j (0, [])).2 := e1.keep fun _ a _ => hb.block _ a
      exact ⟨e0, (e2.mono (Nat.le_refl _) hs).keep fun _ _ hc => far _ (ne _ hc)⟩
  · by_cases e : j = k
    · subst e
      have e' : i ≠ j := by omega
      simp only [if_pos, e', if_false]
      have := hlt i hij hi0
      rw [hf] at hj0
      have := hq hj0
      omega
    · have e' : i ≠ k := by omega
      simp only [e, e', if_false]
      exact hd i j hij (by omega) hi0 hj0

theorem makeFacts (n : Nat) (hn : n ≤ 1048576) :
    ∃ C : Array Value, (∀ i, i < n * 2 → C[i]? = some (if i % 2 = 0 then .int .i64 0 else .slice none 0 0)) ∧ C.size = n * 2 ∧ ∀ W : World, (Instr.makeSlice 48 (.int .i64 (n : Int)) (.int .i64 (n : Int))).run Try.prog W = .ok (.slice (some ⟨W.heap.size, 0, none⟩) n n) (W.alloc (.cells C 73)) := by
  obtain ⟨i0, hi, hz0, hz1, hz2⟩ := info_parts fact_info
  refine ⟨madeCells #[.int .i64 0, .slice none 0 0] (n * 2), fun i hin => ?_, size_madeCells _ _, fun W => ?_⟩
  · rcases Nat.mod_two_eq_zero_or_one i with h | h
    · simp [madeCells, hin, h]
    · simp [madeCells, hin, h]
  · have h := run_make (P := Try.prog) W 48 73 i0 (.agg #[.int .i64 0, .slice none 0 0]) Try.underlying48 hi hz0 .i64 .i64 (n : Int) (n : Int) (by omega) (by omega) (by rw [hz2]; omega) (by omega)
    rw [hz1, show ((n : Int)).toNat = n by omega] at h
    exact h

end Go.Proofs.Ytimlpdcambmcjaa

namespace Go.Proofs.Ytimlpdcambmcjaa
open Go.ChangeShapes Go.WideShapes Go.ChangeAt Go.RowKit
set_option linter.unusedVariables false
set_option linter.unusedSimpArgs false

theorem OwnP.rf {w : World} {lo g m : Nat} {fs : FL} (h : OwnP w lo w.heap.size g m fs.length fs) (hm : fs.length * 2 ≤ m) : RF w (some ⟨g, 0, none⟩) fs := (h.facts hm).mono (Nat.zero_le _) (Nat.le_refl _)
end Go.Proofs.Ytimlpdcambmcjaa

namespace Go.Proofs.Ytimlpdcambmcjaa
open Go.ChangeShapes Go.WideShapes Go.ChangeAt Go.RowKit
set_option linter.unusedVariables false
set_option linter.unusedSimpArgs false

section
variable {H : Type} {enc : TypeId × Value → H} {w : World}
end

/-- How many values a binding holds. -/
def szB (hs l : List Int) : Int := (hs.length : Int) + (l.length : Int)

/-- A binding of the call's own: its variables in block g, its values in block g + 1. -/
def BX (w : World) (g : Nat) (hs l : List Int) : Prop := Row w g hs ∧ Row w (g + 1) l
theorem BX.step {w w' : World} {g : Nat} {hs l : List Int} (h : BX w g hs l) (b : Below w.heap.size w w') : BX w' g hs l :=
  ⟨h.1.of_block (b.block _ (World.rowIs.lt h.1)), h.2.of_block (b.block _ (World.rowIs.lt h.2))⟩
theorem BX.ri {w : World} {g : Nat} {hs l : List Int} (h : BX w g hs l) : RI w (some ⟨g, 0, none⟩) hs := h.1.ri
theorem BX.rv {w : World} {g : Nat} {hs l : List Int} (h : BX w g hs l) : RI w (some ⟨g + 1, 0, none⟩) l := h.2.ri

end Go.Proofs.Ytimlpdcambmcjaa

namespace Go.Proofs.Ytimlpdcambmcjaa
open Go.ChangeShapes Go.WideShapes Go.ChangeAt Go.RowKit Go.Sort
set_option linter.unusedVariables false
set_option linter.unusedSimpArgs false

theorem takeI' (v : List Int) {k : Nat} (h : k < v.length) {x : Int} (hx : v.getD k 0 = x) : v.take (k + 1) = v.take k ++ [x] := by
  rw [List.take_succ_eq_append_getElem h]
  have : v[k] = v.getD k 0 := by simp [List.getD_eq_getElem?_getD, h]
  rw [this, hx]
theorem idx_ge : ∀ (hs : List Int) (t : Int) (k : Nat), k ≤ hs.length → t ∉ hs.take k → k ≤ hs.idxOf t
  | _, _, 0, _, _ => Nat.zero_le _
  | [], _, k + 1, h, _ => by simp at h
  | x :: xs, t, k + 1, h, hn => by
    rw [List.take_succ_cons] at hn
    have h1 : ¬ t = x := fun e => hn (by rw [e]; exact List.mem_cons_self)
    have h2 := idx_ge xs t k (by simpa using h) (fun hm => hn (List.mem_cons_of_mem _ hm))
    rw [List.idxOf_cons]
    have e : (x == t) = false := by simpa using fun e => h1 e.symm
    rw [e]
    simp only [cond_false]
    omega
theorem idx_at : ∀ (hs : List Int) (t : Int) (k : Nat), k < hs.length → t ∉ hs.take k → hs.getD k 0 = t → hs.idxOf t = k
  | [], _, k, h, _, _ => by simp at h
  | x :: xs, t, 0, _, _, he => by
    have : x = t := by simpa using he
    subst this
    simp
  | x :: xs, t, k + 1, h, hn, he => by
    rw [List.take_succ_cons] at hn
    have h1 : ¬ t = x := fun e => hn (by rw [e]; exact List.mem_cons_self)
    have h2 := idx_at xs t k (by simpa using h) (fun hm => hn (List.mem_cons_of_mem _ hm)) (by simpa using he)
    rw [List.idxOf_cons]
    have e : (x == t) = false := by simpa using fun e => h1 e.symm
    rw [e]
    simp only [cond_false]
    omega

/-- What a term is worth under the binding of hs to l. -/
def bval (hs l : List Int) (t : Int) : Int :=
  if inB t 10 17 = true then (if hs.idxOf t < hs.length ∧ hs.idxOf t < l.length then l.getD (hs.idxOf t) 0 else -1) else t
theorem bval_no {hs l : List Int} {t : Int} (h : inB t 10 17 = false) : bval hs l t = t := by simp [bval, h]
theorem bval_at {hs l : List Int} {t : Int} (h : inB t 10 17 = true) {k : Nat} (h1 : k < hs.length) (h2 : k < l.length) (h3 : t ∉ hs.take k) (h4 : hs.getD k 0 = t) : bval hs l t = l.getD k 0 := by
  have e := idx_at hs t k h1 h3 h4
  simp [bval, h, e, h1, h2]
theorem bval_none {hs l : List Int} {t : Int} (h : inB t 10 17 = true) {k : Nat} (h1 : k ≤ hs.length) (h3 : t ∉ hs.take k) (h2 : hs.length ≤ k ∨ l.length ≤ k) : bval hs l t = -1 := by
  have e := idx_ge hs t k h1 h3
  have : ¬ (hs.idxOf t < hs.length ∧ hs.idxOf t < l.length) := by omega
  simp [bval, h, this]
theorem notMem_snoc {hs : List Int} {t x : Int} {k : Nat} (hk : k < hs.length) (h3 : t ∉ hs.take k) (hx : hs.getD k 0 = x) (hne : ¬ x = t) : t ∉ hs.take (k + 1) := by
  rw [takeI' hs hk hx]
  simp only [List.mem_append, List.mem_singleton, not_or]
  exact ⟨h3, fun e => hne e.symm⟩

/-- The first place of x in v, or -1. -/
def idxI (v : List Int) (x : Int) : Int := if v.idxOf x < v.length then (v.idxOf x : Int) else -1
set_option maxRecDepth 100000 in
set_option maxHeartbeats 400000 in
theorem index_at (lo hi : Nat) (A : Option Addr) (c : Nat) (v : List Int) (x : Int) (hl : v.length ≤ 1048576) (w : World) (h : Ints w lo hi A v) :
    Calls Try.prog 80 #[.slice A v.length c, .int .i64 x] w fun e w' => e = .returned (.int .i64 (idxI v x)) ∧ w = w' := by
  have HI := Lib.hid h
  clear h
  have hl' : (v.length : Int) ≤ 1048576 := by omega
  go_enter Try.func80, Try.ntmps80
  go_wp2
  go_loop [5, 8] (fun _ i => ∃ k : Nat, k ≤ v.length ∧ i = .int .i64 k ∧ Hid (x ∉ v.take k)) (fun _ i => v.length - (intOf i).toNat)
  case atStart => exact ⟨0, by omega, rfl, Lib.hid (by simp)⟩
  case round =>
    obtain ⟨k, hk, rfl, ha⟩ := hrel
    by_cases hlt : k < v.length
    · obtain ⟨b, off, rfl, _, _, hc⟩ := HI.out.at_ hlt
      generalize hz : v.getD k 0 = z at hc
      have HZ := Lib.hid hz
      clear hz
      by_cases he : x = z
      · subst he
        go_wp2
        go_ret
        exact ⟨ret_int (by have := idx_at v x k hlt ha.out HZ.out; simp [idxI, this, hlt]), rfl⟩
      · have d1 : (x == z) = false := by simpa using he
        go_wp2
        go_round
        case rel => exact ⟨k + 1, by omega, by go_num, Lib.hid (notMem_snoc hlt ha.out HZ.out (fun e => he e.symm))⟩
        case measure => simp [intOf]; omega
    · obtain rfl : k = v.length := by omega
      go_wp2
      go_ret
      exact ⟨ret_int (by have := idx_ge v x v.length (Nat.le_refl _) ha.out; simp [idxI, show ¬ v.idxOf x < v.length by omega]), rfl⟩
end Go.Proofs.Ytimlpdcambmcjaa

namespace Go.Proofs.Ytimlpdcambmcjaa
open Go.ChangeShapes Go.WideShapes Go.ChangeAt Go.RowKit Go.Sort
set_option linter.unusedVariables false
set_option linter.unusedSimpArgs false

abbrev PL := List Int × List Int
/-- One term against one value. -/
def mst (p : PL) (t v : Int) : Option PL :=
  if inB t 10 17 = true then (if t ∈ p.1 then (if bval p.1 p.2 t = v then some p else none) else some (p.1 ++ [t], p.2 ++ [v])) else (if t = v then some p else none)
def mgo (p : PL) : List Int → List Int → Option PL
  | t :: ts, v :: vs => (mst p t v).bind fun q => mgo q ts vs
  | _, _ => some p
theorem mgo_nil (p : PL) (vs : List Int) : mgo p [] vs = some p := by cases vs <;> rfl
theorem mgo_append : ∀ (ts vs : List Int) (p : PL) (ts' vs' : List Int), ts.length = vs.length → mgo p (ts ++ ts') (vs ++ vs') = (mgo p ts vs).bind fun q => mgo q ts' vs'
  | [], [], p, ts', vs', _ => by simp [mgo_nil]
  | [], _ :: _, _, _, _, h => by simp at h
  | _ :: _, [], _, _, _, h => by simp at h
  | t :: ts, v :: vs, p, ts', vs', h => by
    have hl : ts.length = vs.length := by simpa using h
    show (mst p t v).bind (fun q => mgo q (ts ++ ts') (vs ++ vs')) = ((mst p t v).bind fun q => mgo q ts vs).bind fun q => mgo q ts' vs'
    cases mst p t v with
    | none => rfl
    | some q => exact mgo_append ts vs q ts' vs' hl
theorem split_at (l : List Int) {k : Nat} (hk : k < l.length) {x : Int} (hx : l.getD k 0 = x) : l = l.take k ++ x :: l.drop (k + 1) := by
  have e : l[k] = x := by rw [← hx]; simp [List.getD_eq_getElem?_getD, hk]
  rw [← e, List.getElem_cons_drop, List.take_append_drop]
theorem mgo_step {ts vs : List Int} (hl : ts.length = vs.length) {k : Nat} (hk : k < ts.length) {t v : Int} (ht : ts.getD k 0 = t) (hv : vs.getD k 0 = v) {p0 p : PL} (h : mgo p0 (ts.take k) (vs.take k) = some p) :
    mgo p0 (ts.take (k + 1)) (vs.take (k + 1)) = mst p t v := by
  rw [takeI' ts hk ht, takeI' vs (by omega) hv, mgo_append _ _ _ _ _ (by rw [List.length_take, List.length_take]; omega), h]
  show ((mst p t v).bind fun q => mgo q [] []) = _
  cases mst p t v <;> rfl
theorem mgo_fail {ts vs : List Int} (hl : ts.length = vs.length) {k : Nat} (hk : k < ts.length) {t v : Int} (ht : ts.getD k 0 = t) (hv : vs.getD k 0 = v) {p0 p : PL} (h : mgo p0 (ts.take k) (vs.take k) = some p) (hm : mst p t v = none) :
    mgo p0 ts vs = none := by
  rw [split_at ts hk ht, split_at vs (by omega) hv, mgo_append _ _ _ _ _ (by rw [List.length_take, List.length_take]; omega), h]
  show (mst p t v).bind _ = none
  rw [hm]
  rfl
/-- The value of a place of a binding. -/
def pval (p : PL) (t : Int) : Int := p.2.getD (p.1.idxOf t) 0
theorem bval_mem {p : PL} (hl : p.1.length = p.2.length) {t : Int} (h : inB t 10 17 = true) (hm : t ∈ p.1) : bval p.1 p.2 t = pval p t := by
  have := List.idxOf_lt_length_iff.2 hm
  simp [bval, pval, h, this, ← hl]
theorem pval_old {p : PL} (hl : p.1.length = p.2.length) {t : Int} (hm : t ∈ p.1) (x v : Int) : pval (p.1 ++ [x], p.2 ++ [v]) t = pval p t := by
  have h1 := List.idxOf_lt_length_iff.2 hm
  simp only [pval]
  rw [List.idxOf_append, if_pos hm, List.getD_eq_getElem?_getD, List.getElem?_append_left (by omega), ← List.getD_eq_getElem?_getD]
theorem pval_new {p : PL} (hl : p.1.length = p.2.length) {t : Int} (hm : t ∉ p.1) (v : Int) : pval (p.1 ++ [t], p.2 ++ [v]) t = v := by
  simp only [pval]
  rw [List.idxOf_append, if_neg hm]
  simp [List.getD_eq_getElem?_getD, hl]
theorem mst_len {p q : PL} {t v : Int} (h : mst p t v = some q) (hl : p.1.length = p.2.length) : q.1.length = q.2.length ∧ p.1.length ≤ q.1.length ∧ q.1.length ≤ p.1.length + 1 := by
  unfold mst at h
  split at h
  · split at h
    · split at h
      · injection h with h; subst h; exact ⟨hl, by omega, by omega⟩
      · cases h
    · injection h with h; subst h; simp [hl]
  · split at h
    · injection h with h; subst h; exact ⟨hl, by omega, by omega⟩
    · cases h
theorem mgo_len : ∀ (ts vs : List Int) (p q : PL), mgo p ts vs = some q → p.1.length = p.2.length → q.1.length = q.2.length ∧ p.1.length ≤ q.1.length ∧ q.1.length ≤ p.1.length + ts.length
  | [], vs, p, q, h, hl => by rw [mgo_nil] at h; injection h with h; subst h; exact ⟨hl, by omega, by simp⟩
  | t :: ts, [], p, q, h, hl => by injection h with h; subst h; exact ⟨hl, by omega, by omega⟩
  | t :: ts, v :: vs, p, q, h, hl => by
    change (mst p t v).bind _ = _ at h
    cases hm : mst p t v with
    | none => rw [hm] at h; cases h
    | some r =>
      rw [hm] at h
      have h1 := mst_len hm hl
      have h2 := mgo_len ts vs r q h h1.1
      rw [List.length_cons]
      exact ⟨h2.1, by omega, by omega⟩
/-- What MatchAtom gives. -/
def matB (p : PL) (r : Int) (ts : List Int) (r' : Int) (vs : List Int) : Option PL :=
  if r = r' ∧ ts.length = vs.length ∧ p.1.length = p.2.length then mgo p ts vs else none
end Go.Proofs.Ytimlpdcambmcjaa

namespace Go.Proofs.Ytimlpdcambmcjaa
open Go.ChangeShapes Go.WideShapes Go.ChangeAt Go.RowKit Go.Sort
set_option linter.unusedVariables false
set_option linter.unusedSimpArgs false

/-- Is number k of the list a fact that is greater than the one before? -/
def okAt (s : List Int) (l : FL) (k : Nat) : Bool := factB s (l.getD k (0, [])).1 (l.getD k (0, [])).2 && (decide (k = 0) || decide (cmpF (l.getD (k - 1) (0, [])).1 (l.getD (k - 1) (0, [])).2 (l.getD k (0, [])).1 (l.getD k (0, [])).2 < 0))
def allOk (s : List Int) (l : FL) (n : Nat) : Bool := (List.range n).all (okAt s l)
theorem allOk_succ (s : List Int) (l : FL) (k : Nat) : allOk s l (k + 1) = (allOk s l k && okAt s l k) := by
  unfold allOk
  rw [List.range_succ, List.all_append]
  simp
theorem allOk_not (s : List Int) (l : FL) (k n : Nat) (hk : k < n) (h : okAt s l k = false) : allOk s l n = false := by
  unfold allOk
  rw [List.all_eq_false]
  exact ⟨k, by simpa using hk, by simp [h]⟩
def areB (s : List Int) (l : FL) : Bool := allOk s l l.length && schB s && decide (l.length ≤ 24)

end Go.Proofs.Ytimlpdcambmcjaa

namespace Go.Proofs.Ytimlpdcambmcjaa
open Go.ChangeShapes Go.WideShapes Go.ChangeAt Go.RowKit Go.Sort
set_option linter.unusedVariables false
set_option linter.unusedSimpArgs false

theorem take_more (xs ys : List Int) (hl : xs.length = ys.length) (k : Nat) (h : xs.take k = ys.take k) (he : xs.getD k 0 = ys.getD k 0) : xs.take (k + 1) = ys.take (k + 1) := by
  by_cases hk : k < xs.length
  · exact eq_take xs ys hl k hk h he
  · rw [List.take_of_length_le (by omega), List.take_of_length_le (by omega)] at h ⊢
    exact h
theorem take_differ (xs ys : List Int) (k : Nat) (h : xs.getD k 0 ≠ ys.getD k 0) : xs ≠ ys := by rintro rfl; exact h rfl

/-- The three cells of the block from place k on. -/
def cells3 (xs : List Int) (k : Nat) : List Value := ((xs.drop k).take 3).map (Value.int .i64)
theorem cells3_at (xs : List Int) (k j : Nat) (v : Value) (h : (cells3 xs k)[j]? = some v) : j < 3 ∧ k + j < xs.length ∧ v = .int .i64 (xs.getD (k + j) 0) := by
  unfold cells3 at h
  simp only [List.getElem?_map, List.getElem?_take, List.getElem?_drop, Option.map_eq_some_iff] at h
  obtain ⟨a, h, rfl⟩ := h
  split at h
  · rename_i h3
    have hlt : k + j < xs.length := (List.getElem?_eq_some_iff.1 h).1
    exact ⟨h3, hlt, by simp [List.getD_eq_getElem?_getD, h]⟩
  · cases h
theorem splice3_at (xs : List Int) (k : Nat) : splice [Value.int .i64 0, .int .i64 0, .int .i64 0] 0 (cells3 xs k) = [.int .i64 (xs.getD k 0), .int .i64 (xs.getD (k + 1) 0), .int .i64 (xs.getD (k + 2) 0)] := by
  unfold splice cells3
  have e0 : xs.getD k 0 = (xs.drop k).getD 0 0 := by simp [List.getD_eq_getElem?_getD]
  have e1 : xs.getD (k + 1) 0 = (xs.drop k).getD 1 0 := by simp [List.getD_eq_getElem?_getD]
  have e2 : xs.getD (k + 2) 0 = (xs.drop k).getD 2 0 := by simp [List.getD_eq_getElem?_getD]
  rw [e0, e1, e2]
  generalize xs.drop k = ys
  match ys with
  | [] => rfl
  | [_] => rfl
  | [_, _] => rfl
  | _ :: _ :: _ :: _ => simp

end Go.Proofs.Ytimlpdcambmcjaa
