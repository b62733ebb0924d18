/- What comparing two facts answers. Conditions: none beyond each theorem's own. -/
import Derived.Test.YtimlpdcambmcjaaReads
namespace Go.Proofs.Ytimlpdcambmcjaa
open Go.ChangeShapes Go.WideShapes Go.ChangeAt Go.RowKit
set_option linter.unusedVariables false
set_option linter.unusedSimpArgs false

def cmpI (a b : Int) : Int := if a < b then -1 else if b < a then 1 else 0
def cmpL : List Int → List Int → Int
  | [], [] => 0
  | [], _ :: _ => -1
  | _ :: _, [] => 1
  | x :: xs, y :: ys => if x < y then -1 else if y < x then 1 else cmpL xs ys
def cmpF (r : Int) (xs : List Int) (r' : Int) (ys : List Int) : Int := if r < r' then -1 else if r' < r then 1 else cmpL xs ys
theorem cmpL_step (xs ys : List Int) (k : Nat) (h1 : k < xs.length) (h2 : k < ys.length) :
    cmpL (xs.drop k) (ys.drop k) = if xs.getD k 0 < ys.getD k 0 then -1 else if ys.getD k 0 < xs.getD k 0 then 1 else cmpL (xs.drop (k + 1)) (ys.drop (k + 1)) := by
  rw [List.drop_eq_getElem_cons h1, List.drop_eq_getElem_cons h2]
  simp [cmpL, List.getD_eq_getElem?_getD, h1, h2]
theorem cmpL_short (xs ys : List Int) (h2 : xs.length < ys.length) : cmpL (xs.drop xs.length) (ys.drop xs.length) = -1 := by
  rw [List.drop_length, List.drop_eq_getElem_cons h2]
  rfl
theorem cmpL_long (xs ys : List Int) (h2 : ys.length < xs.length) : cmpL (xs.drop ys.length) (ys.drop ys.length) = 1 := by
  rw [List.drop_length, List.drop_eq_getElem_cons h2]
  rfl
theorem cmpL_same (xs ys : List Int) (k : Nat) (h1 : xs.length = k) (h2 : ys.length = k) : cmpL (xs.drop k) (ys.drop k) = 0 := by
  rw [← h1, List.drop_length, h1, ← h2, List.drop_length]
  rfl
theorem cmpL_rng : ∀ xs ys : List Int, -1 ≤ cmpL xs ys ∧ cmpL xs ys ≤ 1
  | [], [] => by simp [cmpL]
  | [], _ :: _ => by simp [cmpL]
  | _ :: _, [] => by simp [cmpL]
  | x :: xs, y :: ys => by
    have := cmpL_rng xs ys
    simp only [cmpL]
    split
    · omega
    · split <;> omega
theorem cmpL_zero : ∀ xs ys : List Int, cmpL xs ys = 0 ↔ xs = ys
  | [], [] => by simp [cmpL]
  | [], _ :: _ => by simp [cmpL]
  | _ :: _, [] => by simp [cmpL]
  | x :: xs, y :: ys => by
    have := cmpL_zero xs ys
    simp only [cmpL, List.cons.injEq]
    split
    · constructor
      · intro h; omega
      · rintro ⟨rfl, _⟩; omega
    · split
      · constructor
        · intro h; omega
        · rintro ⟨rfl, _⟩; omega
      · rw [this]
        constructor
        · intro h; exact ⟨by omega, h⟩
        · exact fun h => h.2
theorem cmpF_rng (r : Int) (xs : List Int) (r' : Int) (ys : List Int) : -1 ≤ cmpF r xs r' ys ∧ cmpF r xs r' ys ≤ 1 := by
  have := cmpL_rng xs ys
  unfold cmpF
  split
  · omega
  · split <;> omega
theorem cmpF_zero (r : Int) (xs : List Int) (r' : Int) (ys : List Int) : cmpF r xs r' ys = 0 ↔ r = r' ∧ xs = ys := by
  have := cmpL_zero xs ys
  unfold cmpF
  split
  · constructor
    · intro h; omega
    · rintro ⟨rfl, _⟩; omega
  · split
    · constructor
      · intro h; omega
      · rintro ⟨rfl, _⟩; omega
    · rw [this]
      constructor
      · intro h; exact ⟨by omega, h⟩
      · exact fun h => h.2

theorem isNaN_any (x : Int) (w : World) : Calls Try.prog 110 #[.int .i64 x] w fun e w' => e = .returned (.bool false) ∧ w = w' := by
  go_enter Try.func110, Try.ntmps110
  go_wp2
  go_ret
  exact ⟨by simp, rfl⟩

theorem cmpCompare_any (x y : Int) (w : World) : Calls Try.prog 103 #[.int .i64 x, .int .i64 y] w fun e w' => e = .returned (.int .i64 (cmpI x y)) ∧ w = w' := by
  rcases (by omega : x < y ∨ (¬ x < y ∧ y < x) ∨ (¬ x < y ∧ ¬ y < x)) with h | ⟨h, h2⟩ | ⟨h, h2⟩
  · rw [show cmpI x y = -1 by simp [cmpI, h]]
    go_enter Try.func103, Try.ntmps103
    go_wp2_with fail
    refine (isNaN_any x _).mono ?_
    rintro e w1 ⟨rfl, rfl⟩
    go_wp2_with fail
    refine (isNaN_any y _).mono ?_
    rintro e w1 ⟨rfl, rfl⟩
    go_wp2
    go_ret
    exact ⟨rfl, rfl⟩
  · rw [show cmpI x y = 1 by simp [cmpI, h, h2]]
    go_enter Try.func103, Try.ntmps103
    go_wp2_with fail
    refine (isNaN_any x _).mono ?_
    rintro e w1 ⟨rfl, rfl⟩
    go_wp2_with fail
    refine (isNaN_any y _).mono ?_
    rintro e w1 ⟨rfl, rfl⟩
    go_wp2
    go_ret
    exact ⟨rfl, rfl⟩
  · rw [show cmpI x y = 0 by simp [cmpI, h, h2]]
    go_enter Try.func103, Try.ntmps103
    go_wp2_with fail
    refine (isNaN_any x _).mono ?_
    rintro e w1 ⟨rfl, rfl⟩
    go_wp2_with fail
    refine (isNaN_any y _).mono ?_
    rintro e w1 ⟨rfl, rfl⟩
    go_wp2
    go_ret
    exact ⟨rfl, rfl⟩

set_option maxHeartbeats 400000 in
theorem slicesCompare_any (A A' : Option Addr) (c c' : Nat) (xs ys : List Int) (hl : xs.length ≤ 140737488355328) (hl2 : ys.length ≤ 140737488355328) (w : World) (h : RI w A xs) (h' : RI w A' ys) :
    Calls Try.prog 104 #[.slice A xs.length c, .slice A' ys.length c'] w fun e w' => e = .returned (.int .i64 (cmpL xs ys)) ∧ w = w' := by
  have HI := Lib.hid h
  have HJ := Lib.hid h'
  clear h h'
  have hl' : (xs.length : Int) ≤ 140737488355328 := by omega
  have hl2' : (ys.length : Int) ≤ 140737488355328 := by omega
  have HC := Lib.hid cmpL_step
  go_enter Try.func104, Try.ntmps104
  go_wp2
  go_loop [5, 6, 7, 8, 11] (fun _ _ _ _ i => ∃ k : Nat, k ≤ xs.length ∧ k ≤ ys.length ∧ i = .int .i64 k ∧ cmpL (xs.drop k) (ys.drop k) = cmpL xs ys) (fun _ _ _ _ i => xs.length - (intOf i).toNat)
  case atStart => exact ⟨0, by omega, by omega, rfl, rfl⟩
  case round =>
    obtain ⟨k, hk, hk2, rfl, ha⟩ := hrel
    have HA := Lib.hid ha
    clear ha
    by_cases hlt : k < xs.length
    · obtain ⟨b, off, rfl, _, hc⟩ := HI.out.at_ hlt
      generalize hx : xs.getD k 0 = x at hc
      have HX := Lib.hid hx
      clear hx
      by_cases hlt2 : k < ys.length
      · obtain ⟨b', off', rfl, _, hc'⟩ := HJ.out.at_ hlt2
        generalize hy : ys.getD k 0 = y at hc'
        have HY := Lib.hid hy
        clear hy
        have S := Lib.hid (cmpL_step xs ys k hlt hlt2)
        go_wp2_with fail
        refine (cmpCompare_any x y _).mono ?_
        rintro e w1 ⟨rfl, rfl⟩
        by_cases h1 : x < y
        · rw [show cmpI x y = -1 by simp [cmpI, h1]]
          go_wp2
          go_ret
          exact ⟨ret_int (by rw [← HA.out, S.out, HX.out, HY.out, if_pos h1]), rfl⟩
        · by_cases h2 : y < x
          · rw [show cmpI x y = 1 by simp [cmpI, h1, h2]]
            go_wp2
            go_ret
            exact ⟨ret_int (by rw [← HA.out, S.out, HX.out, HY.out, if_neg (by omega), if_pos h2]), rfl⟩
          · rw [show cmpI x y = 0 by simp [cmpI, h1, h2]]
            go_wp2
            go_round
            case rel => exact ⟨k + 1, by omega, by omega, by go_num, by rw [← HA.out, S.out, HX.out, HY.out, if_neg (by omega), if_neg (by omega)]⟩
            case measure => simp [intOf]; omega
      · obtain rfl : k = ys.length := by omega
        go_wp2
        go_ret
        exact ⟨ret_int (by rw [← HA.out, cmpL_long _ _ hlt]), rfl⟩
    · obtain rfl : k = xs.length := by omega
      by_cases hlt2 : xs.length < ys.length
      · go_wp2
        go_ret
        exact ⟨ret_int (by rw [← HA.out, cmpL_short _ _ hlt2]), rfl⟩
      · go_wp2
        go_ret
        exact ⟨ret_int (by rw [← HA.out, cmpL_same _ _ _ rfl (by omega)]), rfl⟩
end Go.Proofs.Ytimlpdcambmcjaa
