/- What the functions on lists of numbers answer. Conditions: none beyond each theorem's own. -/
import Derived.Test.YtimlpdcambmcjaaDoorInts
namespace Go.Proofs.YtimlpdcambmcjaaDoor
open Go.ChangeShapes Go.WideShapes Go.ChangeAt Go.RowKit
set_option linter.unusedVariables false

set_option maxRecDepth 100000 in
theorem isValue_any (x : Int) (w : World) : Calls Tryd.prog 62 #[.int .i64 x] w fun e w' => e = .returned (.bool (inB x 0 9)) ∧ w = w' := by
  go_enter Tryd.func62, Tryd.ntmps62
  go_wp2_with fail
  refine (isBetween_any x 0 9 _).mono ?_
  rintro e w' ⟨rfl, rfl⟩
  go_wp2
  go_ret
  exact ⟨rfl, rfl⟩

set_option maxRecDepth 100000 in
theorem isRelation_any (x : Int) (w : World) : Calls Tryd.prog 49 #[.int .i64 x] w fun e w' => e = .returned (.bool (inB x 0 2)) ∧ w = w' := by
  go_enter Tryd.func49, Tryd.ntmps49
  go_wp2_with fail
  refine (isBetween_any x 0 2 _).mono ?_
  rintro e w' ⟨rfl, rfl⟩
  go_wp2
  go_ret
  exact ⟨rfl, rfl⟩

set_option maxRecDepth 100000 in
theorem impl_IsVar (x : Int) (w : World) : Calls Tryd.prog 55 #[.int .i64 x] w fun e w' => e = .returned (.bool (inB x 10 17)) ∧ w = w' := by
  go_enter Tryd.func55, Tryd.ntmps55
  go_wp2_with fail
  refine (isBetween_any x 10 17 _).mono ?_
  rintro e w' ⟨rfl, rfl⟩
  go_wp2
  go_ret
  exact ⟨rfl, rfl⟩

set_option maxRecDepth 100000 in
theorem spec_IsVar (x : Int) (w : World) : Calls Tryd.prog 37 #[.int .i64 x] w fun e w' => e = .returned (.bool (inB x 10 17)) ∧ w = w' := by
  go_enter Tryd.func37, Tryd.ntmps37
  go_wp2_with fail
  refine (l1In_any x 10 17 _).mono ?_
  rintro e w' ⟨rfl, rfl⟩
  go_wp2
  go_ret
  exact ⟨rfl, rfl⟩

theorem term_yes {x : Int} (h : inB x 0 9 = true) : inB x 0 17 = true := by
  simp [inB] at h ⊢
  omega
theorem term_no {x : Int} (h : inB x 0 9 = false) : inB x 0 17 = inB x 10 17 := by
  have h' : ¬ (0 ≤ x ∧ x ≤ 9) := by simpa [inB] using h
  unfold inB
  rw [Bool.eq_iff_iff]
  simp
  omega
set_option maxRecDepth 100000 in
theorem impl_IsTerm (x : Int) (w : World) : Calls Tryd.prog 52 #[.int .i64 x] w fun e w' => e = .returned (.bool (inB x 0 17)) ∧ w = w' := by
  by_cases h : inB x 0 9 = true
  · have H := Lib.hid h
    have T := Lib.hid (term_yes h)
    clear h
    go_enter Tryd.func52, Tryd.ntmps52
    go_wp2_with fail
    refine (isValue_any x _).mono ?_
    rintro e w' ⟨he, rfl⟩
    rw [H.out] at he
    subst he
    go_wp2
    go_ret
    exact ⟨ret_bool T.out.symm, rfl⟩
  · have H := Lib.hid (show inB x 0 9 = false by simpa using h)
    have T := Lib.hid (term_no H.out)
    clear h
    go_enter Tryd.func52, Tryd.ntmps52
    go_wp2_with fail
    refine (isValue_any x _).mono ?_
    rintro e w' ⟨he, rfl⟩
    rw [H.out] at he
    subst he
    go_wp2_with fail
    refine (impl_IsVar x _).mono ?_
    rintro e w' ⟨rfl, rfl⟩
    go_wp2
    go_ret
    exact ⟨ret_bool T.out.symm, rfl⟩

set_option maxRecDepth 100000 in
theorem spec_IsTerm (x : Int) (w : World) : Calls Tryd.prog 39 #[.int .i64 x] w fun e w' => e = .returned (.bool (inB x 0 17)) ∧ w = w' := by
  by_cases h : inB x 0 9 = true
  · have H := Lib.hid h
    have T := Lib.hid (term_yes h)
    clear h
    go_enter Tryd.func39, Tryd.ntmps39
    go_wp2_with fail
    refine (l1In_any x 0 9 _).mono ?_
    rintro e w' ⟨he, rfl⟩
    rw [H.out] at he
    subst he
    go_wp2
    go_ret
    exact ⟨ret_bool T.out.symm, rfl⟩
  · have H := Lib.hid (show inB x 0 9 = false by simpa using h)
    have T := Lib.hid (term_no H.out)
    clear h
    go_enter Tryd.func39, Tryd.ntmps39
    go_wp2_with fail
    refine (l1In_any x 0 9 _).mono ?_
    rintro e w' ⟨he, rfl⟩
    rw [H.out] at he
    subst he
    go_wp2_with fail
    refine (spec_IsVar x _).mono ?_
    rintro e w' ⟨rfl, rfl⟩
    go_wp2
    go_ret
    exact ⟨ret_bool T.out.symm, rfl⟩

set_option maxHeartbeats 400000 in
set_option maxRecDepth 100000 in
theorem areAll_value (lo hi : Nat) (A : Option Addr) (c : Nat) (s : List Int) (hl : s.length ≤ 140737488355328) (w : World) (h : Ints w lo hi A s) :
    Calls Tryd.prog 51 #[.slice A s.length c, .func (.func 62) #[] #[]] w fun e w' => e = .returned (.bool (allB 0 9 s)) ∧ w = w' := by
  have HI := Lib.hid h
  clear h
  have hl' : (s.length : Int) ≤ 140737488355328 := by omega
  go_enter Tryd.func51, Tryd.ntmps51
  go_wp2
  go_loop [6, 9] (fun _ i => ∃ k : Nat, k ≤ s.length ∧ i = .int .i64 k ∧ allB 0 9 (s.take k) = true) (fun _ i => s.length - (intOf i).toNat)
  case atStart => exact ⟨0, by omega, rfl, rfl⟩
  case round =>
    obtain ⟨k, hk, rfl, ha⟩ := hrel
    have HA := Lib.hid ha
    clear ha
    by_cases hlt : k < s.length
    · obtain ⟨b, off, rfl, _, _, hc⟩ := HI.out.at_ hlt
      generalize hx : s.getD k 0 = x at hc
      have HX := Lib.hid hx
      clear hx
      by_cases hin : inB x 0 9 = true
      · go_wp2_with fail
        refine (isValue_any x _).mono ?_
        rintro e w' ⟨rfl, rfl⟩
        rw [hin]
        go_wp2
        go_round
        case rel => exact ⟨k + 1, by omega, by go_num, by rw [allB_take _ _ _ _ hlt, HA.out, HX.out, hin]; rfl⟩
        case measure => simp [intOf]; omega
      · have hin' : inB x 0 9 = false := by simpa using hin
        go_wp2_with fail
        refine (isValue_any x _).mono ?_
        rintro e w' ⟨rfl, rfl⟩
        rw [hin']
        go_wp2
        go_ret
        exact ⟨ret_bool (allB_not _ _ _ k hlt (by rw [HX.out]; exact hin')).symm, rfl⟩
    · obtain rfl : k = s.length := by omega
      go_wp2
      go_ret
      exact ⟨ret_bool (by have := HA.out; rw [take_all] at this; rw [this]), rfl⟩

set_option maxHeartbeats 400000 in
set_option maxRecDepth 100000 in
theorem areAll_term (lo hi : Nat) (A : Option Addr) (c : Nat) (s : List Int) (hl : s.length ≤ 140737488355328) (w : World) (h : Ints w lo hi A s) :
    Calls Tryd.prog 51 #[.slice A s.length c, .func (.func 52) #[] #[]] w fun e w' => e = .returned (.bool (allB 0 17 s)) ∧ w = w' := by
  have HI := Lib.hid h
  clear h
  have hl' : (s.length : Int) ≤ 140737488355328 := by omega
  go_enter Tryd.func51, Tryd.ntmps51
  go_wp2
  go_loop [6, 9] (fun _ i => ∃ k : Nat, k ≤ s.length ∧ i = .int .i64 k ∧ allB 0 17 (s.take k) = true) (fun _ i => s.length - (intOf i).toNat)
  case atStart => exact ⟨0, by omega, rfl, rfl⟩
  case round =>
    obtain ⟨k, hk, rfl, ha⟩ := hrel
    have HA := Lib.hid ha
    clear ha
    by_cases hlt : k < s.length
    · obtain ⟨b, off, rfl, _, _, hc⟩ := HI.out.at_ hlt
      generalize hx : s.getD k 0 = x at hc
      have HX := Lib.hid hx
      clear hx
      by_cases hin : inB x 0 17 = true
      · go_wp2_with fail
        refine (impl_IsTerm x _).mono ?_
        rintro e w' ⟨rfl, rfl⟩
        rw [hin]
        go_wp2
        go_round
        case rel => exact ⟨k + 1, by omega, by go_num, by rw [allB_take _ _ _ _ hlt, HA.out, HX.out, hin]; rfl⟩
        case measure => simp [intOf]; omega
      · have hin' : inB x 0 17 = false := by simpa using hin
        go_wp2_with fail
        refine (impl_IsTerm x _).mono ?_
        rintro e w' ⟨rfl, rfl⟩
        rw [hin']
        go_wp2
        go_ret
        exact ⟨ret_bool (allB_not _ _ _ k hlt (by rw [HX.out]; exact hin')).symm, rfl⟩
    · obtain rfl : k = s.length := by omega
      go_wp2
      go_ret
      exact ⟨ret_bool (by have := HA.out; rw [take_all] at this; rw [this]), rfl⟩

theorem eq_take (xs ys : List Int) (hl : xs.length = ys.length) (k : Nat) (hk : k < xs.length) (h : xs.take k = ys.take k) (he : xs.getD k 0 = ys.getD k 0) : xs.take (k + 1) = ys.take (k + 1) := by
  rw [List.take_succ_eq_append_getElem hk, List.take_succ_eq_append_getElem (by omega), h]
  have h1 : xs[k] = xs.getD k 0 := by simp [List.getD_eq_getElem?_getD, hk]
  have h2 : ys[k]'(by omega) = ys.getD k 0 := by simp [List.getD_eq_getElem?_getD, show k < ys.length by omega]
  rw [h1, h2, he]

set_option maxHeartbeats 400000 in
set_option maxRecDepth 100000 in
theorem eqIntS_any (lo hi lo' hi' : Nat) (A A' : Option Addr) (c c' : Nat) (xs ys : List Int) (hl : xs.length ≤ 140737488355328) (hl2 : ys.length ≤ 140737488355328) (w : World) (h : Ints w lo hi A xs) (h' : Ints w lo' hi' A' ys) :
    Calls Tryd.prog 33 #[.slice A xs.length c, .slice A' ys.length c'] w fun e w' => e = .returned (.bool (decide (xs = ys))) ∧ Below w.heap.size w w' := by
  by_cases hlen : xs.length = ys.length
  · have HI := Lib.hid h
    have HJ := Lib.hid h'
    have HL := Lib.hid hlen
    clear h h'
    have hl' : (xs.length : Int) ≤ 140737488355328 := by omega
    rw [← hlen]
    clear hlen
    go_enter Tryd.func33, Tryd.ntmps33
    go_wp2
    go_loopw [5] (fun i wr => ∃ k : Nat, k ≤ xs.length ∧ i = .int .i64 k ∧ xs.take k = ys.take k ∧ Below w.heap.size w wr ∧ wr.heap = w.heap) (fun i _ => xs.length - (intOf i).toNat)
    case atStart => exact ⟨0, by omega, rfl, rfl, Below.refl _ _, rfl⟩
    case round =>
      obtain ⟨k, hk, rfl, ha, hb, hh⟩ := hrel
      have HA := Lib.hid ha
      have HH := Lib.hid hh
      clear ha hh
      by_cases hlt : k < xs.length
      · have HI1 : Ints wr lo hi A xs := HI.out.keep fun b _ _ => by rw [HH.out]
        have HJ1 : Ints wr lo' hi' A' ys := HJ.out.keep fun b _ _ => by rw [HH.out]
        obtain ⟨b, off, rfl, _, _, hc⟩ := HI1.at_ hlt
        obtain ⟨b', off', rfl, _, _, hc'⟩ := HJ1.at_ (show k < ys.length by have := HL.out; omega)
        generalize hx : xs.getD k 0 = x at hc
        generalize hy : ys.getD k 0 = y at hc'
        have HX := Lib.hid hx
        have HY := Lib.hid hy
        clear hx hy HI1 HJ1
        have hk0 : (0 : Int) ≤ (k : Int) := by omega
        have hk1 : (k : Int) < (xs.length : Int) := by omega
        by_cases hin : x = y
        · subst hin
          go_wp2
          go_quiet (fail)
          go_wp2
          go_roundw
          case rel => exact ⟨k + 1, by omega, by go_num, eq_take _ _ HL.out _ hlt HA.out (by rw [HX.out, HY.out]), below_drewN hb _, HH.out⟩
          case measure => simp [intOf]; omega
        · have hd : (x == y) = false := by simpa using hin
          have hd2 : (x != y) = true := by simpa using hin
          go_wp2
          go_quiet (fail)
          go_wp2
          go_ret
          exact ⟨ret_bool (by rw [decide_eq_false]; rintro rfl; exact hin (HX.out.symm.trans HY.out)), below_drewN hb _⟩
      · obtain rfl : k = xs.length := by omega
        go_wp2
        go_ret
        exact ⟨ret_bool (by rw [decide_eq_true]; have := HA.out; rwa [take_all, HL.out, take_all] at this), hb⟩
  · have hd : ((xs.length : Int) == (ys.length : Int)) = false := by simp; omega
    have hd2 : ((xs.length : Int) != (ys.length : Int)) = true := by simp; omega
    have H := Lib.hid hlen
    clear hlen
    go_enter Tryd.func33, Tryd.ntmps33
    go_wp2
    go_ret
    exact ⟨ret_bool (by rw [decide_eq_false]; rintro rfl; exact H.out rfl), Below.refl _ _⟩

set_option maxRecDepth 100000 in
theorem szIntS_any (A : Option Addr) (c n : Nat) (left : Int) (hl : n ≤ 9223372036854775807) (h0 : 0 ≤ left) (h1 : left ≤ 1048576) (w : World) :
    Calls Tryd.prog 15 #[.slice A n c, .int .i64 left] w fun e w' => e = .returned (.int .i64 (if left - n < 0 then -1 else left - n)) ∧ w = w' := by
  have hl' : (n : Int) ≤ 9223372036854775807 := by omega
  by_cases h : left - n < 0
  · rw [if_pos h]
    go_enter Tryd.func15, Tryd.ntmps15
    go_wp2
    go_ret
    exact ⟨rfl, rfl⟩
  · rw [if_neg h]
    have h' : (n : Int) ≤ left := by omega
    go_enter Tryd.func15, Tryd.ntmps15
    go_wp2
    go_ret
    exact ⟨rfl, rfl⟩
end Go.Proofs.YtimlpdcambmcjaaDoor
