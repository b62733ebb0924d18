/- What the two functions FormatAccess answer. Conditions: none beyond each theorem's own. -/
import Derived.Test.YtcgmdleefaplfaaDoorFmtG
namespace Go.Proofs.YtcgmdleefaplfaaDoor
open Go.ChangeShapes Go.WideShapes Go.ChangeAt Go.RowKit Go.Sort
set_option linter.unusedVariables false
set_option linter.unusedSimpArgs false

/-- Has the access a text? -/
def acOk (r : Int) (xs : List Int) : Bool := inB r 0 4 && decide (xs.length ≤ 3) && allB 0 9 xs
/-- The text of an access. -/
def fmtAc (r : Int) (xs : List Int) : ByteArray := if acOk r xs = true then ⟨([109, dg r, 40] ++ commaL xs ++ [41]).toArray⟩ else ⟨#[]⟩
theorem fmtAc_yes {r : Int} {xs : List Int} (h : acOk r xs = true) : fmtAc r xs = ⟨([109, dg r, 40] ++ commaL xs ++ [41]).toArray⟩ := if_pos h
theorem fmtAc_no {r : Int} {xs : List Int} (h : acOk r xs = false) : fmtAc r xs = ⟨#[]⟩ := if_neg (by simp [h])

set_option maxRecDepth 100000 in
set_option maxHeartbeats 1000000 in
theorem impl_FormatAccess (r : Int) (xs : List Int) (A : Option Addr) (c : Nat) (hl : xs.length ≤ 1048576) (w : World) (h : RI w A xs) (ht : Tab w) :
    Calls Tryd.prog 13 #[.agg #[.int .i64 r, .slice A xs.length c]] w fun e w' => e = .returned (.string (fmtAc r xs)) ∧ Below w.heap.size w w' := by
  have hx' : (xs.length : Int) ≤ 1048576 := by omega
  have B0 := Lib.hid (below_alloc w (.cells #[.int .i64 r, .slice A xs.length c] 34))
  have HI := Lib.hid (h.step B0.out)
  have HT := Lib.hid (Lib.tabBelow_of_tabIs ht)
  have g0 := cell_new w #[.int .i64 r, .slice A xs.length c] 34 0
  have g1 := cell_new w #[.int .i64 r, .slice A xs.length c] 34 1
  simp only [List.getElem?_toArray, List.getElem?_cons_zero, List.getElem?_cons_succ] at g0 g1
  have k0 := cell_regrown g0
  have k1 := cell_regrown g1
  clear g0 g1
  by_cases c1 : inB r 0 4 = true
  · have C1 := Lib.hid c1
    have hr : 0 ≤ r ∧ r ≤ 4 := by simpa [inB] using c1
    by_cases c2 : xs.length ≤ 3
    · have C2 := Lib.hid c2
      have hn : (xs.length : Int) ≤ 3 := by omega
      have dn : decide ((3 : Int) < (xs.length : Int)) = false := by simp; omega
      have dn' : decide (3 < xs.length) = false := by simp; omega
      by_cases c3 : allB 0 9 xs = true
      · have C3 := Lib.hid c3
        have FO := Lib.hid (show acOk r xs = true by simp [acOk, c1, c2, C3.out])
        have XP := Lib.hid fun (W : World) (hW : Below w.heap.size w W) => formatParts_int 109 r xs A c hr.1 (by omega) (by omega) C3.out W (h.step hW) (HT.out _ hW)
        rw [fmtAc_yes FO.out]
        clear h ht c1 c3
        go_enter Tryd.func13, Tryd.ntmps13
        go_wp2_with fail
        refine (isBetween_any r 0 4 _).mono ?_
        rintro e w1 ⟨he, rfl⟩
        rw [C1.out] at he
        subst he
        go_wp2_with fail
        refine (areValues_any _ _ A c xs (by omega) _ HI.out).mono ?_
        rintro e w1 ⟨he, rfl⟩
        rw [C3.out] at he
        subst he
        clear k0 k1
        go_wp2_with fail
        refine (XP.out _ B0.out).mono ?_
        rintro e w1 ⟨rfl, d⟩
        have D1 := Lib.hid (step B0.out d)
        clear d
        go_wp2
        go_ret
        exact ⟨rfl, D1.out⟩
      · have C3 := Lib.hid (show allB 0 9 xs = false by simpa using c3)
        rw [fmtAc_no (show acOk r xs = false by simp [acOk, C3.out])]
        clear h ht c1 c3
        go_enter Tryd.func13, Tryd.ntmps13
        go_wp2_with fail
        refine (isBetween_any r 0 4 _).mono ?_
        rintro e w1 ⟨he, rfl⟩
        rw [C1.out] at he
        subst he
        go_wp2_with fail
        refine (areValues_any _ _ A c xs (by omega) _ HI.out).mono ?_
        rintro e w1 ⟨he, rfl⟩
        rw [C3.out] at he
        subst he
        go_wp2
        go_ret
        exact ⟨rfl, B0.out⟩
    · have C2 := Lib.hid c2
      have hn : (3 : Int) < (xs.length : Int) := by omega
      have dn : decide ((3 : Int) < (xs.length : Int)) = true := by simp; omega
      have dn' : decide (3 < xs.length) = true := by simp; omega
      rw [fmtAc_no (show acOk r xs = false by simp [acOk, C2.out])]
      clear h ht c1
      go_enter Tryd.func13, Tryd.ntmps13
      go_wp2_with fail
      refine (isBetween_any r 0 4 _).mono ?_
      rintro e w1 ⟨he, rfl⟩
      rw [C1.out] at he
      subst he
      go_wp2
      go_ret
      exact ⟨rfl, B0.out⟩
  · have C1 := Lib.hid (show inB r 0 4 = false by simpa using c1)
    rw [fmtAc_no (show acOk r xs = false by simp [acOk, C1.out])]
    clear h ht c1
    go_enter Tryd.func13, Tryd.ntmps13
    go_wp2_with fail
    refine (isBetween_any r 0 4 _).mono ?_
    rintro e w1 ⟨he, rfl⟩
    rw [C1.out] at he
    subst he
    go_wp2
    go_ret
    exact ⟨rfl, B0.out⟩

set_option maxRecDepth 100000 in
set_option maxHeartbeats 1000000 in
theorem spec_FormatAccess (r : Int) (xs : List Int) (A : Option Addr) (c : Nat) (hl : xs.length ≤ 1048576) (w : World) (h : RI w A xs) :
    Calls Tryd.prog 11 #[.agg #[.int .i64 r, .slice A xs.length c]] w fun e w' => e = .returned (.string (fmtAc r xs)) ∧ Below w.heap.size w w' := by
  have hx' : (xs.length : Int) ≤ 1048576 := by omega
  have B0 := Lib.hid (below_alloc w (.cells #[.int .i64 r, .slice A xs.length c] 34))
  have HI := Lib.hid (h.step B0.out)
  have g0 := cell_new w #[.int .i64 r, .slice A xs.length c] 34 0
  have g1 := cell_new w #[.int .i64 r, .slice A xs.length c] 34 1
  simp only [List.getElem?_toArray, List.getElem?_cons_zero, List.getElem?_cons_succ] at g0 g1
  have k0 := cell_regrown g0
  have k1 := cell_regrown g1
  clear h g0 g1
  by_cases c1 : inB r 0 4 = true
  · have C1 := Lib.hid c1
    have hr : 0 ≤ r ∧ r ≤ 4 := by simpa [inB] using c1
    by_cases c2 : xs.length ≤ 3
    · have C2 := Lib.hid c2
      have hn : (xs.length : Int) ≤ 3 := by omega
      have dn : decide ((3 : Int) < (xs.length : Int)) = false := by simp; omega
      have dn' : decide (3 < xs.length) = false := by simp; omega
      clear c1
      go_enter Tryd.func11, Tryd.ntmps11
      go_wp2_with fail
      refine (l1In_any r 0 4 _).mono ?_
      rintro e w1 ⟨he, rfl⟩
      rw [C1.out] at he
      subst he
      go_wp2
      go_loop [3] (fun i => ∃ j : Nat, j ≤ xs.length ∧ i = .int .i64 j ∧ allB 0 9 (xs.take j) = true) (fun i => xs.length - (intOf i).toNat)
      case atStart => exact ⟨0, by omega, rfl, rfl⟩
      case round =>
        obtain ⟨j, hj, rfl, ha⟩ := hrel
        have HA := Lib.hid ha
        clear ha
        by_cases hlt : j < xs.length
        · obtain ⟨b2, off2, rfl, _, hc⟩ := HI.out.at_ hlt
          generalize hx : xs.getD j 0 = x at hc
          have HX := Lib.hid hx
          clear hx
          by_cases hin : inB x 0 9 = true
          · have HN := Lib.hid hin
            clear hin
            go_wp2_with fail
            refine (l1In_any x 0 9 _).mono ?_
            rintro e w' ⟨rfl, rfl⟩
            rw [HN.out]
            go_wp2
            go_round
            case rel => exact ⟨j + 1, by omega, by go_num, by rw [allB_take _ _ _ _ hlt, HA.out, HX.out, HN.out]; rfl⟩
            case measure => simp [intOf]; omega
          · have HN := Lib.hid (show inB x 0 9 = false by simpa using hin)
            clear hin
            go_wp2_with fail
            refine (l1In_any x 0 9 _).mono ?_
            rintro e w' ⟨rfl, rfl⟩
            rw [HN.out]
            go_wp2
            go_ret
            exact ⟨ret_str (fmtAc_no (by simp [acOk, allB_not _ _ _ j hlt (by rw [HX.out]; exact HN.out)])).symm, B0.out⟩
        · obtain rfl : j = xs.length := by omega
          have C3 := Lib.hid (show allB 0 9 xs = true by have := HA.out; rwa [take_all] at this)
          have FO := Lib.hid (show acOk r xs = true by simp [acOk, C1.out, C2.out, C3.out])
          have FD := Lib.hid (fmt_digit hr.1 (show r ≤ 9 by omega))
          have X1 := Lib.hid fun (W : World) => (show Calls Tryd.prog 18 #[.int .i64 r] W fun e w' => e = .returned (.string ⟨#[dg r]⟩) ∧ Below W.heap.size W w' by have := spec_FormatInt r (by omega) (by omega) W; rw [FD.out] at this; exact this)
          have X2 := Lib.hid fun (W : World) (hW : Below (w.alloc (.cells #[.int .i64 r, .slice A xs.length c] 34)).heap.size (w.alloc (.cells #[.int .i64 r, .slice A xs.length c] 34)) W) => l2List_any A c xs (by omega) C3.out W (HI.out.step hW)
          have hsz := commaL_len xs
          have hsz2 : (commaL xs).length ≤ 6 := by omega
          have FC := Lib.hid ((fmt_cat 109 r (commaL xs)).trans (fmtAc_yes FO.out).symm)
          generalize commaL xs = L at hsz2 X2 FC
          clear hsz
          go_wp2
          refine wp_region_quiet_below (by kernel_rfl) (by kernel_rfl) ?_
          repeat (go_big_quiet_step (first | (go_at_call 18; with_reducible exact Calls.regrown_of (X1.out _)) | (go_at_call 19; with_reducible exact Calls.regrown_of (X2.out _ (below_regrown _ _ _)))))
          refine wpQuiet_nil ?_
          intro u hw'
          have hb2 := step B0.out (show Below _ _ u by obtain ⟨⟨dq, osq⟩, rfl⟩ := hw'; exact below_regrown _ _ _)
          clear hw' k0 k1
          go_wp2
          go_ret
          exact ⟨ret_str FC.out, hb2⟩
    · have C2 := Lib.hid c2
      have hn : (3 : Int) < (xs.length : Int) := by omega
      have dn : decide ((3 : Int) < (xs.length : Int)) = true := by simp; omega
      have dn' : decide (3 < xs.length) = true := by simp; omega
      rw [fmtAc_no (show acOk r xs = false by simp [acOk, C2.out])]
      clear c1
      go_enter Tryd.func11, Tryd.ntmps11
      go_wp2_with fail
      refine (l1In_any r 0 4 _).mono ?_
      rintro e w1 ⟨he, rfl⟩
      rw [C1.out] at he
      subst he
      go_wp2
      go_ret
      exact ⟨rfl, B0.out⟩
  · have C1 := Lib.hid (show inB r 0 4 = false by simpa using c1)
    rw [fmtAc_no (show acOk r xs = false by simp [acOk, C1.out])]
    clear c1
    go_enter Tryd.func11, Tryd.ntmps11
    go_wp2_with fail
    refine (l1In_any r 0 4 _).mono ?_
    rintro e w1 ⟨he, rfl⟩
    rw [C1.out] at he
    subst he
    go_wp2
    go_ret
    exact ⟨rfl, B0.out⟩

theorem impl_FormatAccess_r (r : Int) (xs : List Int) (A : Option Addr) (c : Nat) (hl : xs.length ≤ 1048576) (w : World) (h : RI w A xs) (ht : TabB w) :
    Calls Tryd.prog 13 #[.agg #[.int .i64 r, .slice A xs.length c]] w fun e w' => e = .returned (.string (fmtAc r xs)) ∧ Below w.heap.size w w' :=
  impl_FormatAccess r xs A c hl w h (ht w (Below.refl _ _))
end Go.Proofs.YtcgmdleefaplfaaDoor
