/- What the two functions FormatAtom answer. Conditions: none beyond each theorem's own. -/
import Derived.Test.YtimlpdcambmcjaaDoorFmtT
namespace Go.Proofs.YtimlpdcambmcjaaDoor
open Go.ChangeShapes Go.WideShapes Go.ChangeAt Go.RowKit Go.Sort
set_option linter.unusedVariables false
set_option linter.unusedSimpArgs false

/-- Has the atom a text? -/
def fmtOkA (r : Int) (xs : List Int) : Bool := inB r 0 2 && inB (xs.length : Int) 1 3 && allB 0 17 xs
/-- The text of an atom. -/
def fmtA (r : Int) (xs : List Int) : ByteArray := if fmtOkA r xs = true then ⟨([114, dg r, 40] ++ commaT xs ++ [41]).toArray⟩ else ⟨#[]⟩
theorem fmtA_yes {r : Int} {xs : List Int} (h : fmtOkA r xs = true) : fmtA r xs = ⟨([114, dg r, 40] ++ commaT xs ++ [41]).toArray⟩ := if_pos h
theorem fmtA_no {r : Int} {xs : List Int} (h : fmtOkA r xs = false) : fmtA r xs = ⟨#[]⟩ := if_neg (by simp [h])

set_option maxRecDepth 100000 in
set_option maxHeartbeats 1000000 in
theorem impl_FormatAtom (r : Int) (xs : List Int) (A : Option Addr) (c : Nat) (hl : xs.length ≤ 1048576) (w : World) (h : RI w A xs) (ht : Tab w) :
    Calls Tryd.prog 30 #[.agg #[.int .i64 r, .slice A xs.length c]] w fun e w' => e = .returned (.string (fmtA r xs)) ∧ Below w.heap.size w w' := by
  have hx' : (xs.length : Int) ≤ 1048576 := by omega
  have B0 := Lib.hid (below_alloc w (.cells #[.int .i64 r, .slice A xs.length c] 49))
  have HI := Lib.hid (h.step B0.out)
  have HT := Lib.hid (Lib.tabBelow_of_tabIs ht)
  have g0 := cell_new w #[.int .i64 r, .slice A xs.length c] 49 0
  have g1 := cell_new w #[.int .i64 r, .slice A xs.length c] 49 1
  simp only [List.getElem?_toArray, List.getElem?_cons_zero, List.getElem?_cons_succ] at g0 g1
  have k0 := cell_regrown g0
  have k1 := cell_regrown g1
  clear g0 g1
  by_cases c1 : inB r 0 2 = true
  · have C1 := Lib.hid c1
    have hr : 0 ≤ r ∧ r ≤ 2 := by simpa [inB] using c1
    by_cases c2 : inB (xs.length : Int) 1 3 = true
    · have C2 := Lib.hid c2
      have hn : 1 ≤ (xs.length : Int) ∧ (xs.length : Int) ≤ 3 := by simpa [inB] using c2
      by_cases c3 : allB 0 17 xs = true
      · have C3 := Lib.hid c3
        have FO := Lib.hid (show fmtOkA r xs = true by simp [fmtOkA, c1, c2, c3])
        have XP := Lib.hid fun (W : World) (hW : Below w.heap.size w W) => formatParts_term 114 r xs A c hr.1 (by omega) (by omega) (allR_of C3.out) W (h.step hW) (HT.out _ hW)
        rw [fmtA_yes FO.out]
        clear h ht c1 c2 c3
        go_enter Tryd.func30, Tryd.ntmps30
        go_wp2_with fail
        refine (isRelation_any r _).mono ?_
        rintro e w1 ⟨he, rfl⟩
        rw [C1.out] at he
        subst he
        go_wp2_with fail
        refine (isArity_any (xs.length : Int) _).mono ?_
        rintro e w1 ⟨he, rfl⟩
        rw [C2.out] at he
        subst he
        go_wp2_with fail
        refine (areAll_term _ _ A c xs (by omega) _ HI.out).mono ?_
        rintro e w1 ⟨he, rfl⟩
        rw [C3.out] at he
        subst he
        clear k0 k1
        go_wp2_with fail
        refine (XP.out _ B0.out).mono ?_
        rintro e w1 ⟨rfl, d⟩
        have D1 := Lib.hid (step B0.out d)
        clear d
        go_wp2
        go_ret
        exact ⟨rfl, D1.out⟩
      · have C3 := Lib.hid (show allB 0 17 xs = false by simpa using c3)
        rw [fmtA_no (show fmtOkA r xs = false by simp [fmtOkA, C3.out])]
        clear h ht c1 c2 c3
        go_enter Tryd.func30, Tryd.ntmps30
        go_wp2_with fail
        refine (isRelation_any r _).mono ?_
        rintro e w1 ⟨he, rfl⟩
        rw [C1.out] at he
        subst he
        go_wp2_with fail
        refine (isArity_any (xs.length : Int) _).mono ?_
        rintro e w1 ⟨he, rfl⟩
        rw [C2.out] at he
        subst he
        go_wp2_with fail
        refine (areAll_term _ _ A c xs (by omega) _ HI.out).mono ?_
        rintro e w1 ⟨he, rfl⟩
        rw [C3.out] at he
        subst he
        go_wp2
        go_ret
        exact ⟨rfl, B0.out⟩
    · have C2 := Lib.hid (show inB (xs.length : Int) 1 3 = false by simpa using c2)
      rw [fmtA_no (show fmtOkA r xs = false by simp [fmtOkA, C2.out])]
      clear h ht c1 c2
      go_enter Tryd.func30, Tryd.ntmps30
      go_wp2_with fail
      refine (isRelation_any r _).mono ?_
      rintro e w1 ⟨he, rfl⟩
      rw [C1.out] at he
      subst he
      go_wp2_with fail
      refine (isArity_any (xs.length : Int) _).mono ?_
      rintro e w1 ⟨he, rfl⟩
      rw [C2.out] at he
      subst he
      go_wp2
      go_ret
      exact ⟨rfl, B0.out⟩
  · have C1 := Lib.hid (show inB r 0 2 = false by simpa using c1)
    rw [fmtA_no (show fmtOkA r xs = false by simp [fmtOkA, C1.out])]
    clear h ht c1
    go_enter Tryd.func30, Tryd.ntmps30
    go_wp2_with fail
    refine (isRelation_any r _).mono ?_
    rintro e w1 ⟨he, rfl⟩
    rw [C1.out] at he
    subst he
    go_wp2
    go_ret
    exact ⟨rfl, B0.out⟩

set_option maxRecDepth 100000 in
set_option maxHeartbeats 1000000 in
theorem spec_FormatAtom (r : Int) (xs : List Int) (A : Option Addr) (c : Nat) (hl : xs.length ≤ 1048576) (w : World) (h : RI w A xs) :
    Calls Tryd.prog 21 #[.agg #[.int .i64 r, .slice A xs.length c]] w fun e w' => e = .returned (.string (fmtA r xs)) ∧ Below w.heap.size w w' := by
  have hx' : (xs.length : Int) ≤ 1048576 := by omega
  have B0 := Lib.hid (below_alloc w (.cells #[.int .i64 r, .slice A xs.length c] 49))
  have HI := Lib.hid (h.step B0.out)
  have g0 := cell_new w #[.int .i64 r, .slice A xs.length c] 49 0
  have g1 := cell_new w #[.int .i64 r, .slice A xs.length c] 49 1
  simp only [List.getElem?_toArray, List.getElem?_cons_zero, List.getElem?_cons_succ] at g0 g1
  have k0 := cell_regrown g0
  have k1 := cell_regrown g1
  clear h g0 g1
  by_cases c1 : inB r 0 2 = true
  · have C1 := Lib.hid c1
    have hr : 0 ≤ r ∧ r ≤ 2 := by simpa [inB] using c1
    by_cases c2 : inB (xs.length : Int) 1 3 = true
    · have C2 := Lib.hid c2
      have hn : 1 ≤ (xs.length : Int) ∧ (xs.length : Int) ≤ 3 := by simpa [inB] using c2
      clear c1 c2
      go_enter Tryd.func21, Tryd.ntmps21
      go_wp2_with fail
      refine (l1In_any r 0 2 _).mono ?_
      rintro e w1 ⟨he, rfl⟩
      rw [C1.out] at he
      subst he
      go_wp2_with fail
      refine (l1In_any (xs.length : Int) 1 3 _).mono ?_
      rintro e w1 ⟨he, rfl⟩
      rw [C2.out] at he
      subst he
      go_wp2
      go_loop [3] (fun i => ∃ j : Nat, j ≤ xs.length ∧ i = .int .i64 j ∧ allB 0 17 (xs.take j) = true) (fun i => xs.length - (intOf i).toNat)
      case atStart => exact ⟨0, by omega, rfl, rfl⟩
      case round =>
        obtain ⟨j, hj, rfl, ha⟩ := hrel
        have HA := Lib.hid ha
        clear ha
        by_cases hlt : j < xs.length
        · obtain ⟨b2, off2, rfl, _, hc⟩ := HI.out.at_ hlt
          generalize hx : xs.getD j 0 = x at hc
          have HX := Lib.hid hx
          clear hx
          by_cases hin : inB x 0 17 = true
          · have HN := Lib.hid hin
            clear hin
            go_wp2_with fail
            refine (spec_IsTerm x _).mono ?_
            rintro e w' ⟨rfl, rfl⟩
            rw [HN.out]
            go_wp2
            go_round
            case rel => exact ⟨j + 1, by omega, by go_num, by rw [allB_take _ _ _ _ hlt, HA.out, HX.out, HN.out]; rfl⟩
            case measure => simp [intOf]; omega
          · have HN := Lib.hid (show inB x 0 17 = false by simpa using hin)
            clear hin
            go_wp2_with fail
            refine (spec_IsTerm x _).mono ?_
            rintro e w' ⟨rfl, rfl⟩
            rw [HN.out]
            go_wp2
            go_ret
            exact ⟨ret_str (fmtA_no (by simp [fmtOkA, allB_not _ _ _ j hlt (by rw [HX.out]; exact HN.out)])).symm, B0.out⟩
        · obtain rfl : j = xs.length := by omega
          have C3 := Lib.hid (show allB 0 17 xs = true by have := HA.out; rwa [take_all] at this)
          have FO := Lib.hid (show fmtOkA r xs = true by simp [fmtOkA, C1.out, C2.out, C3.out])
          have FD := Lib.hid (fmt_digit hr.1 (show r ≤ 9 by omega))
          have X1 := Lib.hid fun (W : World) => (show Calls Tryd.prog 40 #[.int .i64 r] W fun e w' => e = .returned (.string ⟨#[dg r]⟩) ∧ Below W.heap.size W w' by have := spec_FormatInt r (by omega) (by omega) W; rw [FD.out] at this; exact this)
          have X2 := Lib.hid fun (W : World) (hW : Below (w.alloc (.cells #[.int .i64 r, .slice A xs.length c] 49)).heap.size (w.alloc (.cells #[.int .i64 r, .slice A xs.length c] 49)) W) => l3Terms_any A c xs (by omega) (allR_of C3.out) W (HI.out.step hW)
          have hsz := commaT_len xs (allR_len (allR_of C3.out))
          have hsz2 : (commaT xs).length ≤ 70 := by omega
          have FC := Lib.hid ((fmt_cat 114 r (commaT xs)).trans (fmtA_yes FO.out).symm)
          generalize commaT xs = L at hsz2 X2 FC
          clear hsz
          go_wp2
          refine wp_region_quiet_below (by kernel_rfl) (by kernel_rfl) ?_
          repeat (go_big_quiet_step (first | (go_at_call 40; with_reducible exact Calls.regrown_of (X1.out _)) | (go_at_call 18; with_reducible exact Calls.regrown_of (X2.out _ (below_regrown _ _ _)))))
          refine wpQuiet_nil ?_
          intro u hw'
          have hb2 := step B0.out (show Below _ _ u by obtain ⟨⟨dq, osq⟩, rfl⟩ := hw'; exact below_regrown _ _ _)
          clear hw' k0 k1
          go_wp2
          go_ret
          exact ⟨ret_str FC.out, hb2⟩
    · have C2 := Lib.hid (show inB (xs.length : Int) 1 3 = false by simpa using c2)
      rw [fmtA_no (show fmtOkA r xs = false by simp [fmtOkA, C2.out])]
      clear c1 c2
      go_enter Tryd.func21, Tryd.ntmps21
      go_wp2_with fail
      refine (l1In_any r 0 2 _).mono ?_
      rintro e w1 ⟨he, rfl⟩
      rw [C1.out] at he
      subst he
      go_wp2_with fail
      refine (l1In_any (xs.length : Int) 1 3 _).mono ?_
      rintro e w1 ⟨he, rfl⟩
      rw [C2.out] at he
      subst he
      go_wp2
      go_ret
      exact ⟨rfl, B0.out⟩
  · have C1 := Lib.hid (show inB r 0 2 = false by simpa using c1)
    rw [fmtA_no (show fmtOkA r xs = false by simp [fmtOkA, C1.out])]
    clear c1
    go_enter Tryd.func21, Tryd.ntmps21
    go_wp2_with fail
    refine (l1In_any r 0 2 _).mono ?_
    rintro e w1 ⟨he, rfl⟩
    rw [C1.out] at he
    subst he
    go_wp2
    go_ret
    exact ⟨rfl, B0.out⟩

theorem impl_FormatAtom_r (r : Int) (xs : List Int) (A : Option Addr) (c : Nat) (hl : xs.length ≤ 1048576) (w : World) (h : RI w A xs) (ht : TabB w) :
    Calls Tryd.prog 30 #[.agg #[.int .i64 r, .slice A xs.length c]] w fun e w' => e = .returned (.string (fmtA r xs)) ∧ Below w.heap.size w w' :=
  impl_FormatAtom r xs A c hl w h (ht w (Below.refl _ _))
end Go.Proofs.YtimlpdcambmcjaaDoor
