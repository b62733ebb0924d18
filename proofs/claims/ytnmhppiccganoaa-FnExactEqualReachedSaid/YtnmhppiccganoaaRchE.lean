/- What the two functions EqualReached answer. Conditions: none beyond each theorem's own. -/
import Derived.Test.YtnmhppiccganoaaRch
import Derived.Test.YtnmhppiccganoaaSA
import Derived.Test.YtnmhppiccganoaaSameL
import Derived.Test.YtnmhppiccganoaaIntEq
namespace Go.Proofs.Ytnmhppiccganoaa
open Go.ChangeShapes Go.WideShapes Go.ChangeAt Go.RowKit Go.Sort
set_option linter.unusedVariables false
set_option linter.unusedSimpArgs false

/-- Are two states equal? -/
def eqC (fs : FL) (vs : List Int) (ls : FL) (n : Int) (fs' : FL) (vs' : List Int) (ls' : FL) (n' : Int) : Bool := sameL fs fs' && decide (vs = vs') && samA ls ls' && decide (n = n')

set_option maxRecDepth 100000 in
set_option maxHeartbeats 4000000 in
theorem spec_EqualReached (A V L A' V' L' : Option Addr) (c d k c' d' k' : Nat) (fs : FL) (vs : List Int) (ls : FL) (n : Int) (fs' : FL) (vs' : List Int) (ls' : FL) (n' : Int) (hz : szF fs ≤ 1048576) (hv : vs.length ≤ 1048576) (hy : szF ls ≤ 1048576) (hz' : szF fs' ≤ 1048576) (hv' : vs'.length ≤ 1048576) (hy' : szF ls' ≤ 1048576) (w : World) (h1 : RF w A fs) (h2 : RI w V vs) (h3 : RF w L ls) (h4 : RF w A' fs') (h5 : RI w V' vs') (h6 : RF w L' ls') :
    Calls Try.prog 14 #[.agg #[.slice A fs.length c, .slice V vs.length d, .slice L ls.length k, .int .i64 n], .agg #[.slice A' fs'.length c', .slice V' vs'.length d', .slice L' ls'.length k', .int .i64 n']] w fun e w' => e = .returned (.bool (eqC fs vs ls n fs' vs' ls' n')) ∧ Below w.heap.size w w' := by
  have B0 := Lib.hid (step (below_alloc w (.cells #[.slice A fs.length c, .slice V vs.length d, .slice L ls.length k, .int .i64 n] 26)) (below_alloc _ (.cells #[.slice A' fs'.length c', .slice V' vs'.length d', .slice L' ls'.length k', .int .i64 n'] 26)))
  have X1 := Lib.hid (spec_SameFacts A c fs A' c' fs' hz hz' _ (h1.step B0.out) (h4.step B0.out))
  have X2 := Lib.hid fun (W : World) (a : RI W V vs) (b : RI W V' vs') => l2Ints_any _ _ _ _ V V' d d' vs vs' (by omega) (by omega) W a b
  have X3 := Lib.hid fun (W : World) (a : RF W L ls) (b : RF W L' ls') => spec_SameAccesses L k ls L' k' ls' hy hy' W a b
  have H2 := Lib.hid (h2.step B0.out)
  have H3 := Lib.hid (h3.step B0.out)
  have H5 := Lib.hid (h5.step B0.out)
  have H6 := Lib.hid (h6.step B0.out)
  clear h1 h2 h3 h4 h5 h6
  by_cases c1 : sameL fs fs' = true
  · have C1 := Lib.hid c1
    by_cases c2 : vs = vs'
    · have C2 := Lib.hid (decide_eq_true c2)
      by_cases c3 : samA ls ls' = true
      · have C3 := Lib.hid c3
        by_cases c4 : n = n'
        · have E := Lib.hid (show eqC fs vs ls n fs' vs' ls' n' = true by simp [eqC, c1, c2, c3, c4])
          have d4 : (n == n') = true := by simpa using c4
          rw [E.out]
          clear c1 c2 c3 c4
          go_enter Try.func14, Try.ntmps14
          go_wp2_with fail
          refine X1.out.mono ?_
          rintro e w1 ⟨he, dd⟩
          rw [C1.out] at he
          subst he
          have X := Box.of_new2 dd
          have XA := Lib.hid X.1
          have XB := Lib.hid X.2
          have F2 := Lib.hid (H2.out.step dd)
          have F5 := Lib.hid (H5.out.step dd)
          have F3 := Lib.hid (H3.out.step dd)
          have F6 := Lib.hid (H6.out.step dd)
          have D1 := Lib.hid (step B0.out dd)
          clear X dd
          have x1 := XA.out.cell 1
          have x2 := XB.out.cell 1
          simp only [List.getElem?_toArray, List.getElem?_cons_zero, List.getElem?_cons_succ] at x1 x2
          go_wp2_with fail
          refine (X2.out _ F2.out F5.out).mono ?_
          rintro e w2 ⟨he, dd⟩
          rw [C2.out] at he
          subst he
          clear x1 x2
          have YA := Lib.hid (XA.out.step dd)
          have YB := Lib.hid (XB.out.step dd)
          have G3 := Lib.hid (F3.out.step dd)
          have G6 := Lib.hid (F6.out.step dd)
          have D2 := Lib.hid (step D1.out dd)
          clear XA XB dd
          have XA := YA
          have XB := YB
          have x1 := XA.out.cell 2
          have x2 := XB.out.cell 2
          simp only [List.getElem?_toArray, List.getElem?_cons_zero, List.getElem?_cons_succ] at x1 x2
          go_wp2_with fail
          refine (X3.out _ G3.out G6.out).mono ?_
          rintro e w3 ⟨he, dd⟩
          rw [C3.out] at he
          subst he
          clear x1 x2
          have ZA := Lib.hid (XA.out.step dd)
          have ZB := Lib.hid (XB.out.step dd)
          have D := Lib.hid (step D2.out dd)
          clear XA XB dd
          have XA := ZA
          have XB := ZB
          have x1 := XA.out.cell 3
          have x2 := XB.out.cell 3
          simp only [List.getElem?_toArray, List.getElem?_cons_zero, List.getElem?_cons_succ] at x1 x2
          go_wp2
          go_ret
          exact ⟨rfl, by first | exact D.out | exact D.out.drew⟩
        · have E := Lib.hid (show eqC fs vs ls n fs' vs' ls' n' = false by simp [eqC, c4])
          have d4 : (n == n') = false := by simpa using c4
          rw [E.out]
          clear c1 c2 c3 c4
          go_enter Try.func14, Try.ntmps14
          go_wp2_with fail
          refine X1.out.mono ?_
          rintro e w1 ⟨he, dd⟩
          rw [C1.out] at he
          subst he
          have X := Box.of_new2 dd
          have XA := Lib.hid X.1
          have XB := Lib.hid X.2
          have F2 := Lib.hid (H2.out.step dd)
          have F5 := Lib.hid (H5.out.step dd)
          have F3 := Lib.hid (H3.out.step dd)
          have F6 := Lib.hid (H6.out.step dd)
          have D1 := Lib.hid (step B0.out dd)
          clear X dd
          have x1 := XA.out.cell 1
          have x2 := XB.out.cell 1
          simp only [List.getElem?_toArray, List.getElem?_cons_zero, List.getElem?_cons_succ] at x1 x2
          go_wp2_with fail
          refine (X2.out _ F2.out F5.out).mono ?_
          rintro e w2 ⟨he, dd⟩
          rw [C2.out] at he
          subst he
          clear x1 x2
          have YA := Lib.hid (XA.out.step dd)
          have YB := Lib.hid (XB.out.step dd)
          have G3 := Lib.hid (F3.out.step dd)
          have G6 := Lib.hid (F6.out.step dd)
          have D2 := Lib.hid (step D1.out dd)
          clear XA XB dd
          have XA := YA
          have XB := YB
          have x1 := XA.out.cell 2
          have x2 := XB.out.cell 2
          simp only [List.getElem?_toArray, List.getElem?_cons_zero, List.getElem?_cons_succ] at x1 x2
          go_wp2_with fail
          refine (X3.out _ G3.out G6.out).mono ?_
          rintro e w3 ⟨he, dd⟩
          rw [C3.out] at he
          subst he
          clear x1 x2
          have ZA := Lib.hid (XA.out.step dd)
          have ZB := Lib.hid (XB.out.step dd)
          have D := Lib.hid (step D2.out dd)
          clear XA XB dd
          have XA := ZA
          have XB := ZB
          have x1 := XA.out.cell 3
          have x2 := XB.out.cell 3
          simp only [List.getElem?_toArray, List.getElem?_cons_zero, List.getElem?_cons_succ] at x1 x2
          go_wp2
          go_ret
          exact ⟨rfl, by first | exact D.out | exact D.out.drew⟩
      · have C3 := Lib.hid (show samA ls ls' = false by simpa using c3)
        have E := Lib.hid (show eqC fs vs ls n fs' vs' ls' n' = false by simp [eqC, c3])
        rw [E.out]
        clear c1 c2 c3
        go_enter Try.func14, Try.ntmps14
        go_wp2_with fail
        refine X1.out.mono ?_
        rintro e w1 ⟨he, dd⟩
        rw [C1.out] at he
        subst he
        have X := Box.of_new2 dd
        have XA := Lib.hid X.1
        have XB := Lib.hid X.2
        have F2 := Lib.hid (H2.out.step dd)
        have F5 := Lib.hid (H5.out.step dd)
        have F3 := Lib.hid (H3.out.step dd)
        have F6 := Lib.hid (H6.out.step dd)
        have D1 := Lib.hid (step B0.out dd)
        clear X dd
        have x1 := XA.out.cell 1
        have x2 := XB.out.cell 1
        simp only [List.getElem?_toArray, List.getElem?_cons_zero, List.getElem?_cons_succ] at x1 x2
        go_wp2_with fail
        refine (X2.out _ F2.out F5.out).mono ?_
        rintro e w2 ⟨he, dd⟩
        rw [C2.out] at he
        subst he
        clear x1 x2
        have YA := Lib.hid (XA.out.step dd)
        have YB := Lib.hid (XB.out.step dd)
        have G3 := Lib.hid (F3.out.step dd)
        have G6 := Lib.hid (F6.out.step dd)
        have D2 := Lib.hid (step D1.out dd)
        clear XA XB dd
        have XA := YA
        have XB := YB
        have x1 := XA.out.cell 2
        have x2 := XB.out.cell 2
        simp only [List.getElem?_toArray, List.getElem?_cons_zero, List.getElem?_cons_succ] at x1 x2
        go_wp2_with fail
        refine (X3.out _ G3.out G6.out).mono ?_
        rintro e w3 ⟨he, dd⟩
        rw [C3.out] at he
        subst he
        clear x1 x2
        have D := Lib.hid (step D2.out dd)
        clear dd
        go_wp2
        go_ret
        exact ⟨rfl, D.out⟩
    · have C2 := Lib.hid (decide_eq_false c2)
      have E := Lib.hid (show eqC fs vs ls n fs' vs' ls' n' = false by simp [eqC, c2])
      rw [E.out]
      clear c1 c2
      go_enter Try.func14, Try.ntmps14
      go_wp2_with fail
      refine X1.out.mono ?_
      rintro e w1 ⟨he, dd⟩
      rw [C1.out] at he
      subst he
      have X := Box.of_new2 dd
      have XA := Lib.hid X.1
      have XB := Lib.hid X.2
      have F2 := Lib.hid (H2.out.step dd)
      have F5 := Lib.hid (H5.out.step dd)
      have F3 := Lib.hid (H3.out.step dd)
      have F6 := Lib.hid (H6.out.step dd)
      have D1 := Lib.hid (step B0.out dd)
      clear X dd
      have x1 := XA.out.cell 1
      have x2 := XB.out.cell 1
      simp only [List.getElem?_toArray, List.getElem?_cons_zero, List.getElem?_cons_succ] at x1 x2
      go_wp2_with fail
      refine (X2.out _ F2.out F5.out).mono ?_
      rintro e w2 ⟨he, dd⟩
      rw [C2.out] at he
      subst he
      clear x1 x2
      have D := Lib.hid (step D1.out dd)
      clear dd
      go_wp2
      go_ret
      exact ⟨rfl, D.out⟩
  · have C1 := Lib.hid (show sameL fs fs' = false by simpa using c1)
    have E := Lib.hid (show eqC fs vs ls n fs' vs' ls' n' = false by simp [eqC, c1])
    rw [E.out]
    clear c1
    go_enter Try.func14, Try.ntmps14
    go_wp2_with fail
    refine X1.out.mono ?_
    rintro e w1 ⟨he, dd⟩
    rw [C1.out] at he
    subst he
    have D := Lib.hid (step B0.out dd)
    clear dd
    go_wp2
    go_ret
    exact ⟨rfl, D.out⟩

set_option maxRecDepth 100000 in
set_option maxHeartbeats 4000000 in
theorem impl_EqualReached (A V L A' V' L' : Option Addr) (c d k c' d' k' : Nat) (fs : FL) (vs : List Int) (ls : FL) (n : Int) (fs' : FL) (vs' : List Int) (ls' : FL) (n' : Int) (hz : szF fs ≤ 1048576) (hv : vs.length ≤ 1048576) (hy : szF ls ≤ 1048576) (hz' : szF fs' ≤ 1048576) (hv' : vs'.length ≤ 1048576) (hy' : szF ls' ≤ 1048576) (w : World) (h1 : RF w A fs) (h2 : RI w V vs) (h3 : RF w L ls) (h4 : RF w A' fs') (h5 : RI w V' vs') (h6 : RF w L' ls') :
    Calls Try.prog 16 #[.agg #[.slice A fs.length c, .slice V vs.length d, .slice L ls.length k, .int .i64 n], .agg #[.slice A' fs'.length c', .slice V' vs'.length d', .slice L' ls'.length k', .int .i64 n']] w fun e w' => e = .returned (.bool (eqC fs vs ls n fs' vs' ls' n')) ∧ Below w.heap.size w w' := by
  have B0 := Lib.hid (step (below_alloc w (.cells #[.slice A fs.length c, .slice V vs.length d, .slice L ls.length k, .int .i64 n] 26)) (below_alloc _ (.cells #[.slice A' fs'.length c', .slice V' vs'.length d', .slice L' ls'.length k', .int .i64 n'] 26)))
  have X1 := Lib.hid (impl_SameFacts A c fs A' c' fs' hz hz' _ (h1.step B0.out) (h4.step B0.out))
  have X2 := Lib.hid fun (W : World) (a : RI W V vs) (b : RI W V' vs') => sEqual_any _ _ _ _ V V' d d' vs vs' (by omega) (by omega) W a b
  have X3 := Lib.hid fun (W : World) (a : RF W L ls) (b : RF W L' ls') => impl_SameAccesses L k ls L' k' ls' hy hy' W a b
  have H2 := Lib.hid (h2.step B0.out)
  have H3 := Lib.hid (h3.step B0.out)
  have H5 := Lib.hid (h5.step B0.out)
  have H6 := Lib.hid (h6.step B0.out)
  clear h1 h2 h3 h4 h5 h6
  by_cases c1 : sameL fs fs' = true
  · have C1 := Lib.hid c1
    by_cases c2 : vs = vs'
    · have C2 := Lib.hid (decide_eq_true c2)
      by_cases c3 : samA ls ls' = true
      · have C3 := Lib.hid c3
        by_cases c4 : n = n'
        · have E := Lib.hid (show eqC fs vs ls n fs' vs' ls' n' = true by simp [eqC, c1, c2, c3, c4])
          have d4 : (n == n') = true := by simpa using c4
          rw [E.out]
          clear c1 c2 c3 c4
          go_enter Try.func16, Try.ntmps16
          go_wp2_with fail
          refine X1.out.mono ?_
          rintro e w1 ⟨he, dd⟩
          rw [C1.out] at he
          subst he
          have X := Box.of_new2 dd
          have XA := Lib.hid X.1
          have XB := Lib.hid X.2
          have F2 := Lib.hid (H2.out.step dd)
          have F5 := Lib.hid (H5.out.step dd)
          have F3 := Lib.hid (H3.out.step dd)
          have F6 := Lib.hid (H6.out.step dd)
          have D1 := Lib.hid (step B0.out dd)
          clear X dd
          have x1 := XA.out.cell 1
          have x2 := XB.out.cell 1
          simp only [List.getElem?_toArray, List.getElem?_cons_zero, List.getElem?_cons_succ] at x1 x2
          go_wp2_with fail
          refine (X2.out _ F2.out F5.out).mono ?_
          rintro e w2 ⟨he, dd⟩
          rw [C2.out] at he
          subst he
          clear x1 x2
          have YA := Lib.hid (XA.out.step dd)
          have YB := Lib.hid (XB.out.step dd)
          have G3 := Lib.hid (F3.out.step dd)
          have G6 := Lib.hid (F6.out.step dd)
          have D2 := Lib.hid (step D1.out dd)
          clear XA XB dd
          have XA := YA
          have XB := YB
          have x1 := XA.out.cell 2
          have x2 := XB.out.cell 2
          simp only [List.getElem?_toArray, List.getElem?_cons_zero, List.getElem?_cons_succ] at x1 x2
          go_wp2_with fail
          refine (X3.out _ G3.out G6.out).mono ?_
          rintro e w3 ⟨he, dd⟩
          rw [C3.out] at he
          subst he
          clear x1 x2
          have ZA := Lib.hid (XA.out.step dd)
          have ZB := Lib.hid (XB.out.step dd)
          have D := Lib.hid (step D2.out dd)
          clear XA XB dd
          have XA := ZA
          have XB := ZB
          have x1 := XA.out.cell 3
          have x2 := XB.out.cell 3
          simp only [List.getElem?_toArray, List.getElem?_cons_zero, List.getElem?_cons_succ] at x1 x2
          go_wp2
          go_ret
          exact ⟨rfl, by first | exact D.out | exact D.out.drew⟩
        · have E := Lib.hid (show eqC fs vs ls n fs' vs' ls' n' = false by simp [eqC, c4])
          have d4 : (n == n') = false := by simpa using c4
          rw [E.out]
          clear c1 c2 c3 c4
          go_enter Try.func16, Try.ntmps16
          go_wp2_with fail
          refine X1.out.mono ?_
          rintro e w1 ⟨he, dd⟩
          rw [C1.out] at he
          subst he
          have X := Box.of_new2 dd
          have XA := Lib.hid X.1
          have XB := Lib.hid X.2
          have F2 := Lib.hid (H2.out.step dd)
          have F5 := Lib.hid (H5.out.step dd)
          have F3 := Lib.hid (H3.out.step dd)
          have F6 := Lib.hid (H6.out.step dd)
          have D1 := Lib.hid (step B0.out dd)
          clear X dd
          have x1 := XA.out.cell 1
          have x2 := XB.out.cell 1
          simp only [List.getElem?_toArray, List.getElem?_cons_zero, List.getElem?_cons_succ] at x1 x2
          go_wp2_with fail
          refine (X2.out _ F2.out F5.out).mono ?_
          rintro e w2 ⟨he, dd⟩
          rw [C2.out] at he
          subst he
          clear x1 x2
          have YA := Lib.hid (XA.out.step dd)
          have YB := Lib.hid (XB.out.step dd)
          have G3 := Lib.hid (F3.out.step dd)
          have G6 := Lib.hid (F6.out.step dd)
          have D2 := Lib.hid (step D1.out dd)
          clear XA XB dd
          have XA := YA
          have XB := YB
          have x1 := XA.out.cell 2
          have x2 := XB.out.cell 2
          simp only [List.getElem?_toArray, List.getElem?_cons_zero, List.getElem?_cons_succ] at x1 x2
          go_wp2_with fail
          refine (X3.out _ G3.out G6.out).mono ?_
          rintro e w3 ⟨he, dd⟩
          rw [C3.out] at he
          subst he
          clear x1 x2
          have ZA := Lib.hid (XA.out.step dd)
          have ZB := Lib.hid (XB.out.step dd)
          have D := Lib.hid (step D2.out dd)
          clear XA XB dd
          have XA := ZA
          have XB := ZB
          have x1 := XA.out.cell 3
          have x2 := XB.out.cell 3
          simp only [List.getElem?_toArray, List.getElem?_cons_zero, List.getElem?_cons_succ] at x1 x2
          go_wp2
          go_ret
          exact ⟨rfl, by first | exact D.out | exact D.out.drew⟩
      · have C3 := Lib.hid (show samA ls ls' = false by simpa using c3)
        have E := Lib.hid (show eqC fs vs ls n fs' vs' ls' n' = false by simp [eqC, c3])
        rw [E.out]
        clear c1 c2 c3
        go_enter Try.func16, Try.ntmps16
        go_wp2_with fail
        refine X1.out.mono ?_
        rintro e w1 ⟨he, dd⟩
        rw [C1.out] at he
        subst he
        have X := Box.of_new2 dd
        have XA := Lib.hid X.1
        have XB := Lib.hid X.2
        have F2 := Lib.hid (H2.out.step dd)
        have F5 := Lib.hid (H5.out.step dd)
        have F3 := Lib.hid (H3.out.step dd)
        have F6 := Lib.hid (H6.out.step dd)
        have D1 := Lib.hid (step B0.out dd)
        clear X dd
        have x1 := XA.out.cell 1
        have x2 := XB.out.cell 1
        simp only [List.getElem?_toArray, List.getElem?_cons_zero, List.getElem?_cons_succ] at x1 x2
        go_wp2_with fail
        refine (X2.out _ F2.out F5.out).mono ?_
        rintro e w2 ⟨he, dd⟩
        rw [C2.out] at he
        subst he
        clear x1 x2
        have YA := Lib.hid (XA.out.step dd)
        have YB := Lib.hid (XB.out.step dd)
        have G3 := Lib.hid (F3.out.step dd)
        have G6 := Lib.hid (F6.out.step dd)
        have D2 := Lib.hid (step D1.out dd)
        clear XA XB dd
        have XA := YA
        have XB := YB
        have x1 := XA.out.cell 2
        have x2 := XB.out.cell 2
        simp only [List.getElem?_toArray, List.getElem?_cons_zero, List.getElem?_cons_succ] at x1 x2
        go_wp2_with fail
        refine (X3.out _ G3.out G6.out).mono ?_
        rintro e w3 ⟨he, dd⟩
        rw [C3.out] at he
        subst he
        clear x1 x2
        have D := Lib.hid (step D2.out dd)
        clear dd
        go_wp2
        go_ret
        exact ⟨rfl, D.out⟩
    · have C2 := Lib.hid (decide_eq_false c2)
      have E := Lib.hid (show eqC fs vs ls n fs' vs' ls' n' = false by simp [eqC, c2])
      rw [E.out]
      clear c1 c2
      go_enter Try.func16, Try.ntmps16
      go_wp2_with fail
      refine X1.out.mono ?_
      rintro e w1 ⟨he, dd⟩
      rw [C1.out] at he
      subst he
      have X := Box.of_new2 dd
      have XA := Lib.hid X.1
      have XB := Lib.hid X.2
      have F2 := Lib.hid (H2.out.step dd)
      have F5 := Lib.hid (H5.out.step dd)
      have F3 := Lib.hid (H3.out.step dd)
      have F6 := Lib.hid (H6.out.step dd)
      have D1 := Lib.hid (step B0.out dd)
      clear X dd
      have x1 := XA.out.cell 1
      have x2 := XB.out.cell 1
      simp only [List.getElem?_toArray, List.getElem?_cons_zero, List.getElem?_cons_succ] at x1 x2
      go_wp2_with fail
      refine (X2.out _ F2.out F5.out).mono ?_
      rintro e w2 ⟨he, dd⟩
      rw [C2.out] at he
      subst he
      clear x1 x2
      have D := Lib.hid (step D1.out dd)
      clear dd
      go_wp2
      go_ret
      exact ⟨rfl, D.out⟩
  · have C1 := Lib.hid (show sameL fs fs' = false by simpa using c1)
    have E := Lib.hid (show eqC fs vs ls n fs' vs' ls' n' = false by simp [eqC, c1])
    rw [E.out]
    clear c1
    go_enter Try.func16, Try.ntmps16
    go_wp2_with fail
    refine X1.out.mono ?_
    rintro e w1 ⟨he, dd⟩
    rw [C1.out] at he
    subst he
    have D := Lib.hid (step B0.out dd)
    clear dd
    go_wp2
    go_ret
    exact ⟨rfl, D.out⟩

end Go.Proofs.Ytnmhppiccganoaa
