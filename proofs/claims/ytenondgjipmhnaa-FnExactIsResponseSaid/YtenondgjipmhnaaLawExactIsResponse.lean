/- impl.IsResponse answers as its model at every argument: the law FnExactIsResponse returns true. Conditions: none beyond the statement's own. -/
import Derived.Test.YtenondgjipmhnaaRsp
namespace Go.Proofs.Ytenondgjipmhnaa.fnExactIsResponse
open Go.ChangeShapes Go.WideShapes Go.ChangeAt Go.RowKit
open Go.ChangeMaps (open_string shut_string)
set_option linter.unusedVariables false
set_option linter.unusedSimpArgs false

set_option maxRecDepth 100000 in
set_option maxHeartbeats 1000000 in
theorem walk (w : World) (A0 : Option Addr) (c0 : Nat) (s0 : List Int) (l0 : s0.length ≤ c0) (m0 : c0 ≤ maxLen) (w0 : Ints w 0 w.heap.size A0 s0) (A1 : Option Addr) (c1 : Nat) (l1 : ML) (k1 : l1.length ≤ c1) (m1 : c1 ≤ maxLen) (w1 : Meths w 0 w.heap.size A1 l1) (A2 : Option Addr) (c2 : Nat) (l2 : List (Int × List Int)) (k2 : l2.length ≤ c2) (m2 : c2 ≤ maxLen) (w2 : Facts w 0 w.heap.size A2 l2) (f3 : Int × List Int) (A3 : Option Addr) (c3 : Nat) (l3 : f3.2.length ≤ c3) (m3 : c3 ≤ maxLen) (w3 : Ints w 0 w.heap.size A3 f3.2) (A4 : Option Addr) (c4 : Nat) (l4 : List (Int × List Int)) (k4 : l4.length ≤ c4) (m4 : c4 ≤ maxLen) (w4 : Facts w 0 w.heap.size A4 l4) :
    Calls Try.prog 8 #[.slice A0 s0.length c0, .slice A1 l1.length c1, .slice A2 l2.length c2, .agg #[.int .i64 f3.1, .slice A3 f3.2.length c3], .slice A4 l4.length c4] w fun e w' => e = .returned (.bool true) ∧ Below w.heap.size w w' := by
  unfold maxLen at m0 m1 m2 m3 m4
  obtain ⟨r3, s3⟩ := f3
  simp only at l3 w3 ⊢
  have hn1 := szM_nonneg l1
  have hn2 := szF_nonneg l2
  have hn4 := szF_nonneg l4
  by_cases hb0 : (1048576 : Int) < s0.length
  · have I0 := Lib.hid (show RI w A0 s0 from w0)
    have I1 := Lib.hid (show RM w A1 l1 from w1)
    have I2 := Lib.hid (show RF w A2 l2 from w2)
    have I3 := Lib.hid (show RI w A3 s3 from w3)
    have I4 := Lib.hid (show RF w A4 l4 from w4)
    clear w0 w1 w2 w3 w4
    go_enter Try.func8, Try.ntmps8
    go_wp2
    go_ret
    exact ⟨rfl, below_alloc _ _⟩
  · skip
    by_cases hb1 : 1048576 - szM l1 < 0
    · have I0 := Lib.hid (show RI w A0 s0 from w0)
      have I1 := Lib.hid (show RM w A1 l1 from w1)
      have I2 := Lib.hid (show RF w A2 l2 from w2)
      have I3 := Lib.hid (show RI w A3 s3 from w3)
      have I4 := Lib.hid (show RF w A4 l4 from w4)
      clear w0 w1 w2 w3 w4
      go_enter Try.func8, Try.ntmps8
      go_wp2_with fail
      refine (szMethodS_any A1 c1 l1 1048576 (by omega) (by omega) (by omega) _ (by first | exact I1.out | exact I1.out.step (below_drew _) | exact I1.out.step (below_alloc _ _) | exact I1.out.step (step (below_alloc _ _) (below_alloc _ _)))).mono ?_
      rintro e u1 ⟨he, d1⟩
      rw [if_pos (show 1048576 - szM l1 < 0 by omega)] at he
      subst he
      have X3 := Lib.hid (Box.of_new d1)
      have b1 : Below w.heap.size w u1 := by first | exact d1 | exact und d1 | exact undN d1 | exact below_new d1 | exact und (below_new d1) | exact below_new (und d1) | exact below_new (below_new d1) | exact step (below_drew _) (und (below_new d1))
      have I0' := Lib.hid (I0.out.step b1)
      clear I0
      have I0 := I0'
      clear I0'
      have I1' := Lib.hid (I1.out.step b1)
      clear I1
      have I1 := I1'
      clear I1'
      have I2' := Lib.hid (I2.out.step b1)
      clear I2
      have I2 := I2'
      clear I2'
      have I3' := Lib.hid (I3.out.step b1)
      clear I3
      have I3 := I3'
      clear I3'
      have I4' := Lib.hid (I4.out.step b1)
      clear I4
      have I4 := I4'
      clear I4'
      have T1 := b1
      have Z1 := b1.size
      have g130 := X3.out.cell 0
      have g131 := X3.out.cell 1
      simp only [List.getElem?_toArray, List.getElem?_cons_zero, List.getElem?_cons_succ] at g130 g131
      have g13n := X3.out.lt
      go_wp2
      go_ret
      exact ⟨rfl, T1⟩
    · skip
      by_cases hb2 : (1048576 - szM l1) - szF l2 < 0
      · have I0 := Lib.hid (show RI w A0 s0 from w0)
        have I1 := Lib.hid (show RM w A1 l1 from w1)
        have I2 := Lib.hid (show RF w A2 l2 from w2)
        have I3 := Lib.hid (show RI w A3 s3 from w3)
        have I4 := Lib.hid (show RF w A4 l4 from w4)
        clear w0 w1 w2 w3 w4
        go_enter Try.func8, Try.ntmps8
        go_wp2_with fail
        refine (szMethodS_any A1 c1 l1 1048576 (by omega) (by omega) (by omega) _ (by first | exact I1.out | exact I1.out.step (below_drew _) | exact I1.out.step (below_alloc _ _) | exact I1.out.step (step (below_alloc _ _) (below_alloc _ _)))).mono ?_
        rintro e u1 ⟨he, d1⟩
        rw [if_neg (show ¬ (1048576 - szM l1 < 0) by omega)] at he
        subst he
        have X3 := Lib.hid (Box.of_new d1)
        have b1 : Below w.heap.size w u1 := by first | exact d1 | exact und d1 | exact undN d1 | exact below_new d1 | exact und (below_new d1) | exact below_new (und d1) | exact below_new (below_new d1) | exact step (below_drew _) (und (below_new d1))
        have I0' := Lib.hid (I0.out.step b1)
        clear I0
        have I0 := I0'
        clear I0'
        have I1' := Lib.hid (I1.out.step b1)
        clear I1
        have I1 := I1'
        clear I1'
        have I2' := Lib.hid (I2.out.step b1)
        clear I2
        have I2 := I2'
        clear I2'
        have I3' := Lib.hid (I3.out.step b1)
        clear I3
        have I3 := I3'
        clear I3'
        have I4' := Lib.hid (I4.out.step b1)
        clear I4
        have I4 := I4'
        clear I4'
        have T1 := b1
        have Z1 := b1.size
        have g130 := X3.out.cell 0
        have g131 := X3.out.cell 1
        simp only [List.getElem?_toArray, List.getElem?_cons_zero, List.getElem?_cons_succ] at g130 g131
        have g13n := X3.out.lt
        go_wp2_with fail
        refine (szFactS_any A2 c2 l2 (1048576 - szM l1) (by omega) (by omega) (by omega) _ (by first | exact I2.out | exact I2.out.step (below_drew _) | exact I2.out.step (below_alloc _ _) | exact I2.out.step (step (below_alloc _ _) (below_alloc _ _)))).mono ?_
        rintro e u2 ⟨he, d2⟩
        rw [if_pos (show (1048576 - szM l1) - szF l2 < 0 by omega)] at he
        subst he
        have b2 : Below u1.heap.size u1 u2 := by first | exact d2 | exact und d2 | exact undN d2 | exact below_new d2 | exact und (below_new d2) | exact below_new (und d2) | exact below_new (below_new d2) | exact step (below_drew _) (und (below_new d2))
        have I0' := Lib.hid (I0.out.step b2)
        clear I0
        have I0 := I0'
        clear I0'
        have I1' := Lib.hid (I1.out.step b2)
        clear I1
        have I1 := I1'
        clear I1'
        have I2' := Lib.hid (I2.out.step b2)
        clear I2
        have I2 := I2'
        clear I2'
        have I3' := Lib.hid (I3.out.step b2)
        clear I3
        have I3 := I3'
        clear I3'
        have I4' := Lib.hid (I4.out.step b2)
        clear I4
        have I4 := I4'
        clear I4'
        have X3' := Lib.hid (X3.out.step b2)
        clear X3
        have X3 := X3'
        clear X3'
        have T2 := step T1 b2
        have Z2 := b2.size
        have g230 := X3.out.cell 0
        have g231 := X3.out.cell 1
        simp only [List.getElem?_toArray, List.getElem?_cons_zero, List.getElem?_cons_succ] at g230 g231
        have g23n := X3.out.lt
        go_wp2
        go_ret
        exact ⟨rfl, T2⟩
      · skip
        by_cases hb3 : ((1048576 - szM l1) - szF l2) - (s3.length : Int) < 0
        · have I0 := Lib.hid (show RI w A0 s0 from w0)
          have I1 := Lib.hid (show RM w A1 l1 from w1)
          have I2 := Lib.hid (show RF w A2 l2 from w2)
          have I3 := Lib.hid (show RI w A3 s3 from w3)
          have I4 := Lib.hid (show RF w A4 l4 from w4)
          clear w0 w1 w2 w3 w4
          go_enter Try.func8, Try.ntmps8
          go_wp2_with fail
          refine (szMethodS_any A1 c1 l1 1048576 (by omega) (by omega) (by omega) _ (by first | exact I1.out | exact I1.out.step (below_drew _) | exact I1.out.step (below_alloc _ _) | exact I1.out.step (step (below_alloc _ _) (below_alloc _ _)))).mono ?_
          rintro e u1 ⟨he, d1⟩
          rw [if_neg (show ¬ (1048576 - szM l1 < 0) by omega)] at he
          subst he
          have X3 := Lib.hid (Box.of_new d1)
          have b1 : Below w.heap.size w u1 := by first | exact d1 | exact und d1 | exact undN d1 | exact below_new d1 | exact und (below_new d1) | exact below_new (und d1) | exact below_new (below_new d1) | exact step (below_drew _) (und (below_new d1))
          have I0' := Lib.hid (I0.out.step b1)
          clear I0
          have I0 := I0'
          clear I0'
          have I1' := Lib.hid (I1.out.step b1)
          clear I1
          have I1 := I1'
          clear I1'
          have I2' := Lib.hid (I2.out.step b1)
          clear I2
          have I2 := I2'
          clear I2'
          have I3' := Lib.hid (I3.out.step b1)
          clear I3
          have I3 := I3'
          clear I3'
          have I4' := Lib.hid (I4.out.step b1)
          clear I4
          have I4 := I4'
          clear I4'
          have T1 := b1
          have Z1 := b1.size
          have g130 := X3.out.cell 0
          have g131 := X3.out.cell 1
          simp only [List.getElem?_toArray, List.getElem?_cons_zero, List.getElem?_cons_succ] at g130 g131
          have g13n := X3.out.lt
          go_wp2_with fail
          refine (szFactS_any A2 c2 l2 (1048576 - szM l1) (by omega) (by omega) (by omega) _ (by first | exact I2.out | exact I2.out.step (below_drew _) | exact I2.out.step (below_alloc _ _) | exact I2.out.step (step (below_alloc _ _) (below_alloc _ _)))).mono ?_
          rintro e u2 ⟨he, d2⟩
          rw [if_neg (show ¬ ((1048576 - szM l1) - szF l2 < 0) by omega)] at he
          subst he
          have b2 : Below u1.heap.size u1 u2 := by first | exact d2 | exact und d2 | exact undN d2 | exact below_new d2 | exact und (below_new d2) | exact below_new (und d2) | exact below_new (below_new d2) | exact step (below_drew _) (und (below_new d2))
          have I0' := Lib.hid (I0.out.step b2)
          clear I0
          have I0 := I0'
          clear I0'
          have I1' := Lib.hid (I1.out.step b2)
          clear I1
          have I1 := I1'
          clear I1'
          have I2' := Lib.hid (I2.out.step b2)
          clear I2
          have I2 := I2'
          clear I2'
          have I3' := Lib.hid (I3.out.step b2)
          clear I3
          have I3 := I3'
          clear I3'
          have I4' := Lib.hid (I4.out.step b2)
          clear I4
          have I4 := I4'
          clear I4'
          have X3' := Lib.hid (X3.out.step b2)
          clear X3
          have X3 := X3'
          clear X3'
          have T2 := step T1 b2
          have Z2 := b2.size
          have g230 := X3.out.cell 0
          have g231 := X3.out.cell 1
          simp only [List.getElem?_toArray, List.getElem?_cons_zero, List.getElem?_cons_succ] at g230 g231
          have g23n := X3.out.lt
          go_wp2_with fail
          refine (szAccess_any (r3, s3) A3 c3 ((1048576 - szM l1) - szF l2) (by simp; omega) (by omega) (by omega) _).mono ?_
          rintro e u3 ⟨he, d3⟩
          rw [if_pos (show ((1048576 - szM l1) - szF l2) - (s3.length : Int) < 0 by omega)] at he
          subst he
          have b3 : Below u2.heap.size u2 u3 := by first | exact d3 | exact und d3 | exact undN d3 | exact below_new d3 | exact und (below_new d3) | exact below_new (und d3) | exact below_new (below_new d3) | exact step (below_drew _) (und (below_new d3))
          have I0' := Lib.hid (I0.out.step b3)
          clear I0
          have I0 := I0'
          clear I0'
          have I1' := Lib.hid (I1.out.step b3)
          clear I1
          have I1 := I1'
          clear I1'
          have I2' := Lib.hid (I2.out.step b3)
          clear I2
          have I2 := I2'
          clear I2'
          have I3' := Lib.hid (I3.out.step b3)
          clear I3
          have I3 := I3'
          clear I3'
          have I4' := Lib.hid (I4.out.step b3)
          clear I4
          have I4 := I4'
          clear I4'
          have X3' := Lib.hid (X3.out.step b3)
          clear X3
          have X3 := X3'
          clear X3'
          have T3 := step T2 b3
          have Z3 := b3.size
          have g330 := X3.out.cell 0
          have g331 := X3.out.cell 1
          simp only [List.getElem?_toArray, List.getElem?_cons_zero, List.getElem?_cons_succ] at g330 g331
          have g33n := X3.out.lt
          go_wp2
          go_ret
          exact ⟨rfl, T3⟩
        · skip
          by_cases hb4 : (((1048576 - szM l1) - szF l2) - (s3.length : Int)) - szF l4 < 0
          · have I0 := Lib.hid (show RI w A0 s0 from w0)
            have I1 := Lib.hid (show RM w A1 l1 from w1)
            have I2 := Lib.hid (show RF w A2 l2 from w2)
            have I3 := Lib.hid (show RI w A3 s3 from w3)
            have I4 := Lib.hid (show RF w A4 l4 from w4)
            clear w0 w1 w2 w3 w4
            go_enter Try.func8, Try.ntmps8
            go_wp2_with fail
            refine (szMethodS_any A1 c1 l1 1048576 (by omega) (by omega) (by omega) _ (by first | exact I1.out | exact I1.out.step (below_drew _) | exact I1.out.step (below_alloc _ _) | exact I1.out.step (step (below_alloc _ _) (below_alloc _ _)))).mono ?_
            rintro e u1 ⟨he, d1⟩
            rw [if_neg (show ¬ (1048576 - szM l1 < 0) by omega)] at he
            subst he
            have X3 := Lib.hid (Box.of_new d1)
            have b1 : Below w.heap.size w u1 := by first | exact d1 | exact und d1 | exact undN d1 | exact below_new d1 | exact und (below_new d1) | exact below_new (und d1) | exact below_new (below_new d1) | exact step (below_drew _) (und (below_new d1))
            have I0' := Lib.hid (I0.out.step b1)
            clear I0
            have I0 := I0'
            clear I0'
            have I1' := Lib.hid (I1.out.step b1)
            clear I1
            have I1 := I1'
            clear I1'
            have I2' := Lib.hid (I2.out.step b1)
            clear I2
            have I2 := I2'
            clear I2'
            have I3' := Lib.hid (I3.out.step b1)
            clear I3
            have I3 := I3'
            clear I3'
            have I4' := Lib.hid (I4.out.step b1)
            clear I4
            have I4 := I4'
            clear I4'
            have T1 := b1
            have Z1 := b1.size
            have g130 := X3.out.cell 0
            have g131 := X3.out.cell 1
            simp only [List.getElem?_toArray, List.getElem?_cons_zero, List.getElem?_cons_succ] at g130 g131
            have g13n := X3.out.lt
            go_wp2_with fail
            refine (szFactS_any A2 c2 l2 (1048576 - szM l1) (by omega) (by omega) (by omega) _ (by first | exact I2.out | exact I2.out.step (below_drew _) | exact I2.out.step (below_alloc _ _) | exact I2.out.step (step (below_alloc _ _) (below_alloc _ _)))).mono ?_
            rintro e u2 ⟨he, d2⟩
            rw [if_neg (show ¬ ((1048576 - szM l1) - szF l2 < 0) by omega)] at he
            subst he
            have b2 : Below u1.heap.size u1 u2 := by first | exact d2 | exact und d2 | exact undN d2 | exact below_new d2 | exact und (below_new d2) | exact below_new (und d2) | exact below_new (below_new d2) | exact step (below_drew _) (und (below_new d2))
            have I0' := Lib.hid (I0.out.step b2)
            clear I0
            have I0 := I0'
            clear I0'
            have I1' := Lib.hid (I1.out.step b2)
            clear I1
            have I1 := I1'
            clear I1'
            have I2' := Lib.hid (I2.out.step b2)
            clear I2
            have I2 := I2'
            clear I2'
            have I3' := Lib.hid (I3.out.step b2)
            clear I3
            have I3 := I3'
            clear I3'
            have I4' := Lib.hid (I4.out.step b2)
            clear I4
            have I4 := I4'
            clear I4'
            have X3' := Lib.hid (X3.out.step b2)
            clear X3
            have X3 := X3'
            clear X3'
            have T2 := step T1 b2
            have Z2 := b2.size
            have g230 := X3.out.cell 0
            have g231 := X3.out.cell 1
            simp only [List.getElem?_toArray, List.getElem?_cons_zero, List.getElem?_cons_succ] at g230 g231
            have g23n := X3.out.lt
            go_wp2_with fail
            refine (szAccess_any (r3, s3) A3 c3 ((1048576 - szM l1) - szF l2) (by simp; omega) (by omega) (by omega) _).mono ?_
            rintro e u3 ⟨he, d3⟩
            rw [if_neg (show ¬ (((1048576 - szM l1) - szF l2) - (s3.length : Int) < 0) by omega)] at he
            subst he
            have b3 : Below u2.heap.size u2 u3 := by first | exact d3 | exact und d3 | exact undN d3 | exact below_new d3 | exact und (below_new d3) | exact below_new (und d3) | exact below_new (below_new d3) | exact step (below_drew _) (und (below_new d3))
            have I0' := Lib.hid (I0.out.step b3)
            clear I0
            have I0 := I0'
            clear I0'
            have I1' := Lib.hid (I1.out.step b3)
            clear I1
            have I1 := I1'
            clear I1'
            have I2' := Lib.hid (I2.out.step b3)
            clear I2
            have I2 := I2'
            clear I2'
            have I3' := Lib.hid (I3.out.step b3)
            clear I3
            have I3 := I3'
            clear I3'
            have I4' := Lib.hid (I4.out.step b3)
            clear I4
            have I4 := I4'
            clear I4'
            have X3' := Lib.hid (X3.out.step b3)
            clear X3
            have X3 := X3'
            clear X3'
            have T3 := step T2 b3
            have Z3 := b3.size
            have g330 := X3.out.cell 0
            have g331 := X3.out.cell 1
            simp only [List.getElem?_toArray, List.getElem?_cons_zero, List.getElem?_cons_succ] at g330 g331
            have g33n := X3.out.lt
            go_wp2_with fail
            refine (szFactS_any A4 c4 l4 (((1048576 - szM l1) - szF l2) - (s3.length : Int)) (by omega) (by omega) (by omega) _ (by first | exact I4.out | exact I4.out.step (below_drew _) | exact I4.out.step (below_alloc _ _) | exact I4.out.step (step (below_alloc _ _) (below_alloc _ _)))).mono ?_
            rintro e u4 ⟨he, d4⟩
            rw [if_pos (show (((1048576 - szM l1) - szF l2) - (s3.length : Int)) - szF l4 < 0 by omega)] at he
            subst he
            have b4 : Below u3.heap.size u3 u4 := by first | exact d4 | exact und d4 | exact undN d4 | exact below_new d4 | exact und (below_new d4) | exact below_new (und d4) | exact below_new (below_new d4) | exact step (below_drew _) (und (below_new d4))
            have I0' := Lib.hid (I0.out.step b4)
            clear I0
            have I0 := I0'
            clear I0'
            have I1' := Lib.hid (I1.out.step b4)
            clear I1
            have I1 := I1'
            clear I1'
            have I2' := Lib.hid (I2.out.step b4)
            clear I2
            have I2 := I2'
            clear I2'
            have I3' := Lib.hid (I3.out.step b4)
            clear I3
            have I3 := I3'
            clear I3'
            have I4' := Lib.hid (I4.out.step b4)
            clear I4
            have I4 := I4'
            clear I4'
            have X3' := Lib.hid (X3.out.step b4)
            clear X3
            have X3 := X3'
            clear X3'
            have T4 := step T3 b4
            have Z4 := b4.size
            have g430 := X3.out.cell 0
            have g431 := X3.out.cell 1
            simp only [List.getElem?_toArray, List.getElem?_cons_zero, List.getElem?_cons_succ] at g430 g431
            have g43n := X3.out.lt
            go_wp2
            go_ret
            exact ⟨rfl, T4⟩
          · skip
            have hl0 : s0.length ≤ 1048576 := by omega
            have hL0 : (s0.length : Int) ≤ 1048576 := by omega
            have hz1 : szM l1 ≤ 1048576 := by omega
            have hl1 : l1.length ≤ 1048576 := szM_len hz1
            have hL1 : (l1.length : Int) ≤ 1048576 := by omega
            have hz2 : szF l2 ≤ 1048576 := by omega
            have hl2 : l2.length ≤ 1048576 := szF_len hz2
            have hL2 : (l2.length : Int) ≤ 1048576 := by omega
            have hl3 : s3.length ≤ 1048576 := by omega
            have hL3 : (s3.length : Int) ≤ 1048576 := by omega
            have hz4 : szF l4 ≤ 1048576 := by omega
            have hl4 : l4.length ≤ 1048576 := szF_len hz4
            have hL4 : (l4.length : Int) ≤ 1048576 := by omega
            have I0 := Lib.hid (show RI w A0 s0 from w0)
            have I1 := Lib.hid (show RM w A1 l1 from w1)
            have I2 := Lib.hid (show RF w A2 l2 from w2)
            have I3 := Lib.hid (show RI w A3 s3 from w3)
            have I4 := Lib.hid (show RF w A4 l4 from w4)
            clear w0 w1 w2 w3 w4
            go_enter Try.func8, Try.ntmps8
            go_wp2_with fail
            refine (szMethodS_any A1 c1 l1 1048576 (by omega) (by omega) (by omega) _ (by first | exact I1.out | exact I1.out.step (below_drew _) | exact I1.out.step (below_alloc _ _) | exact I1.out.step (step (below_alloc _ _) (below_alloc _ _)))).mono ?_
            rintro e u1 ⟨he, d1⟩
            rw [if_neg (show ¬ (1048576 - szM l1 < 0) by omega)] at he
            subst he
            have X3 := Lib.hid (Box.of_new d1)
            have b1 : Below w.heap.size w u1 := by first | exact d1 | exact und d1 | exact undN d1 | exact below_new d1 | exact und (below_new d1) | exact below_new (und d1) | exact below_new (below_new d1) | exact step (below_drew _) (und (below_new d1))
            have I0' := Lib.hid (I0.out.step b1)
            clear I0
            have I0 := I0'
            clear I0'
            have I1' := Lib.hid (I1.out.step b1)
            clear I1
            have I1 := I1'
            clear I1'
            have I2' := Lib.hid (I2.out.step b1)
            clear I2
            have I2 := I2'
            clear I2'
            have I3' := Lib.hid (I3.out.step b1)
            clear I3
            have I3 := I3'
            clear I3'
            have I4' := Lib.hid (I4.out.step b1)
            clear I4
            have I4 := I4'
            clear I4'
            have T1 := b1
            have Z1 := b1.size
            have g130 := X3.out.cell 0
            have g131 := X3.out.cell 1
            simp only [List.getElem?_toArray, List.getElem?_cons_zero, List.getElem?_cons_succ] at g130 g131
            have g13n := X3.out.lt
            go_wp2_with fail
            refine (szFactS_any A2 c2 l2 (1048576 - szM l1) (by omega) (by omega) (by omega) _ (by first | exact I2.out | exact I2.out.step (below_drew _) | exact I2.out.step (below_alloc _ _) | exact I2.out.step (step (below_alloc _ _) (below_alloc _ _)))).mono ?_
            rintro e u2 ⟨he, d2⟩
            rw [if_neg (show ¬ ((1048576 - szM l1) - szF l2 < 0) by omega)] at he
            subst he
            have b2 : Below u1.heap.size u1 u2 := by first | exact d2 | exact und d2 | exact undN d2 | exact below_new d2 | exact und (below_new d2) | exact below_new (und d2) | exact below_new (below_new d2) | exact step (below_drew _) (und (below_new d2))
            have I0' := Lib.hid (I0.out.step b2)
            clear I0
            have I0 := I0'
            clear I0'
            have I1' := Lib.hid (I1.out.step b2)
            clear I1
            have I1 := I1'
            clear I1'
            have I2' := Lib.hid (I2.out.step b2)
            clear I2
            have I2 := I2'
            clear I2'
            have I3' := Lib.hid (I3.out.step b2)
            clear I3
            have I3 := I3'
            clear I3'
            have I4' := Lib.hid (I4.out.step b2)
            clear I4
            have I4 := I4'
            clear I4'
            have X3' := Lib.hid (X3.out.step b2)
            clear X3
            have X3 := X3'
            clear X3'
            have T2 := step T1 b2
            have Z2 := b2.size
            have g230 := X3.out.cell 0
            have g231 := X3.out.cell 1
            simp only [List.getElem?_toArray, List.getElem?_cons_zero, List.getElem?_cons_succ] at g230 g231
            have g23n := X3.out.lt
            go_wp2_with fail
            refine (szAccess_any (r3, s3) A3 c3 ((1048576 - szM l1) - szF l2) (by simp; omega) (by omega) (by omega) _).mono ?_
            rintro e u3 ⟨he, d3⟩
            rw [if_neg (show ¬ (((1048576 - szM l1) - szF l2) - (s3.length : Int) < 0) by omega)] at he
            subst he
            have b3 : Below u2.heap.size u2 u3 := by first | exact d3 | exact und d3 | exact undN d3 | exact below_new d3 | exact und (below_new d3) | exact below_new (und d3) | exact below_new (below_new d3) | exact step (below_drew _) (und (below_new d3))
            have I0' := Lib.hid (I0.out.step b3)
            clear I0
            have I0 := I0'
            clear I0'
            have I1' := Lib.hid (I1.out.step b3)
            clear I1
            have I1 := I1'
            clear I1'
            have I2' := Lib.hid (I2.out.step b3)
            clear I2
            have I2 := I2'
            clear I2'
            have I3' := Lib.hid (I3.out.step b3)
            clear I3
            have I3 := I3'
            clear I3'
            have I4' := Lib.hid (I4.out.step b3)
            clear I4
            have I4 := I4'
            clear I4'
            have X3' := Lib.hid (X3.out.step b3)
            clear X3
            have X3 := X3'
            clear X3'
            have T3 := step T2 b3
            have Z3 := b3.size
            have g330 := X3.out.cell 0
            have g331 := X3.out.cell 1
            simp only [List.getElem?_toArray, List.getElem?_cons_zero, List.getElem?_cons_succ] at g330 g331
            have g33n := X3.out.lt
            go_wp2_with fail
            refine (szFactS_any A4 c4 l4 (((1048576 - szM l1) - szF l2) - (s3.length : Int)) (by omega) (by omega) (by omega) _ (by first | exact I4.out | exact I4.out.step (below_drew _) | exact I4.out.step (below_alloc _ _) | exact I4.out.step (step (below_alloc _ _) (below_alloc _ _)))).mono ?_
            rintro e u4 ⟨he, d4⟩
            rw [if_neg (show ¬ ((((1048576 - szM l1) - szF l2) - (s3.length : Int)) - szF l4 < 0) by omega)] at he
            subst he
            have b4 : Below u3.heap.size u3 u4 := by first | exact d4 | exact und d4 | exact undN d4 | exact below_new d4 | exact und (below_new d4) | exact below_new (und d4) | exact below_new (below_new d4) | exact step (below_drew _) (und (below_new d4))
            have I0' := Lib.hid (I0.out.step b4)
            clear I0
            have I0 := I0'
            clear I0'
            have I1' := Lib.hid (I1.out.step b4)
            clear I1
            have I1 := I1'
            clear I1'
            have I2' := Lib.hid (I2.out.step b4)
            clear I2
            have I2 := I2'
            clear I2'
            have I3' := Lib.hid (I3.out.step b4)
            clear I3
            have I3 := I3'
            clear I3'
            have I4' := Lib.hid (I4.out.step b4)
            clear I4
            have I4 := I4'
            clear I4'
            have X3' := Lib.hid (X3.out.step b4)
            clear X3
            have X3 := X3'
            clear X3'
            have T4 := step T3 b4
            have Z4 := b4.size
            have g430 := X3.out.cell 0
            have g431 := X3.out.cell 1
            simp only [List.getElem?_toArray, List.getElem?_cons_zero, List.getElem?_cons_succ] at g430 g431
            have g43n := X3.out.lt
            have tok5 : True := trivial
            have tok6 : True := trivial
            have tok7 : True := trivial
            have tok8 : True := trivial
            have tok9 : True := trivial
            have tok10 : True := trivial
            go_wp2_with fail
            go_region_held3 (fun w' => w'.cell? ⟨w.heap.size, 0, none⟩ = some (.int .i64 r3) ∧ w'.cell? ⟨w.heap.size, 1, none⟩ = some (.slice A3 s3.length c3))
              (first
                | go_keep
                | (go_split_ands; refine ⟨?_, ?_⟩ <;> (rw [d5.cell (by (try simp) <;> omega)]; assumption))
                | (go_split_ands; refine ⟨?_, ?_⟩ <;> (rw [d6.cell (by (try simp) <;> omega)]; assumption))
                | (go_split_ands; refine ⟨?_, ?_⟩ <;> (rw [d7.cell (by (try simp) <;> omega)]; assumption))
                | (go_split_ands; refine ⟨?_, ?_⟩ <;> (rw [d8.cell (by (try simp) <;> omega)]; assumption))
                | (go_split_ands; refine ⟨?_, ?_⟩ <;> (rw [d9.cell (by (try simp) <;> omega)]; assumption))
                | (go_split_ands; refine ⟨?_, ?_⟩ <;> (rw [d10.cell (by (try simp) <;> omega)]; assumption)))
              (first
                | (go_at_call 15
                   clear tok5
                   refine (toIntS_r A0 c0 s0 hl0 _ (by first | exact I0.out | exact I0.out.step (below_drew _) | exact I0.out.step (below_alloc _ _) | exact I0.out.step (step (below_alloc _ _) (below_alloc _ _)))).mono ?_
                   rintro e u5 ⟨rfl, r5, d5, z5⟩
                   have b5 : Below u4.heap.size u4 u5 := by first | exact d5 | exact und d5 | exact undN d5 | exact below_new d5 | exact und (below_new d5) | exact below_new (und d5) | exact below_new (below_new d5) | exact step (below_drew _) (und (below_new d5))
                   have I0' := Lib.hid (I0.out.step b5)
                   clear I0
                   have I0 := I0'
                   clear I0'
                   have I1' := Lib.hid (I1.out.step b5)
                   clear I1
                   have I1 := I1'
                   clear I1'
                   have I2' := Lib.hid (I2.out.step b5)
                   clear I2
                   have I2 := I2'
                   clear I2'
                   have I3' := Lib.hid (I3.out.step b5)
                   clear I3
                   have I3 := I3'
                   clear I3'
                   have I4' := Lib.hid (I4.out.step b5)
                   clear I4
                   have I4 := I4'
                   clear I4'
                   have X3' := Lib.hid (X3.out.step b5)
                   clear X3
                   have X3 := X3'
                   clear X3'
                   have T5 := step T4 b5
                   have Z5 := b5.size
                   try rw [al_size] at r5
                   have R5 := Lib.hid r5.ri
                   clear r5 z5)
                | (go_at_call 22
                   clear tok6
                   refine (toMethodS_r A1 c1 l1 hz1 _ (by first | exact I1.out | exact I1.out.step (below_drew _) | exact I1.out.step (below_alloc _ _) | exact I1.out.step (step (below_alloc _ _) (below_alloc _ _)))).mono ?_
                   rintro e u6 ⟨rfl, r6, d6, z6⟩
                   have b6 : Below u5.heap.size u5 u6 := by first | exact d6 | exact und d6 | exact undN d6 | exact below_new d6 | exact und (below_new d6) | exact below_new (und d6) | exact below_new (below_new d6) | exact step (below_drew _) (und (below_new d6))
                   have I0' := Lib.hid (I0.out.step b6)
                   clear I0
                   have I0 := I0'
                   clear I0'
                   have I1' := Lib.hid (I1.out.step b6)
                   clear I1
                   have I1 := I1'
                   clear I1'
                   have I2' := Lib.hid (I2.out.step b6)
                   clear I2
                   have I2 := I2'
                   clear I2'
                   have I3' := Lib.hid (I3.out.step b6)
                   clear I3
                   have I3 := I3'
                   clear I3'
                   have I4' := Lib.hid (I4.out.step b6)
                   clear I4
                   have I4 := I4'
                   clear I4'
                   have X3' := Lib.hid (X3.out.step b6)
                   clear X3
                   have X3 := X3'
                   clear X3'
                   have R5' := Lib.hid (R5.out.step b6)
                   clear R5
                   have R5 := R5'
                   clear R5'
                   have T6 := step T5 b6
                   have Z6 := b6.size
                   try rw [al_size] at r6
                   have R6 := Lib.hid r6
                   clear r6 z6)
                | (go_at_call 32
                   clear tok7
                   refine (toFactS_r A2 c2 l2 hz2 _ (by first | exact I2.out | exact I2.out.step (below_drew _) | exact I2.out.step (below_alloc _ _) | exact I2.out.step (step (below_alloc _ _) (below_alloc _ _)))).mono ?_
                   rintro e u7 ⟨rfl, r7, d7, z7⟩
                   have b7 : Below u6.heap.size u6 u7 := by first | exact d7 | exact und d7 | exact undN d7 | exact below_new d7 | exact und (below_new d7) | exact below_new (und d7) | exact below_new (below_new d7) | exact step (below_drew _) (und (below_new d7))
                   have I0' := Lib.hid (I0.out.step b7)
                   clear I0
                   have I0 := I0'
                   clear I0'
                   have I1' := Lib.hid (I1.out.step b7)
                   clear I1
                   have I1 := I1'
                   clear I1'
                   have I2' := Lib.hid (I2.out.step b7)
                   clear I2
                   have I2 := I2'
                   clear I2'
                   have I3' := Lib.hid (I3.out.step b7)
                   clear I3
                   have I3 := I3'
                   clear I3'
                   have I4' := Lib.hid (I4.out.step b7)
                   clear I4
                   have I4 := I4'
                   clear I4'
                   have X3' := Lib.hid (X3.out.step b7)
                   clear X3
                   have X3 := X3'
                   clear X3'
                   have R5' := Lib.hid (R5.out.step b7)
                   clear R5
                   have R5 := R5'
                   clear R5'
                   have R6' := Lib.hid (R6.out.step b7)
                   clear R6
                   have R6 := R6'
                   clear R6'
                   have T7 := step T6 b7
                   have Z7 := b7.size
                   try rw [al_size] at r7
                   have R7 := Lib.hid r7
                   clear r7 z7)
                | (go_at_call 27
                   clear tok8
                   refine (toAccess_r r3 s3 A3 c3 hl3 _ (by first | exact I3.out | exact I3.out.step (below_drew _) | exact I3.out.step (below_alloc _ _) | exact I3.out.step (step (below_alloc _ _) (below_alloc _ _)))).mono ?_
                   rintro e u8 ⟨rfl, r8, d8, z8⟩
                   have b8 : Below u7.heap.size u7 u8 := by first | exact d8 | exact und d8 | exact undN d8 | exact below_new d8 | exact und (below_new d8) | exact below_new (und d8) | exact below_new (below_new d8) | exact step (below_drew _) (und (below_new d8))
                   have I0' := Lib.hid (I0.out.step b8)
                   clear I0
                   have I0 := I0'
                   clear I0'
                   have I1' := Lib.hid (I1.out.step b8)
                   clear I1
                   have I1 := I1'
                   clear I1'
                   have I2' := Lib.hid (I2.out.step b8)
                   clear I2
                   have I2 := I2'
                   clear I2'
                   have I3' := Lib.hid (I3.out.step b8)
                   clear I3
                   have I3 := I3'
                   clear I3'
                   have I4' := Lib.hid (I4.out.step b8)
                   clear I4
                   have I4 := I4'
                   clear I4'
                   have X3' := Lib.hid (X3.out.step b8)
                   clear X3
                   have X3 := X3'
                   clear X3'
                   have R5' := Lib.hid (R5.out.step b8)
                   clear R5
                   have R5 := R5'
                   clear R5'
                   have R6' := Lib.hid (R6.out.step b8)
                   clear R6
                   have R6 := R6'
                   clear R6'
                   have R7' := Lib.hid (R7.out.step b8)
                   clear R7
                   have R7 := R7'
                   clear R7'
                   have T8 := step T7 b8
                   have Z8 := b8.size
                   try rw [al_size] at r8
                   have R8 := Lib.hid r8.ri
                   clear r8 z8)
                | (go_at_call 32
                   clear tok9
                   refine (toFactS_r A4 c4 l4 hz4 _ (by first | exact I4.out | exact I4.out.step (below_drew _) | exact I4.out.step (below_alloc _ _) | exact I4.out.step (step (below_alloc _ _) (below_alloc _ _)))).mono ?_
                   rintro e u9 ⟨rfl, r9, d9, z9⟩
                   have b9 : Below u8.heap.size u8 u9 := by first | exact d9 | exact und d9 | exact undN d9 | exact below_new d9 | exact und (below_new d9) | exact below_new (und d9) | exact below_new (below_new d9) | exact step (below_drew _) (und (below_new d9))
                   have I0' := Lib.hid (I0.out.step b9)
                   clear I0
                   have I0 := I0'
                   clear I0'
                   have I1' := Lib.hid (I1.out.step b9)
                   clear I1
                   have I1 := I1'
                   clear I1'
                   have I2' := Lib.hid (I2.out.step b9)
                   clear I2
                   have I2 := I2'
                   clear I2'
                   have I3' := Lib.hid (I3.out.step b9)
                   clear I3
                   have I3 := I3'
                   clear I3'
                   have I4' := Lib.hid (I4.out.step b9)
                   clear I4
                   have I4 := I4'
                   clear I4'
                   have X3' := Lib.hid (X3.out.step b9)
                   clear X3
                   have X3 := X3'
                   clear X3'
                   have R5' := Lib.hid (R5.out.step b9)
                   clear R5
                   have R5 := R5'
                   clear R5'
                   have R6' := Lib.hid (R6.out.step b9)
                   clear R6
                   have R6 := R6'
                   clear R6'
                   have R7' := Lib.hid (R7.out.step b9)
                   clear R7
                   have R7 := R7'
                   clear R7'
                   have R8' := Lib.hid (R8.out.step b9)
                   clear R8
                   have R8 := R8'
                   clear R8'
                   have T9 := step T8 b9
                   have Z9 := b9.size
                   try rw [al_size] at r9
                   have R9 := Lib.hid r9
                   clear r9 z9)
                | (go_at_call 42
                   clear tok10
                   refine (spec_IsResponse _ _ s0 _ _ l1 _ _ l2 r3 s3 _ _ _ _ l4 hl0 hz1 hz2 hl3 hz4 _ (by first | exact R5.out | exact R5.out.step (below_drew _) | exact R5.out.step (below_alloc _ _) | exact R5.out.step (step (below_alloc _ _) (below_alloc _ _))) (by first | exact R6.out | exact R6.out.step (below_drew _) | exact R6.out.step (below_alloc _ _) | exact R6.out.step (step (below_alloc _ _) (below_alloc _ _))) (by first | exact R7.out | exact R7.out.step (below_drew _) | exact R7.out.step (below_alloc _ _) | exact R7.out.step (step (below_alloc _ _) (below_alloc _ _))) (by first | exact R8.out | exact R8.out.step (below_drew _) | exact R8.out.step (below_alloc _ _) | exact R8.out.step (step (below_alloc _ _) (below_alloc _ _))) (by first | exact R9.out | exact R9.out.step (below_drew _) | exact R9.out.step (below_alloc _ _) | exact R9.out.step (step (below_alloc _ _) (below_alloc _ _)))).mono ?_
                   rintro e u10 ⟨rfl, d10⟩
                   have b10 : Below u9.heap.size u9 u10 := by first | exact d10 | exact und d10 | exact undN d10 | exact below_new d10 | exact und (below_new d10) | exact below_new (und d10) | exact below_new (below_new d10) | exact step (below_drew _) (und (below_new d10))
                   have I0' := Lib.hid (I0.out.step b10)
                   clear I0
                   have I0 := I0'
                   clear I0'
                   have I1' := Lib.hid (I1.out.step b10)
                   clear I1
                   have I1 := I1'
                   clear I1'
                   have I2' := Lib.hid (I2.out.step b10)
                   clear I2
                   have I2 := I2'
                   clear I2'
                   have I3' := Lib.hid (I3.out.step b10)
                   clear I3
                   have I3 := I3'
                   clear I3'
                   have I4' := Lib.hid (I4.out.step b10)
                   clear I4
                   have I4 := I4'
                   clear I4'
                   have X3' := Lib.hid (X3.out.step b10)
                   clear X3
                   have X3 := X3'
                   clear X3'
                   have R5' := Lib.hid (R5.out.step b10)
                   clear R5
                   have R5 := R5'
                   clear R5'
                   have R6' := Lib.hid (R6.out.step b10)
                   clear R6
                   have R6 := R6'
                   clear R6'
                   have R7' := Lib.hid (R7.out.step b10)
                   clear R7
                   have R7 := R7'
                   clear R7'
                   have R8' := Lib.hid (R8.out.step b10)
                   clear R8
                   have R8 := R8'
                   clear R8'
                   have R9' := Lib.hid (R9.out.step b10)
                   clear R9
                   have R9 := R9'
                   clear R9'
                   have T10 := step T9 b10
                   have Z10 := b10.size))
            have h1030 := X3.out.cell 0
            have h1031 := X3.out.cell 1
            simp only [List.getElem?_toArray, List.getElem?_cons_zero, List.getElem?_cons_succ] at h1030 h1031
            have h103n := X3.out.lt
            go_wp2_with fail
            refine (toIntS_r A0 c0 s0 hl0 _ (by first | exact I0.out | exact I0.out.step (below_drew _) | exact I0.out.step (below_alloc _ _) | exact I0.out.step (step (below_alloc _ _) (below_alloc _ _)))).mono ?_
            rintro e u11 ⟨rfl, r11, d11, z11⟩
            have b11 : Below u10.heap.size u10 u11 := by first | exact d11 | exact und d11 | exact undN d11 | exact below_new d11 | exact und (below_new d11) | exact below_new (und d11) | exact below_new (below_new d11) | exact step (below_drew _) (und (below_new d11))
            have I0' := Lib.hid (I0.out.step b11)
            clear I0
            have I0 := I0'
            clear I0'
            have I1' := Lib.hid (I1.out.step b11)
            clear I1
            have I1 := I1'
            clear I1'
            have I2' := Lib.hid (I2.out.step b11)
            clear I2
            have I2 := I2'
            clear I2'
            have I3' := Lib.hid (I3.out.step b11)
            clear I3
            have I3 := I3'
            clear I3'
            have I4' := Lib.hid (I4.out.step b11)
            clear I4
            have I4 := I4'
            clear I4'
            have X3' := Lib.hid (X3.out.step b11)
            clear X3
            have X3 := X3'
            clear X3'
            have T11 := step T10 b11
            have Z11 := b11.size
            try rw [al_size] at r11
            have R11 := Lib.hid r11.ri
            clear r11 z11
            have h1130 := X3.out.cell 0
            have h1131 := X3.out.cell 1
            simp only [List.getElem?_toArray, List.getElem?_cons_zero, List.getElem?_cons_succ] at h1130 h1131
            have h113n := X3.out.lt
            go_wp2_with fail
            refine (toMethodS_r A1 c1 l1 hz1 _ (by first | exact I1.out | exact I1.out.step (below_drew _) | exact I1.out.step (below_alloc _ _) | exact I1.out.step (step (below_alloc _ _) (below_alloc _ _)))).mono ?_
            rintro e u12 ⟨rfl, r12, d12, z12⟩
            have b12 : Below u11.heap.size u11 u12 := by first | exact d12 | exact und d12 | exact undN d12 | exact below_new d12 | exact und (below_new d12) | exact below_new (und d12) | exact below_new (below_new d12) | exact step (below_drew _) (und (below_new d12))
            have I0' := Lib.hid (I0.out.step b12)
            clear I0
            have I0 := I0'
            clear I0'
            have I1' := Lib.hid (I1.out.step b12)
            clear I1
            have I1 := I1'
            clear I1'
            have I2' := Lib.hid (I2.out.step b12)
            clear I2
            have I2 := I2'
            clear I2'
            have I3' := Lib.hid (I3.out.step b12)
            clear I3
            have I3 := I3'
            clear I3'
            have I4' := Lib.hid (I4.out.step b12)
            clear I4
            have I4 := I4'
            clear I4'
            have X3' := Lib.hid (X3.out.step b12)
            clear X3
            have X3 := X3'
            clear X3'
            have R11' := Lib.hid (R11.out.step b12)
            clear R11
            have R11 := R11'
            clear R11'
            have T12 := step T11 b12
            have Z12 := b12.size
            try rw [al_size] at r12
            have R12 := Lib.hid r12
            clear r12 z12
            have h1230 := X3.out.cell 0
            have h1231 := X3.out.cell 1
            simp only [List.getElem?_toArray, List.getElem?_cons_zero, List.getElem?_cons_succ] at h1230 h1231
            have h123n := X3.out.lt
            go_wp2_with fail
            refine (toFactS_r A2 c2 l2 hz2 _ (by first | exact I2.out | exact I2.out.step (below_drew _) | exact I2.out.step (below_alloc _ _) | exact I2.out.step (step (below_alloc _ _) (below_alloc _ _)))).mono ?_
            rintro e u13 ⟨rfl, r13, d13, z13⟩
            have b13 : Below u12.heap.size u12 u13 := by first | exact d13 | exact und d13 | exact undN d13 | exact below_new d13 | exact und (below_new d13) | exact below_new (und d13) | exact below_new (below_new d13) | exact step (below_drew _) (und (below_new d13))
            have I0' := Lib.hid (I0.out.step b13)
            clear I0
            have I0 := I0'
            clear I0'
            have I1' := Lib.hid (I1.out.step b13)
            clear I1
            have I1 := I1'
            clear I1'
            have I2' := Lib.hid (I2.out.step b13)
            clear I2
            have I2 := I2'
            clear I2'
            have I3' := Lib.hid (I3.out.step b13)
            clear I3
            have I3 := I3'
            clear I3'
            have I4' := Lib.hid (I4.out.step b13)
            clear I4
            have I4 := I4'
            clear I4'
            have X3' := Lib.hid (X3.out.step b13)
            clear X3
            have X3 := X3'
            clear X3'
            have R11' := Lib.hid (R11.out.step b13)
            clear R11
            have R11 := R11'
            clear R11'
            have R12' := Lib.hid (R12.out.step b13)
            clear R12
            have R12 := R12'
            clear R12'
            have T13 := step T12 b13
            have Z13 := b13.size
            try rw [al_size] at r13
            have R13 := Lib.hid r13
            clear r13 z13
            have h1330 := X3.out.cell 0
            have h1331 := X3.out.cell 1
            simp only [List.getElem?_toArray, List.getElem?_cons_zero, List.getElem?_cons_succ] at h1330 h1331
            have h133n := X3.out.lt
            go_wp2_with fail
            refine (toAccess_r r3 s3 A3 c3 hl3 _ (by first | exact I3.out | exact I3.out.step (below_drew _) | exact I3.out.step (below_alloc _ _) | exact I3.out.step (step (below_alloc _ _) (below_alloc _ _)))).mono ?_
            rintro e u14 ⟨rfl, r14, d14, z14⟩
            have b14 : Below u13.heap.size u13 u14 := by first | exact d14 | exact und d14 | exact undN d14 | exact below_new d14 | exact und (below_new d14) | exact below_new (und d14) | exact below_new (below_new d14) | exact step (below_drew _) (und (below_new d14))
            have I0' := Lib.hid (I0.out.step b14)
            clear I0
            have I0 := I0'
            clear I0'
            have I1' := Lib.hid (I1.out.step b14)
            clear I1
            have I1 := I1'
            clear I1'
            have I2' := Lib.hid (I2.out.step b14)
            clear I2
            have I2 := I2'
            clear I2'
            have I3' := Lib.hid (I3.out.step b14)
            clear I3
            have I3 := I3'
            clear I3'
            have I4' := Lib.hid (I4.out.step b14)
            clear I4
            have I4 := I4'
            clear I4'
            have X3' := Lib.hid (X3.out.step b14)
            clear X3
            have X3 := X3'
            clear X3'
            have R11' := Lib.hid (R11.out.step b14)
            clear R11
            have R11 := R11'
            clear R11'
            have R12' := Lib.hid (R12.out.step b14)
            clear R12
            have R12 := R12'
            clear R12'
            have R13' := Lib.hid (R13.out.step b14)
            clear R13
            have R13 := R13'
            clear R13'
            have T14 := step T13 b14
            have Z14 := b14.size
            try rw [al_size] at r14
            have R14 := Lib.hid r14.ri
            clear r14 z14
            have h1430 := X3.out.cell 0
            have h1431 := X3.out.cell 1
            simp only [List.getElem?_toArray, List.getElem?_cons_zero, List.getElem?_cons_succ] at h1430 h1431
            have h143n := X3.out.lt
            go_wp2_with fail
            refine (toFactS_r A4 c4 l4 hz4 _ (by first | exact I4.out | exact I4.out.step (below_drew _) | exact I4.out.step (below_alloc _ _) | exact I4.out.step (step (below_alloc _ _) (below_alloc _ _)))).mono ?_
            rintro e u15 ⟨rfl, r15, d15, z15⟩
            have Y3 := Lib.hid (Box.of_new d15)
            have b15 : Below u14.heap.size u14 u15 := by first | exact d15 | exact und d15 | exact undN d15 | exact below_new d15 | exact und (below_new d15) | exact below_new (und d15) | exact below_new (below_new d15) | exact step (below_drew _) (und (below_new d15))
            have I0' := Lib.hid (I0.out.step b15)
            clear I0
            have I0 := I0'
            clear I0'
            have I1' := Lib.hid (I1.out.step b15)
            clear I1
            have I1 := I1'
            clear I1'
            have I2' := Lib.hid (I2.out.step b15)
            clear I2
            have I2 := I2'
            clear I2'
            have I3' := Lib.hid (I3.out.step b15)
            clear I3
            have I3 := I3'
            clear I3'
            have I4' := Lib.hid (I4.out.step b15)
            clear I4
            have I4 := I4'
            clear I4'
            have X3' := Lib.hid (X3.out.step b15)
            clear X3
            have X3 := X3'
            clear X3'
            have R11' := Lib.hid (R11.out.step b15)
            clear R11
            have R11 := R11'
            clear R11'
            have R12' := Lib.hid (R12.out.step b15)
            clear R12
            have R12 := R12'
            clear R12'
            have R13' := Lib.hid (R13.out.step b15)
            clear R13
            have R13 := R13'
            clear R13'
            have R14' := Lib.hid (R14.out.step b15)
            clear R14
            have R14 := R14'
            clear R14'
            have T15 := step T14 b15
            have Z15 := b15.size
            try rw [al_size] at r15
            have R15 := Lib.hid r15
            clear r15 z15
            have H1530 := Y3.out.cell 0
            have H1531 := Y3.out.cell 1
            simp only [List.getElem?_toArray, List.getElem?_cons_zero, List.getElem?_cons_succ] at H1530 H1531
            have H153n := Y3.out.lt
            go_wp2_with fail
            refine (impl_IsResponse _ _ s0 _ _ l1 _ _ l2 r3 s3 _ _ _ _ l4 hl0 hz1 hz2 hl3 hz4 _ (by first | exact R11.out | exact R11.out.step (below_drew _) | exact R11.out.step (below_alloc _ _) | exact R11.out.step (step (below_alloc _ _) (below_alloc _ _))) (by first | exact R12.out | exact R12.out.step (below_drew _) | exact R12.out.step (below_alloc _ _) | exact R12.out.step (step (below_alloc _ _) (below_alloc _ _))) (by first | exact R13.out | exact R13.out.step (below_drew _) | exact R13.out.step (below_alloc _ _) | exact R13.out.step (step (below_alloc _ _) (below_alloc _ _))) (by first | exact R14.out | exact R14.out.step (below_drew _) | exact R14.out.step (below_alloc _ _) | exact R14.out.step (step (below_alloc _ _) (below_alloc _ _))) (by first | exact R15.out | exact R15.out.step (below_drew _) | exact R15.out.step (below_alloc _ _) | exact R15.out.step (step (below_alloc _ _) (below_alloc _ _)))).mono ?_
            rintro e u16 ⟨rfl, d16⟩
            have b16 : Below u15.heap.size u15 u16 := by first | exact d16 | exact und d16 | exact undN d16 | exact below_new d16 | exact und (below_new d16) | exact below_new (und d16) | exact below_new (below_new d16) | exact step (below_drew _) (und (below_new d16))
            have I0' := Lib.hid (I0.out.step b16)
            clear I0
            have I0 := I0'
            clear I0'
            have I1' := Lib.hid (I1.out.step b16)
            clear I1
            have I1 := I1'
            clear I1'
            have I2' := Lib.hid (I2.out.step b16)
            clear I2
            have I2 := I2'
            clear I2'
            have I3' := Lib.hid (I3.out.step b16)
            clear I3
            have I3 := I3'
            clear I3'
            have I4' := Lib.hid (I4.out.step b16)
            clear I4
            have I4 := I4'
            clear I4'
            have X3' := Lib.hid (X3.out.step b16)
            clear X3
            have X3 := X3'
            clear X3'
            have R11' := Lib.hid (R11.out.step b16)
            clear R11
            have R11 := R11'
            clear R11'
            have R12' := Lib.hid (R12.out.step b16)
            clear R12
            have R12 := R12'
            clear R12'
            have R13' := Lib.hid (R13.out.step b16)
            clear R13
            have R13 := R13'
            clear R13'
            have R14' := Lib.hid (R14.out.step b16)
            clear R14
            have R14 := R14'
            clear R14'
            have R15' := Lib.hid (R15.out.step b16)
            clear R15
            have R15 := R15'
            clear R15'
            have Y3' := Lib.hid (Y3.out.step b16)
            clear Y3
            have Y3 := Y3'
            clear Y3'
            have T16 := step T15 b16
            have Z16 := b16.size
            have p1630 := X3.out.cell 0
            have p1631 := X3.out.cell 1
            simp only [List.getElem?_toArray, List.getElem?_cons_zero, List.getElem?_cons_succ] at p1630 p1631
            have p163n := X3.out.lt
            have q1630 := Y3.out.cell 0
            have q1631 := Y3.out.cell 1
            simp only [List.getElem?_toArray, List.getElem?_cons_zero, List.getElem?_cons_succ] at q1630 q1631
            have q163n := Y3.out.lt
            go_wp2_with fail
            refine (toIntS_r A0 c0 s0 hl0 _ (by first | exact I0.out | exact I0.out.step (below_drew _) | exact I0.out.step (below_alloc _ _) | exact I0.out.step (step (below_alloc _ _) (below_alloc _ _)))).mono ?_
            rintro e u17 ⟨rfl, r17, d17, z17⟩
            have b17 : Below u16.heap.size u16 u17 := by first | exact d17 | exact und d17 | exact undN d17 | exact below_new d17 | exact und (below_new d17) | exact below_new (und d17) | exact below_new (below_new d17) | exact step (below_drew _) (und (below_new d17))
            have I0' := Lib.hid (I0.out.step b17)
            clear I0
            have I0 := I0'
            clear I0'
            have I1' := Lib.hid (I1.out.step b17)
            clear I1
            have I1 := I1'
            clear I1'
            have I2' := Lib.hid (I2.out.step b17)
            clear I2
            have I2 := I2'
            clear I2'
            have I3' := Lib.hid (I3.out.step b17)
            clear I3
            have I3 := I3'
            clear I3'
            have I4' := Lib.hid (I4.out.step b17)
            clear I4
            have I4 := I4'
            clear I4'
            have X3' := Lib.hid (X3.out.step b17)
            clear X3
            have X3 := X3'
            clear X3'
            have R11' := Lib.hid (R11.out.step b17)
            clear R11
            have R11 := R11'
            clear R11'
            have R12' := Lib.hid (R12.out.step b17)
            clear R12
            have R12 := R12'
            clear R12'
            have R13' := Lib.hid (R13.out.step b17)
            clear R13
            have R13 := R13'
            clear R13'
            have R14' := Lib.hid (R14.out.step b17)
            clear R14
            have R14 := R14'
            clear R14'
            have R15' := Lib.hid (R15.out.step b17)
            clear R15
            have R15 := R15'
            clear R15'
            have Y3' := Lib.hid (Y3.out.step b17)
            clear Y3
            have Y3 := Y3'
            clear Y3'
            have T17 := step T16 b17
            have Z17 := b17.size
            try rw [al_size] at r17
            have R17 := Lib.hid r17.ri
            clear r17 z17
            go_wp2_with fail
            refine (eqIntS_r _ _ _ _ s0 hl0 _ (by first | exact R11.out | exact R11.out.step (below_drew _) | exact R11.out.step (below_alloc _ _) | exact R11.out.step (step (below_alloc _ _) (below_alloc _ _))) (by first | exact R17.out | exact R17.out.step (below_drew _) | exact R17.out.step (below_alloc _ _) | exact R17.out.step (step (below_alloc _ _) (below_alloc _ _)))).mono ?_
            rintro e u18 ⟨rfl, d18⟩
            have b18 : Below u17.heap.size u17 u18 := by first | exact d18 | exact und d18 | exact undN d18 | exact below_new d18 | exact und (below_new d18) | exact below_new (und d18) | exact below_new (below_new d18) | exact step (below_drew _) (und (below_new d18))
            have I0' := Lib.hid (I0.out.step b18)
            clear I0
            have I0 := I0'
            clear I0'
            have I1' := Lib.hid (I1.out.step b18)
            clear I1
            have I1 := I1'
            clear I1'
            have I2' := Lib.hid (I2.out.step b18)
            clear I2
            have I2 := I2'
            clear I2'
            have I3' := Lib.hid (I3.out.step b18)
            clear I3
            have I3 := I3'
            clear I3'
            have I4' := Lib.hid (I4.out.step b18)
            clear I4
            have I4 := I4'
            clear I4'
            have X3' := Lib.hid (X3.out.step b18)
            clear X3
            have X3 := X3'
            clear X3'
            have R11' := Lib.hid (R11.out.step b18)
            clear R11
            have R11 := R11'
            clear R11'
            have R12' := Lib.hid (R12.out.step b18)
            clear R12
            have R12 := R12'
            clear R12'
            have R13' := Lib.hid (R13.out.step b18)
            clear R13
            have R13 := R13'
            clear R13'
            have R14' := Lib.hid (R14.out.step b18)
            clear R14
            have R14 := R14'
            clear R14'
            have R15' := Lib.hid (R15.out.step b18)
            clear R15
            have R15 := R15'
            clear R15'
            have Y3' := Lib.hid (Y3.out.step b18)
            clear Y3
            have Y3 := Y3'
            clear Y3'
            have R17' := Lib.hid (R17.out.step b18)
            clear R17
            have R17 := R17'
            clear R17'
            have T18 := step T17 b18
            have Z18 := b18.size
            have p1830 := X3.out.cell 0
            have p1831 := X3.out.cell 1
            simp only [List.getElem?_toArray, List.getElem?_cons_zero, List.getElem?_cons_succ] at p1830 p1831
            have p183n := X3.out.lt
            have q1830 := Y3.out.cell 0
            have q1831 := Y3.out.cell 1
            simp only [List.getElem?_toArray, List.getElem?_cons_zero, List.getElem?_cons_succ] at q1830 q1831
            have q183n := Y3.out.lt
            go_wp2_with fail
            refine (toMethodS_r A1 c1 l1 hz1 _ (by first | exact I1.out | exact I1.out.step (below_drew _) | exact I1.out.step (below_alloc _ _) | exact I1.out.step (step (below_alloc _ _) (below_alloc _ _)))).mono ?_
            rintro e u19 ⟨rfl, r19, d19, z19⟩
            have b19 : Below u18.heap.size u18 u19 := by first | exact d19 | exact und d19 | exact undN d19 | exact below_new d19 | exact und (below_new d19) | exact below_new (und d19) | exact below_new (below_new d19) | exact step (below_drew _) (und (below_new d19))
            have I0' := Lib.hid (I0.out.step b19)
            clear I0
            have I0 := I0'
            clear I0'
            have I1' := Lib.hid (I1.out.step b19)
            clear I1
            have I1 := I1'
            clear I1'
            have I2' := Lib.hid (I2.out.step b19)
            clear I2
            have I2 := I2'
            clear I2'
            have I3' := Lib.hid (I3.out.step b19)
            clear I3
            have I3 := I3'
            clear I3'
            have I4' := Lib.hid (I4.out.step b19)
            clear I4
            have I4 := I4'
            clear I4'
            have X3' := Lib.hid (X3.out.step b19)
            clear X3
            have X3 := X3'
            clear X3'
            have R11' := Lib.hid (R11.out.step b19)
            clear R11
            have R11 := R11'
            clear R11'
            have R12' := Lib.hid (R12.out.step b19)
            clear R12
            have R12 := R12'
            clear R12'
            have R13' := Lib.hid (R13.out.step b19)
            clear R13
            have R13 := R13'
            clear R13'
            have R14' := Lib.hid (R14.out.step b19)
            clear R14
            have R14 := R14'
            clear R14'
            have R15' := Lib.hid (R15.out.step b19)
            clear R15
            have R15 := R15'
            clear R15'
            have Y3' := Lib.hid (Y3.out.step b19)
            clear Y3
            have Y3 := Y3'
            clear Y3'
            have T19 := step T18 b19
            have Z19 := b19.size
            try rw [al_size] at r19
            have R19 := Lib.hid r19
            clear r19 z19
            go_wp2_with fail
            refine (eqMethodS_r _ _ _ _ l1 hz1 _ (by first | exact R12.out | exact R12.out.step (below_drew _) | exact R12.out.step (below_alloc _ _) | exact R12.out.step (step (below_alloc _ _) (below_alloc _ _))) (by first | exact R19.out | exact R19.out.step (below_drew _) | exact R19.out.step (below_alloc _ _) | exact R19.out.step (step (below_alloc _ _) (below_alloc _ _)))).mono ?_
            rintro e u20 ⟨rfl, d20⟩
            have b20 : Below u19.heap.size u19 u20 := by first | exact d20 | exact und d20 | exact undN d20 | exact below_new d20 | exact und (below_new d20) | exact below_new (und d20) | exact below_new (below_new d20) | exact step (below_drew _) (und (below_new d20))
            have I0' := Lib.hid (I0.out.step b20)
            clear I0
            have I0 := I0'
            clear I0'
            have I1' := Lib.hid (I1.out.step b20)
            clear I1
            have I1 := I1'
            clear I1'
            have I2' := Lib.hid (I2.out.step b20)
            clear I2
            have I2 := I2'
            clear I2'
            have I3' := Lib.hid (I3.out.step b20)
            clear I3
            have I3 := I3'
            clear I3'
            have I4' := Lib.hid (I4.out.step b20)
            clear I4
            have I4 := I4'
            clear I4'
            have X3' := Lib.hid (X3.out.step b20)
            clear X3
            have X3 := X3'
            clear X3'
            have R11' := Lib.hid (R11.out.step b20)
            clear R11
            have R11 := R11'
            clear R11'
            have R12' := Lib.hid (R12.out.step b20)
            clear R12
            have R12 := R12'
            clear R12'
            have R13' := Lib.hid (R13.out.step b20)
            clear R13
            have R13 := R13'
            clear R13'
            have R14' := Lib.hid (R14.out.step b20)
            clear R14
            have R14 := R14'
            clear R14'
            have R15' := Lib.hid (R15.out.step b20)
            clear R15
            have R15 := R15'
            clear R15'
            have Y3' := Lib.hid (Y3.out.step b20)
            clear Y3
            have Y3 := Y3'
            clear Y3'
            have R19' := Lib.hid (R19.out.step b20)
            clear R19
            have R19 := R19'
            clear R19'
            have T20 := step T19 b20
            have Z20 := b20.size
            have p2030 := X3.out.cell 0
            have p2031 := X3.out.cell 1
            simp only [List.getElem?_toArray, List.getElem?_cons_zero, List.getElem?_cons_succ] at p2030 p2031
            have p203n := X3.out.lt
            have q2030 := Y3.out.cell 0
            have q2031 := Y3.out.cell 1
            simp only [List.getElem?_toArray, List.getElem?_cons_zero, List.getElem?_cons_succ] at q2030 q2031
            have q203n := Y3.out.lt
            go_wp2_with fail
            refine (toFactS_r A2 c2 l2 hz2 _ (by first | exact I2.out | exact I2.out.step (below_drew _) | exact I2.out.step (below_alloc _ _) | exact I2.out.step (step (below_alloc _ _) (below_alloc _ _)))).mono ?_
            rintro e u21 ⟨rfl, r21, d21, z21⟩
            have b21 : Below u20.heap.size u20 u21 := by first | exact d21 | exact und d21 | exact undN d21 | exact below_new d21 | exact und (below_new d21) | exact below_new (und d21) | exact below_new (below_new d21) | exact step (below_drew _) (und (below_new d21))
            have I0' := Lib.hid (I0.out.step b21)
            clear I0
            have I0 := I0'
            clear I0'
            have I1' := Lib.hid (I1.out.step b21)
            clear I1
            have I1 := I1'
            clear I1'
            have I2' := Lib.hid (I2.out.step b21)
            clear I2
            have I2 := I2'
            clear I2'
            have I3' := Lib.hid (I3.out.step b21)
            clear I3
            have I3 := I3'
            clear I3'
            have I4' := Lib.hid (I4.out.step b21)
            clear I4
            have I4 := I4'
            clear I4'
            have X3' := Lib.hid (X3.out.step b21)
            clear X3
            have X3 := X3'
            clear X3'
            have R11' := Lib.hid (R11.out.step b21)
            clear R11
            have R11 := R11'
            clear R11'
            have R12' := Lib.hid (R12.out.step b21)
            clear R12
            have R12 := R12'
            clear R12'
            have R13' := Lib.hid (R13.out.step b21)
            clear R13
            have R13 := R13'
            clear R13'
            have R14' := Lib.hid (R14.out.step b21)
            clear R14
            have R14 := R14'
            clear R14'
            have R15' := Lib.hid (R15.out.step b21)
            clear R15
            have R15 := R15'
            clear R15'
            have Y3' := Lib.hid (Y3.out.step b21)
            clear Y3
            have Y3 := Y3'
            clear Y3'
            have T21 := step T20 b21
            have Z21 := b21.size
            try rw [al_size] at r21
            have R21 := Lib.hid r21
            clear r21 z21
            go_wp2_with fail
            refine (eqFactS_r _ _ _ _ l2 hz2 _ (by first | exact R13.out | exact R13.out.step (below_drew _) | exact R13.out.step (below_alloc _ _) | exact R13.out.step (step (below_alloc _ _) (below_alloc _ _))) (by first | exact R21.out | exact R21.out.step (below_drew _) | exact R21.out.step (below_alloc _ _) | exact R21.out.step (step (below_alloc _ _) (below_alloc _ _)))).mono ?_
            rintro e u22 ⟨rfl, d22⟩
            have b22 : Below u21.heap.size u21 u22 := by first | exact d22 | exact und d22 | exact undN d22 | exact below_new d22 | exact und (below_new d22) | exact below_new (und d22) | exact below_new (below_new d22) | exact step (below_drew _) (und (below_new d22))
            have I0' := Lib.hid (I0.out.step b22)
            clear I0
            have I0 := I0'
            clear I0'
            have I1' := Lib.hid (I1.out.step b22)
            clear I1
            have I1 := I1'
            clear I1'
            have I2' := Lib.hid (I2.out.step b22)
            clear I2
            have I2 := I2'
            clear I2'
            have I3' := Lib.hid (I3.out.step b22)
            clear I3
            have I3 := I3'
            clear I3'
            have I4' := Lib.hid (I4.out.step b22)
            clear I4
            have I4 := I4'
            clear I4'
            have X3' := Lib.hid (X3.out.step b22)
            clear X3
            have X3 := X3'
            clear X3'
            have R11' := Lib.hid (R11.out.step b22)
            clear R11
            have R11 := R11'
            clear R11'
            have R12' := Lib.hid (R12.out.step b22)
            clear R12
            have R12 := R12'
            clear R12'
            have R13' := Lib.hid (R13.out.step b22)
            clear R13
            have R13 := R13'
            clear R13'
            have R14' := Lib.hid (R14.out.step b22)
            clear R14
            have R14 := R14'
            clear R14'
            have R15' := Lib.hid (R15.out.step b22)
            clear R15
            have R15 := R15'
            clear R15'
            have Y3' := Lib.hid (Y3.out.step b22)
            clear Y3
            have Y3 := Y3'
            clear Y3'
            have R21' := Lib.hid (R21.out.step b22)
            clear R21
            have R21 := R21'
            clear R21'
            have T22 := step T21 b22
            have Z22 := b22.size
            have p2230 := X3.out.cell 0
            have p2231 := X3.out.cell 1
            simp only [List.getElem?_toArray, List.getElem?_cons_zero, List.getElem?_cons_succ] at p2230 p2231
            have p223n := X3.out.lt
            have q2230 := Y3.out.cell 0
            have q2231 := Y3.out.cell 1
            simp only [List.getElem?_toArray, List.getElem?_cons_zero, List.getElem?_cons_succ] at q2230 q2231
            have q223n := Y3.out.lt
            have tok23 : True := trivial
            have tok24 : True := trivial
            go_wp2_with fail
            go_region_held3 (fun w' => w'.cell? ⟨w.heap.size, 0, none⟩ = some (.int .i64 r3) ∧ w'.cell? ⟨w.heap.size, 1, none⟩ = some (.slice A3 s3.length c3) ∧ w'.cell? ⟨u14.heap.size, 0, none⟩ = some (.int .i64 r3) ∧ w'.cell? ⟨u14.heap.size, 1, none⟩ = some (.slice (some ⟨u13.heap.size + 3, 0, none⟩) s3.length s3.length))
              (first
                | go_keep
                | (go_split_ands; refine ⟨?_, ?_, ?_, ?_⟩ <;> (rw [d23.cell (by (try simp) <;> omega)]; assumption))
                | (go_split_ands; refine ⟨?_, ?_, ?_, ?_⟩ <;> (rw [d24.cell (by (try simp) <;> omega)]; assumption)))
              (first
                | (go_at_call 27
                   clear tok23
                   refine (toAccess_r r3 s3 A3 c3 hl3 _ (by first | exact I3.out | exact I3.out.step (below_drew _) | exact I3.out.step (below_alloc _ _) | exact I3.out.step (step (below_alloc _ _) (below_alloc _ _)))).mono ?_
                   rintro e u23 ⟨rfl, r23, d23, z23⟩
                   have b23 : Below u22.heap.size u22 u23 := by first | exact d23 | exact und d23 | exact undN d23 | exact below_new d23 | exact und (below_new d23) | exact below_new (und d23) | exact below_new (below_new d23) | exact step (below_drew _) (und (below_new d23))
                   have I0' := Lib.hid (I0.out.step b23)
                   clear I0
                   have I0 := I0'
                   clear I0'
                   have I1' := Lib.hid (I1.out.step b23)
                   clear I1
                   have I1 := I1'
                   clear I1'
                   have I2' := Lib.hid (I2.out.step b23)
                   clear I2
                   have I2 := I2'
                   clear I2'
                   have I3' := Lib.hid (I3.out.step b23)
                   clear I3
                   have I3 := I3'
                   clear I3'
                   have I4' := Lib.hid (I4.out.step b23)
                   clear I4
                   have I4 := I4'
                   clear I4'
                   have X3' := Lib.hid (X3.out.step b23)
                   clear X3
                   have X3 := X3'
                   clear X3'
                   have R11' := Lib.hid (R11.out.step b23)
                   clear R11
                   have R11 := R11'
                   clear R11'
                   have R12' := Lib.hid (R12.out.step b23)
                   clear R12
                   have R12 := R12'
                   clear R12'
                   have R13' := Lib.hid (R13.out.step b23)
                   clear R13
                   have R13 := R13'
                   clear R13'
                   have R14' := Lib.hid (R14.out.step b23)
                   clear R14
                   have R14 := R14'
                   clear R14'
                   have R15' := Lib.hid (R15.out.step b23)
                   clear R15
                   have R15 := R15'
                   clear R15'
                   have Y3' := Lib.hid (Y3.out.step b23)
                   clear Y3
                   have Y3 := Y3'
                   clear Y3'
                   have T23 := step T22 b23
                   have Z23 := b23.size
                   try rw [al_size] at r23
                   have R23 := Lib.hid r23.ri
                   clear r23 z23)
                | (go_at_call 29
                   clear tok24
                   refine (eqAccess_r r3 s3 _ _ _ _ hl3 _ (by first | exact R14.out | exact R14.out.step (below_drew _) | exact R14.out.step (below_alloc _ _) | exact R14.out.step (step (below_alloc _ _) (below_alloc _ _))) (by first | exact R23.out | exact R23.out.step (below_drew _) | exact R23.out.step (below_alloc _ _) | exact R23.out.step (step (below_alloc _ _) (below_alloc _ _)))).mono ?_
                   rintro e u24 ⟨rfl, d24⟩
                   have b24 : Below u23.heap.size u23 u24 := by first | exact d24 | exact und d24 | exact undN d24 | exact below_new d24 | exact und (below_new d24) | exact below_new (und d24) | exact below_new (below_new d24) | exact step (below_drew _) (und (below_new d24))
                   have I0' := Lib.hid (I0.out.step b24)
                   clear I0
                   have I0 := I0'
                   clear I0'
                   have I1' := Lib.hid (I1.out.step b24)
                   clear I1
                   have I1 := I1'
                   clear I1'
                   have I2' := Lib.hid (I2.out.step b24)
                   clear I2
                   have I2 := I2'
                   clear I2'
                   have I3' := Lib.hid (I3.out.step b24)
                   clear I3
                   have I3 := I3'
                   clear I3'
                   have I4' := Lib.hid (I4.out.step b24)
                   clear I4
                   have I4 := I4'
                   clear I4'
                   have X3' := Lib.hid (X3.out.step b24)
                   clear X3
                   have X3 := X3'
                   clear X3'
                   have R11' := Lib.hid (R11.out.step b24)
                   clear R11
                   have R11 := R11'
                   clear R11'
                   have R12' := Lib.hid (R12.out.step b24)
                   clear R12
                   have R12 := R12'
                   clear R12'
                   have R13' := Lib.hid (R13.out.step b24)
                   clear R13
                   have R13 := R13'
                   clear R13'
                   have R14' := Lib.hid (R14.out.step b24)
                   clear R14
                   have R14 := R14'
                   clear R14'
                   have R15' := Lib.hid (R15.out.step b24)
                   clear R15
                   have R15 := R15'
                   clear R15'
                   have Y3' := Lib.hid (Y3.out.step b24)
                   clear Y3
                   have Y3 := Y3'
                   clear Y3'
                   have R23' := Lib.hid (R23.out.step b24)
                   clear R23
                   have R23 := R23'
                   clear R23'
                   have T24 := step T23 b24
                   have Z24 := b24.size))
            have p2430 := X3.out.cell 0
            have p2431 := X3.out.cell 1
            simp only [List.getElem?_toArray, List.getElem?_cons_zero, List.getElem?_cons_succ] at p2430 p2431
            have p243n := X3.out.lt
            have q2430 := Y3.out.cell 0
            have q2431 := Y3.out.cell 1
            simp only [List.getElem?_toArray, List.getElem?_cons_zero, List.getElem?_cons_succ] at q2430 q2431
            have q243n := Y3.out.lt
            go_wp2_with fail
            refine (toFactS_r A4 c4 l4 hz4 _ (by first | exact I4.out | exact I4.out.step (below_drew _) | exact I4.out.step (below_alloc _ _) | exact I4.out.step (step (below_alloc _ _) (below_alloc _ _)))).mono ?_
            rintro e u25 ⟨rfl, r25, d25, z25⟩
            have b25 : Below u24.heap.size u24 u25 := by first | exact d25 | exact und d25 | exact undN d25 | exact below_new d25 | exact und (below_new d25) | exact below_new (und d25) | exact below_new (below_new d25) | exact step (below_drew _) (und (below_new d25))
            have I0' := Lib.hid (I0.out.step b25)
            clear I0
            have I0 := I0'
            clear I0'
            have I1' := Lib.hid (I1.out.step b25)
            clear I1
            have I1 := I1'
            clear I1'
            have I2' := Lib.hid (I2.out.step b25)
            clear I2
            have I2 := I2'
            clear I2'
            have I3' := Lib.hid (I3.out.step b25)
            clear I3
            have I3 := I3'
            clear I3'
            have I4' := Lib.hid (I4.out.step b25)
            clear I4
            have I4 := I4'
            clear I4'
            have X3' := Lib.hid (X3.out.step b25)
            clear X3
            have X3 := X3'
            clear X3'
            have R11' := Lib.hid (R11.out.step b25)
            clear R11
            have R11 := R11'
            clear R11'
            have R12' := Lib.hid (R12.out.step b25)
            clear R12
            have R12 := R12'
            clear R12'
            have R13' := Lib.hid (R13.out.step b25)
            clear R13
            have R13 := R13'
            clear R13'
            have R14' := Lib.hid (R14.out.step b25)
            clear R14
            have R14 := R14'
            clear R14'
            have R15' := Lib.hid (R15.out.step b25)
            clear R15
            have R15 := R15'
            clear R15'
            have Y3' := Lib.hid (Y3.out.step b25)
            clear Y3
            have Y3 := Y3'
            clear Y3'
            have T25 := step T24 b25
            have Z25 := b25.size
            try rw [al_size] at r25
            have R25 := Lib.hid r25
            clear r25 z25
            go_wp2_with fail
            refine (eqFactS_r _ _ _ _ l4 hz4 _ (by first | exact R15.out | exact R15.out.step (below_drew _) | exact R15.out.step (below_alloc _ _) | exact R15.out.step (step (below_alloc _ _) (below_alloc _ _))) (by first | exact R25.out | exact R25.out.step (below_drew _) | exact R25.out.step (below_alloc _ _) | exact R25.out.step (step (below_alloc _ _) (below_alloc _ _)))).mono ?_
            rintro e u26 ⟨rfl, d26⟩
            have b26 : Below u25.heap.size u25 u26 := by first | exact d26 | exact und d26 | exact undN d26 | exact below_new d26 | exact und (below_new d26) | exact below_new (und d26) | exact below_new (below_new d26) | exact step (below_drew _) (und (below_new d26))
            have I0' := Lib.hid (I0.out.step b26)
            clear I0
            have I0 := I0'
            clear I0'
            have I1' := Lib.hid (I1.out.step b26)
            clear I1
            have I1 := I1'
            clear I1'
            have I2' := Lib.hid (I2.out.step b26)
            clear I2
            have I2 := I2'
            clear I2'
            have I3' := Lib.hid (I3.out.step b26)
            clear I3
            have I3 := I3'
            clear I3'
            have I4' := Lib.hid (I4.out.step b26)
            clear I4
            have I4 := I4'
            clear I4'
            have X3' := Lib.hid (X3.out.step b26)
            clear X3
            have X3 := X3'
            clear X3'
            have R11' := Lib.hid (R11.out.step b26)
            clear R11
            have R11 := R11'
            clear R11'
            have R12' := Lib.hid (R12.out.step b26)
            clear R12
            have R12 := R12'
            clear R12'
            have R13' := Lib.hid (R13.out.step b26)
            clear R13
            have R13 := R13'
            clear R13'
            have R14' := Lib.hid (R14.out.step b26)
            clear R14
            have R14 := R14'
            clear R14'
            have R15' := Lib.hid (R15.out.step b26)
            clear R15
            have R15 := R15'
            clear R15'
            have Y3' := Lib.hid (Y3.out.step b26)
            clear Y3
            have Y3 := Y3'
            clear Y3'
            have R25' := Lib.hid (R25.out.step b26)
            clear R25
            have R25 := R25'
            clear R25'
            have T26 := step T25 b26
            have Z26 := b26.size
            go_wp2
            go_ret
            exact ⟨rfl, by first | exact T26 | exact T26.drew⟩

set_option maxRecDepth 100000 in
theorem lifted (os : Os) (started : os.Started) (H : Type) (enc : TypeId × Value → H) :
    ReturnsInHanded {} Try.checked os 8 .any (Rows.fnExactIsResponseSpec.pre6 enc Try.prog Try.f8 Rows.fnExactIsResponseRow.domain false) (Rows.fnExactIsResponseSpec.post enc Try.prog Try.f8 false true false false) := by
  refine returnsInHanded_of_change (C := Try.checked) own started (by kernel_rfl) Try.func8
    (ChangeSpec.witness6 (enc := enc) (C := Try.checked) false ⟨#[], #[.slice none 0 0, .slice none 0 0, .slice none 0 0, .agg #[.int .i64 0, .slice none 0 0], .slice none 0 0], []⟩ 8 (by kernel_rfl) (by kernel_rfl) (by kernel_rfl) (by kernel_rfl)) ?_
  intro W base args ds gs before hval0 hW hcnd _
  have hval : ∀ (j : Nat) t v, Try.f8.params[j]? = some t → args[j]? = some v → Value.okWide Try.prog W .any base t v := hval0
  have hpost := fun (W' : World) (hfn : Rows.fnExactIsResponseSpec.fn H (ds ++ gs) = { results := [.lit (.bool true)], args := ds }) (hb : Below W.heap.size W W') => law_post (enc := enc) laidOut (f := Try.f8) (s := Rows.fnExactIsResponseSpec) (args := args) rfl rfl Try.underlying4 (by intro t ht; rw [Try.params8] at ht; simp at ht; rcases ht with rfl | rfl | rfl | rfl | rfl <;> exact ⟨by kernel_rfl, of_decide_eq_true (by kernel_rfl)⟩) hW hfn hb
  obtain ⟨p, q, hA0, hV, rfl, hfz, hnd⟩ := hW
  have hA : DataW.TrodAll enc Try.prog W 0 (fun _ => true) true Try.f8.params.toList args.toList ds p := hA0
  rw [Try.params8] at hA hval
  obtain ⟨v0, vs0, d0, ds0, p0, q0, hargs, rfl, rfl, h0, r0⟩ := trodAll_cons hA
  obtain ⟨v1, vs1, d1, ds1, p1, q1, rfl, rfl, rfl, h1, r1⟩ := trodAll_cons r0
  obtain ⟨v2, vs2, d2, ds2, p2, q2, rfl, rfl, rfl, h2, r2⟩ := trodAll_cons r1
  obtain ⟨v3, vs3, d3, ds3, p3, q3, rfl, rfl, rfl, h3, r3⟩ := trodAll_cons r2
  obtain ⟨v4, vs4, d4, ds4, p4, q4, rfl, rfl, rfl, h4, r4⟩ := trodAll_cons r3
  obtain ⟨rfl, rfl, rfl⟩ := trodAll_nil r4
  obtain rfl : args = #[v0, v1, v2, v3, v4] := by cases args; simp_all
  obtain ⟨rfl, rfl⟩ := trodVars_none hV
  obtain ⟨A0, c0, s0, rfl, l0, m0, w0⟩ := open_numsT Try.underlying22 Try.underlying3 (by kernel_rfl) (hval 0 22 v0 rfl rfl) h0
  obtain ⟨A1, c1, l1, rfl, k1, m1, w1⟩ := open_methodsT (hval 1 33 v1 rfl rfl) h1
  obtain ⟨A2, c2, l2, rfl, k2, m2, w2⟩ := open_factsT (hval 2 48 v2 rfl rfl) h2
  obtain ⟨f3, A3, c3, rfl, l3, m3, w3⟩ := open_accessT (hval 3 41 v3 rfl rfl) h3
  obtain ⟨A4, c4, l4, rfl, k4, m4, w4⟩ := open_factsT (hval 4 48 v4 rfl rfl) h4
  refine (walk W A0 c0 s0 l0 m0 w0 A1 c1 l1 k1 m1 w1 A2 c2 l2 k2 m2 w2 f3 A3 c3 l3 m3 w3 A4 c4 l4 k4 m4 w4).mono fun e W' ⟨he, hg⟩ => ?_
  subst he
  exact ⟨_, rfl, hpost W' rfl hg⟩

theorem over : Rows.fnExactIsResponseRow.holds Try.pinned (OpenSpec.ofChange Rows.fnExactIsResponseSpec) :=
  OpenClaim.holds_of_wide 8 Try.f8 rfl rfl rfl rfl rfl rfl rfl ⟨rfl, rfl, rfl, rfl, rfl⟩ rfl rfl rfl rfl rfl (by kernel_rfl) Try.func8 (by kernel_rfl)
    (of_decide_eq_true (by kernel_rfl)) (by unfold Func.isWrapper; first | (rw [if_pos (by decide +kernel)]; kernel_rfl) | (rw [if_neg (by decide +kernel)]; exact ⟨rfl, rfl⟩))
    (fun os started H enc _ => lifted os started H enc)
end Go.Proofs.Ytenondgjipmhnaa.fnExactIsResponse
namespace Go.Proofs.Ytenondgjipmhnaa
theorem fnExactIsResponse_holds : Rows.FnExactIsResponseSaid := fnExactIsResponse.over
#print axioms fnExactIsResponse_holds
end Go.Proofs.Ytenondgjipmhnaa
