/- impl.IsOrder answers as its model at every argument: the law FnExactIsOrder returns true. Conditions: none beyond the statement's own. -/
import Derived.Test.YtighalbnpgmdfaaOr5
import Derived.Test.YtighalbnpgmdfaaQL
namespace Go.Proofs.Ytighalbnpgmdfaa.fnExactIsOrder
open Go.ChangeShapes Go.WideShapes Go.ChangeAt Go.RowKit
open Go.ChangeMaps (open_string shut_string)
set_option linter.unusedVariables false
set_option linter.unusedSimpArgs false
open Go.Proofs.Ytighalbnpgmdfaa.atom
set_option maxRecDepth 100000 in
set_option maxHeartbeats 1000000 in
theorem walk (w : World) (A0 : Option Addr) (c0 : Nat) (s0 : List Int) (l0 : s0.length ≤ c0) (m0 : c0 ≤ maxLen) (w0 : Ints w 0 w.heap.size A0 s0) (A1 : Option Addr) (c1 : Nat) (l1 : ML) (k1 : l1.length ≤ c1) (m1 : c1 ≤ maxLen) (w1 : Meths w 0 w.heap.size A1 l1) (H2 A2 : Option Addr) (x2 c2 : Nat) (s2 : List Int) (l2 : FL) (y2 : s2.length ≤ x2) (z2 : x2 ≤ maxLen) (k2 : l2.length ≤ c2) (m2 : c2 ≤ maxLen) (w2 : Ints w 0 w.heap.size H2 s2 ∧ Facts w 0 w.heap.size A2 l2) (A3 : Option Addr) (c3 : Nat) (l3 : SL) (k3 : l3.length ≤ c3) (m3 : c3 ≤ maxLen) (w3 : Stps w 0 w.heap.size A3 l3) :
    Calls Try.prog 3 #[.slice A0 s0.length c0, .slice A1 l1.length c1, .agg #[.slice H2 s2.length x2, .slice A2 l2.length c2], .slice A3 l3.length c3] w fun e w' => e = .returned (.bool true) ∧ Below w.heap.size w w' := by
  unfold maxLen at m0 m1 m2 m3
  have hn1 := szM_nonneg l1
  unfold maxLen at z2
  have hn2 := szF_nonneg l2
  have EQ2 := Lib.hid (show szQ s2 l2 = (s2.length : Int) + szF l2 from rfl)
  have hq2 : 0 ≤ szQ s2 l2 := by rw [EQ2.out]; omega
  have hn3 := szZ_nonneg l3
  by_cases hb0 : (1048576 : Int) < s0.length
  · have I0 := Lib.hid (show RI w A0 s0 from w0)
    have I1 := Lib.hid (show RM w A1 l1 from w1)
    have I2 := Lib.hid (show RI w H2 s2 from w2.1)
    have F2 := Lib.hid (show RF w A2 l2 from w2.2)
    have I3 := Lib.hid (show RZ w A3 l3 from w3)
    clear w0 w1 w2 w3
    go_enter Try.func3, Try.ntmps3
    go_wp2
    go_ret
    exact ⟨rfl, below_alloc _ _⟩
  · skip
    by_cases hb1 : 1048576 - szM l1 < 0
    · have I0 := Lib.hid (show RI w A0 s0 from w0)
      have I1 := Lib.hid (show RM w A1 l1 from w1)
      have I2 := Lib.hid (show RI w H2 s2 from w2.1)
      have F2 := Lib.hid (show RF w A2 l2 from w2.2)
      have I3 := Lib.hid (show RZ w A3 l3 from w3)
      clear w0 w1 w2 w3
      go_enter Try.func3, Try.ntmps3
      go_wp2_with fail
      refine (szMethodS_any A1 c1 l1 1048576 (by omega) (by omega) (by omega) _ (by first | exact I1.out | exact I1.out.step (below_drew _) | exact I1.out.step (below_alloc _ _) | exact I1.out.step (step (below_alloc _ _) (below_alloc _ _)))).mono ?_
      rintro e u1 ⟨he, d1⟩
      rw [if_pos (show 1048576 - szM l1 < 0 by omega)] at he
      subst he
      have X2 := Lib.hid (Box.of_new d1)
      have b1 : Below w.heap.size w u1 := by first | exact d1 | exact und d1 | exact undN d1 | exact below_new d1 | exact und (below_new d1) | exact below_new (und d1) | exact below_new (below_new d1) | exact step (below_drew _) (und (below_new d1))
      have I0' := Lib.hid (I0.out.step b1)
      clear I0
      have I0 := I0'
      clear I0'
      have I1' := Lib.hid (I1.out.step b1)
      clear I1
      have I1 := I1'
      clear I1'
      have I2' := Lib.hid (I2.out.step b1)
      clear I2
      have I2 := I2'
      clear I2'
      have F2' := Lib.hid (F2.out.step b1)
      clear F2
      have F2 := F2'
      clear F2'
      have I3' := Lib.hid (I3.out.step b1)
      clear I3
      have I3 := I3'
      clear I3'
      have T1 := b1
      have Z1 := b1.size
      have g120 := X2.out.cell 0
      have g121 := X2.out.cell 1
      simp only [List.getElem?_toArray, List.getElem?_cons_zero, List.getElem?_cons_succ] at g120 g121
      have g12n := X2.out.lt
      go_wp2
      go_ret
      exact ⟨rfl, T1⟩
    · skip
      by_cases hb2 : (1048576 - szM l1) - szQ s2 l2 < 0
      · have I0 := Lib.hid (show RI w A0 s0 from w0)
        have I1 := Lib.hid (show RM w A1 l1 from w1)
        have I2 := Lib.hid (show RI w H2 s2 from w2.1)
        have F2 := Lib.hid (show RF w A2 l2 from w2.2)
        have I3 := Lib.hid (show RZ w A3 l3 from w3)
        clear w0 w1 w2 w3
        go_enter Try.func3, Try.ntmps3
        go_wp2_with fail
        refine (szMethodS_any A1 c1 l1 1048576 (by omega) (by omega) (by omega) _ (by first | exact I1.out | exact I1.out.step (below_drew _) | exact I1.out.step (below_alloc _ _) | exact I1.out.step (step (below_alloc _ _) (below_alloc _ _)))).mono ?_
        rintro e u1 ⟨he, d1⟩
        rw [if_neg (show ¬ (1048576 - szM l1 < 0) by omega)] at he
        subst he
        have X2 := Lib.hid (Box.of_new d1)
        have b1 : Below w.heap.size w u1 := by first | exact d1 | exact und d1 | exact undN d1 | exact below_new d1 | exact und (below_new d1) | exact below_new (und d1) | exact below_new (below_new d1) | exact step (below_drew _) (und (below_new d1))
        have I0' := Lib.hid (I0.out.step b1)
        clear I0
        have I0 := I0'
        clear I0'
        have I1' := Lib.hid (I1.out.step b1)
        clear I1
        have I1 := I1'
        clear I1'
        have I2' := Lib.hid (I2.out.step b1)
        clear I2
        have I2 := I2'
        clear I2'
        have F2' := Lib.hid (F2.out.step b1)
        clear F2
        have F2 := F2'
        clear F2'
        have I3' := Lib.hid (I3.out.step b1)
        clear I3
        have I3 := I3'
        clear I3'
        have T1 := b1
        have Z1 := b1.size
        have g120 := X2.out.cell 0
        have g121 := X2.out.cell 1
        simp only [List.getElem?_toArray, List.getElem?_cons_zero, List.getElem?_cons_succ] at g120 g121
        have g12n := X2.out.lt
        go_wp2_with fail
        refine (szQuery_any H2 A2 x2 c2 s2 l2 (1048576 - szM l1) (by omega) (by omega) (by omega) (by omega) _ (by first | exact F2.out | exact F2.out.step (below_drew _) | exact F2.out.step (below_alloc _ _) | exact F2.out.step (step (below_alloc _ _) (below_alloc _ _)))).mono ?_
        rintro e u2 ⟨he, d2⟩
        rw [szR_neg (show (1048576 - szM l1) - szQ s2 l2 < 0 by omega)] at he
        subst he
        have b2 : Below u1.heap.size u1 u2 := by first | exact d2 | exact und d2 | exact undN d2 | exact below_new d2 | exact und (below_new d2) | exact below_new (und d2) | exact below_new (below_new d2) | exact step (below_drew _) (und (below_new d2))
        have I0' := Lib.hid (I0.out.step b2)
        clear I0
        have I0 := I0'
        clear I0'
        have I1' := Lib.hid (I1.out.step b2)
        clear I1
        have I1 := I1'
        clear I1'
        have I2' := Lib.hid (I2.out.step b2)
        clear I2
        have I2 := I2'
        clear I2'
        have F2' := Lib.hid (F2.out.step b2)
        clear F2
        have F2 := F2'
        clear F2'
        have I3' := Lib.hid (I3.out.step b2)
        clear I3
        have I3 := I3'
        clear I3'
        have X2' := Lib.hid (X2.out.step b2)
        clear X2
        have X2 := X2'
        clear X2'
        have T2 := step T1 b2
        have Z2 := b2.size
        have g220 := X2.out.cell 0
        have g221 := X2.out.cell 1
        simp only [List.getElem?_toArray, List.getElem?_cons_zero, List.getElem?_cons_succ] at g220 g221
        have g22n := X2.out.lt
        go_wp2
        go_ret
        exact ⟨rfl, T2⟩
      · skip
        by_cases hb3 : ((1048576 - szM l1) - szQ s2 l2) - szZ l3 < 0
        · have I0 := Lib.hid (show RI w A0 s0 from w0)
          have I1 := Lib.hid (show RM w A1 l1 from w1)
          have I2 := Lib.hid (show RI w H2 s2 from w2.1)
          have F2 := Lib.hid (show RF w A2 l2 from w2.2)
          have I3 := Lib.hid (show RZ w A3 l3 from w3)
          clear w0 w1 w2 w3
          go_enter Try.func3, Try.ntmps3
          go_wp2_with fail
          refine (szMethodS_any A1 c1 l1 1048576 (by omega) (by omega) (by omega) _ (by first | exact I1.out | exact I1.out.step (below_drew _) | exact I1.out.step (below_alloc _ _) | exact I1.out.step (step (below_alloc _ _) (below_alloc _ _)))).mono ?_
          rintro e u1 ⟨he, d1⟩
          rw [if_neg (show ¬ (1048576 - szM l1 < 0) by omega)] at he
          subst he
          have X2 := Lib.hid (Box.of_new d1)
          have b1 : Below w.heap.size w u1 := by first | exact d1 | exact und d1 | exact undN d1 | exact below_new d1 | exact und (below_new d1) | exact below_new (und d1) | exact below_new (below_new d1) | exact step (below_drew _) (und (below_new d1))
          have I0' := Lib.hid (I0.out.step b1)
          clear I0
          have I0 := I0'
          clear I0'
          have I1' := Lib.hid (I1.out.step b1)
          clear I1
          have I1 := I1'
          clear I1'
          have I2' := Lib.hid (I2.out.step b1)
          clear I2
          have I2 := I2'
          clear I2'
          have F2' := Lib.hid (F2.out.step b1)
          clear F2
          have F2 := F2'
          clear F2'
          have I3' := Lib.hid (I3.out.step b1)
          clear I3
          have I3 := I3'
          clear I3'
          have T1 := b1
          have Z1 := b1.size
          have g120 := X2.out.cell 0
          have g121 := X2.out.cell 1
          simp only [List.getElem?_toArray, List.getElem?_cons_zero, List.getElem?_cons_succ] at g120 g121
          have g12n := X2.out.lt
          go_wp2_with fail
          refine (szQuery_any H2 A2 x2 c2 s2 l2 (1048576 - szM l1) (by omega) (by omega) (by omega) (by omega) _ (by first | exact F2.out | exact F2.out.step (below_drew _) | exact F2.out.step (below_alloc _ _) | exact F2.out.step (step (below_alloc _ _) (below_alloc _ _)))).mono ?_
          rintro e u2 ⟨he, d2⟩
          rw [szR_pos (show ¬ ((1048576 - szM l1) - szQ s2 l2 < 0) by omega)] at he
          subst he
          have b2 : Below u1.heap.size u1 u2 := by first | exact d2 | exact und d2 | exact undN d2 | exact below_new d2 | exact und (below_new d2) | exact below_new (und d2) | exact below_new (below_new d2) | exact step (below_drew _) (und (below_new d2))
          have I0' := Lib.hid (I0.out.step b2)
          clear I0
          have I0 := I0'
          clear I0'
          have I1' := Lib.hid (I1.out.step b2)
          clear I1
          have I1 := I1'
          clear I1'
          have I2' := Lib.hid (I2.out.step b2)
          clear I2
          have I2 := I2'
          clear I2'
          have F2' := Lib.hid (F2.out.step b2)
          clear F2
          have F2 := F2'
          clear F2'
          have I3' := Lib.hid (I3.out.step b2)
          clear I3
          have I3 := I3'
          clear I3'
          have X2' := Lib.hid (X2.out.step b2)
          clear X2
          have X2 := X2'
          clear X2'
          have T2 := step T1 b2
          have Z2 := b2.size
          have g220 := X2.out.cell 0
          have g221 := X2.out.cell 1
          simp only [List.getElem?_toArray, List.getElem?_cons_zero, List.getElem?_cons_succ] at g220 g221
          have g22n := X2.out.lt
          go_wp2_with fail
          refine (szStepS_any A3 c3 l3 ((1048576 - szM l1) - szQ s2 l2) (by omega) (by omega) (by omega) _).mono ?_
          rintro e u3 ⟨he, d3⟩
          rw [if_pos (show ((1048576 - szM l1) - szQ s2 l2) - szZ l3 < 0 by omega)] at he
          subst he
          have b3 : Below u2.heap.size u2 u3 := by first | exact d3 | exact und d3 | exact undN d3 | exact below_new d3 | exact und (below_new d3) | exact below_new (und d3) | exact below_new (below_new d3) | exact step (below_drew _) (und (below_new d3))
          have I0' := Lib.hid (I0.out.step b3)
          clear I0
          have I0 := I0'
          clear I0'
          have I1' := Lib.hid (I1.out.step b3)
          clear I1
          have I1 := I1'
          clear I1'
          have I2' := Lib.hid (I2.out.step b3)
          clear I2
          have I2 := I2'
          clear I2'
          have F2' := Lib.hid (F2.out.step b3)
          clear F2
          have F2 := F2'
          clear F2'
          have I3' := Lib.hid (I3.out.step b3)
          clear I3
          have I3 := I3'
          clear I3'
          have X2' := Lib.hid (X2.out.step b3)
          clear X2
          have X2 := X2'
          clear X2'
          have T3 := step T2 b3
          have Z3 := b3.size
          have g320 := X2.out.cell 0
          have g321 := X2.out.cell 1
          simp only [List.getElem?_toArray, List.getElem?_cons_zero, List.getElem?_cons_succ] at g320 g321
          have g32n := X2.out.lt
          go_wp2
          go_ret
          exact ⟨rfl, T3⟩
        · skip
          have hl0 : s0.length ≤ 1048576 := by omega
          have hL0 : (s0.length : Int) ≤ 1048576 := by omega
          have hz1 : szM l1 ≤ 1048576 := by omega
          have hl1 : l1.length ≤ 1048576 := szM_len hz1
          have hL1 : (l1.length : Int) ≤ 1048576 := by omega
          have hz2 : szF l2 ≤ 1048576 := by have := EQ2.out; omega
          have hl2 : s2.length ≤ 1048576 := by have := EQ2.out; omega
          have hz3 : szZ l3 ≤ 1048576 := by omega
          have hl3 : l3.length ≤ 1048576 := szZ_len hz3
          have hL3 : (l3.length : Int) ≤ 1048576 := by omega
          have I0 := Lib.hid (show RI w A0 s0 from w0)
          have I1 := Lib.hid (show RM w A1 l1 from w1)
          have I2 := Lib.hid (show RI w H2 s2 from w2.1)
          have F2 := Lib.hid (show RF w A2 l2 from w2.2)
          have I3 := Lib.hid (show RZ w A3 l3 from w3)
          clear w0 w1 w2 w3
          go_enter Try.func3, Try.ntmps3
          go_wp2_with fail
          refine (szMethodS_any A1 c1 l1 1048576 (by omega) (by omega) (by omega) _ (by first | exact I1.out | exact I1.out.step (below_drew _) | exact I1.out.step (below_alloc _ _) | exact I1.out.step (step (below_alloc _ _) (below_alloc _ _)))).mono ?_
          rintro e u1 ⟨he, d1⟩
          rw [if_neg (show ¬ (1048576 - szM l1 < 0) by omega)] at he
          subst he
          have X2 := Lib.hid (Box.of_new d1)
          have b1 : Below w.heap.size w u1 := by first | exact d1 | exact und d1 | exact undN d1 | exact below_new d1 | exact und (below_new d1) | exact below_new (und d1) | exact below_new (below_new d1) | exact step (below_drew _) (und (below_new d1))
          have I0' := Lib.hid (I0.out.step b1)
          clear I0
          have I0 := I0'
          clear I0'
          have I1' := Lib.hid (I1.out.step b1)
          clear I1
          have I1 := I1'
          clear I1'
          have I2' := Lib.hid (I2.out.step b1)
          clear I2
          have I2 := I2'
          clear I2'
          have F2' := Lib.hid (F2.out.step b1)
          clear F2
          have F2 := F2'
          clear F2'
          have I3' := Lib.hid (I3.out.step b1)
          clear I3
          have I3 := I3'
          clear I3'
          have T1 := b1
          have Z1 := b1.size
          have g120 := X2.out.cell 0
          have g121 := X2.out.cell 1
          simp only [List.getElem?_toArray, List.getElem?_cons_zero, List.getElem?_cons_succ] at g120 g121
          have g12n := X2.out.lt
          go_wp2_with fail
          refine (szQuery_any H2 A2 x2 c2 s2 l2 (1048576 - szM l1) (by omega) (by omega) (by omega) (by omega) _ (by first | exact F2.out | exact F2.out.step (below_drew _) | exact F2.out.step (below_alloc _ _) | exact F2.out.step (step (below_alloc _ _) (below_alloc _ _)))).mono ?_
          rintro e u2 ⟨he, d2⟩
          rw [szR_pos (show ¬ ((1048576 - szM l1) - szQ s2 l2 < 0) by omega)] at he
          subst he
          have b2 : Below u1.heap.size u1 u2 := by first | exact d2 | exact und d2 | exact undN d2 | exact below_new d2 | exact und (below_new d2) | exact below_new (und d2) | exact below_new (below_new d2) | exact step (below_drew _) (und (below_new d2))
          have I0' := Lib.hid (I0.out.step b2)
          clear I0
          have I0 := I0'
          clear I0'
          have I1' := Lib.hid (I1.out.step b2)
          clear I1
          have I1 := I1'
          clear I1'
          have I2' := Lib.hid (I2.out.step b2)
          clear I2
          have I2 := I2'
          clear I2'
          have F2' := Lib.hid (F2.out.step b2)
          clear F2
          have F2 := F2'
          clear F2'
          have I3' := Lib.hid (I3.out.step b2)
          clear I3
          have I3 := I3'
          clear I3'
          have X2' := Lib.hid (X2.out.step b2)
          clear X2
          have X2 := X2'
          clear X2'
          have T2 := step T1 b2
          have Z2 := b2.size
          have g220 := X2.out.cell 0
          have g221 := X2.out.cell 1
          simp only [List.getElem?_toArray, List.getElem?_cons_zero, List.getElem?_cons_succ] at g220 g221
          have g22n := X2.out.lt
          go_wp2_with fail
          refine (szStepS_any A3 c3 l3 ((1048576 - szM l1) - szQ s2 l2) (by omega) (by omega) (by omega) _).mono ?_
          rintro e u3 ⟨he, d3⟩
          rw [if_neg (show ¬ (((1048576 - szM l1) - szQ s2 l2) - szZ l3 < 0) by omega)] at he
          subst he
          have b3 : Below u2.heap.size u2 u3 := by first | exact d3 | exact und d3 | exact undN d3 | exact below_new d3 | exact und (below_new d3) | exact below_new (und d3) | exact below_new (below_new d3) | exact step (below_drew _) (und (below_new d3))
          have I0' := Lib.hid (I0.out.step b3)
          clear I0
          have I0 := I0'
          clear I0'
          have I1' := Lib.hid (I1.out.step b3)
          clear I1
          have I1 := I1'
          clear I1'
          have I2' := Lib.hid (I2.out.step b3)
          clear I2
          have I2 := I2'
          clear I2'
          have F2' := Lib.hid (F2.out.step b3)
          clear F2
          have F2 := F2'
          clear F2'
          have I3' := Lib.hid (I3.out.step b3)
          clear I3
          have I3 := I3'
          clear I3'
          have X2' := Lib.hid (X2.out.step b3)
          clear X2
          have X2 := X2'
          clear X2'
          have T3 := step T2 b3
          have Z3 := b3.size
          have g320 := X2.out.cell 0
          have g321 := X2.out.cell 1
          simp only [List.getElem?_toArray, List.getElem?_cons_zero, List.getElem?_cons_succ] at g320 g321
          have g32n := X2.out.lt
          have tok4 : True := trivial
          have tok5 : True := trivial
          have tok6 : True := trivial
          have tok7 : True := trivial
          have tok8 : True := trivial
          go_wp2_with fail
          go_region_held3 (fun w' => w'.cell? ⟨w.heap.size, 0, none⟩ = some (.slice H2 s2.length x2) ∧ w'.cell? ⟨w.heap.size, 1, none⟩ = some (.slice A2 l2.length c2))
            (first
              | go_keep
              | (go_split_ands; refine ⟨?_, ?_⟩ <;> (rw [d4.cell (by (try simp) <;> omega)]; assumption))
              | (go_split_ands; refine ⟨?_, ?_⟩ <;> (rw [d5.cell (by (try simp) <;> omega)]; assumption))
              | (go_split_ands; refine ⟨?_, ?_⟩ <;> (rw [d6.cell (by (try simp) <;> omega)]; assumption))
              | (go_split_ands; refine ⟨?_, ?_⟩ <;> (rw [d7.cell (by (try simp) <;> omega)]; assumption))
              | (go_split_ands; refine ⟨?_, ?_⟩ <;> (rw [d8.cell (by (try simp) <;> omega)]; assumption)))
            (first
              | (go_at_call 15
                 clear tok4
                 refine (toIntS_r A0 c0 s0 hl0 _ (by first | exact I0.out | exact I0.out.step (below_drew _) | exact I0.out.step (below_alloc _ _) | exact I0.out.step (step (below_alloc _ _) (below_alloc _ _)))).mono ?_
                 rintro e u4 ⟨rfl, r4, d4, z4⟩
                 have b4 : Below u3.heap.size u3 u4 := by first | exact d4 | exact und d4 | exact undN d4 | exact below_new d4 | exact und (below_new d4) | exact below_new (und d4) | exact below_new (below_new d4) | exact step (below_drew _) (und (below_new d4))
                 have I0' := Lib.hid (I0.out.step b4)
                 clear I0
                 have I0 := I0'
                 clear I0'
                 have I1' := Lib.hid (I1.out.step b4)
                 clear I1
                 have I1 := I1'
                 clear I1'
                 have I2' := Lib.hid (I2.out.step b4)
                 clear I2
                 have I2 := I2'
                 clear I2'
                 have F2' := Lib.hid (F2.out.step b4)
                 clear F2
                 have F2 := F2'
                 clear F2'
                 have I3' := Lib.hid (I3.out.step b4)
                 clear I3
                 have I3 := I3'
                 clear I3'
                 have X2' := Lib.hid (X2.out.step b4)
                 clear X2
                 have X2 := X2'
                 clear X2'
                 have T4 := step T3 b4
                 have Z4 := b4.size
                 try rw [al_size] at r4
                 have R4 := Lib.hid r4.ri
                 clear r4 z4)
              | (go_at_call 16
                 clear tok5
                 refine (toMethodS_r A1 c1 l1 hz1 _ (by first | exact I1.out | exact I1.out.step (below_drew _) | exact I1.out.step (below_alloc _ _) | exact I1.out.step (step (below_alloc _ _) (below_alloc _ _)))).mono ?_
                 rintro e u5 ⟨rfl, r5, d5, z5⟩
                 have b5 : Below u4.heap.size u4 u5 := by first | exact d5 | exact und d5 | exact undN d5 | exact below_new d5 | exact und (below_new d5) | exact below_new (und d5) | exact below_new (below_new d5) | exact step (below_drew _) (und (below_new d5))
                 have I0' := Lib.hid (I0.out.step b5)
                 clear I0
                 have I0 := I0'
                 clear I0'
                 have I1' := Lib.hid (I1.out.step b5)
                 clear I1
                 have I1 := I1'
                 clear I1'
                 have I2' := Lib.hid (I2.out.step b5)
                 clear I2
                 have I2 := I2'
                 clear I2'
                 have F2' := Lib.hid (F2.out.step b5)
                 clear F2
                 have F2 := F2'
                 clear F2'
                 have I3' := Lib.hid (I3.out.step b5)
                 clear I3
                 have I3 := I3'
                 clear I3'
                 have X2' := Lib.hid (X2.out.step b5)
                 clear X2
                 have X2 := X2'
                 clear X2'
                 have R4' := Lib.hid (R4.out.step b5)
                 clear R4
                 have R4 := R4'
                 clear R4'
                 have T5 := step T4 b5
                 have Z5 := b5.size
                 try rw [al_size] at r5
                 have R5 := Lib.hid r5
                 clear r5 z5)
              | (go_at_call 17
                 clear tok6
                 refine (toQuery_r H2 A2 x2 c2 s2 l2 hl2 hz2 _ (by first | exact I2.out | exact I2.out.step (below_drew _) | exact I2.out.step (below_alloc _ _) | exact I2.out.step (step (below_alloc _ _) (below_alloc _ _))) (by first | exact F2.out | exact F2.out.step (below_drew _) | exact F2.out.step (below_alloc _ _) | exact F2.out.step (step (below_alloc _ _) (below_alloc _ _)))).mono ?_
                 rintro e u6 ⟨rfl, r6, d6, z6⟩
                 have b6 : Below u5.heap.size u5 u6 := by first | exact d6 | exact und d6 | exact undN d6 | exact below_new d6 | exact und (below_new d6) | exact below_new (und d6) | exact below_new (below_new d6) | exact step (below_drew _) (und (below_new d6))
                 have I0' := Lib.hid (I0.out.step b6)
                 clear I0
                 have I0 := I0'
                 clear I0'
                 have I1' := Lib.hid (I1.out.step b6)
                 clear I1
                 have I1 := I1'
                 clear I1'
                 have I2' := Lib.hid (I2.out.step b6)
                 clear I2
                 have I2 := I2'
                 clear I2'
                 have F2' := Lib.hid (F2.out.step b6)
                 clear F2
                 have F2 := F2'
                 clear F2'
                 have I3' := Lib.hid (I3.out.step b6)
                 clear I3
                 have I3 := I3'
                 clear I3'
                 have X2' := Lib.hid (X2.out.step b6)
                 clear X2
                 have X2 := X2'
                 clear X2'
                 have R4' := Lib.hid (R4.out.step b6)
                 clear R4
                 have R4 := R4'
                 clear R4'
                 have R5' := Lib.hid (R5.out.step b6)
                 clear R5
                 have R5 := R5'
                 clear R5'
                 have T6 := step T5 b6
                 have Z6 := b6.size
                 try rw [al_size] at r6
                 have R6 := Lib.hid r6
                 clear r6 z6)
              | (go_at_call 18
                 clear tok7
                 refine (toStepS_r A3 c3 l3 hl3 _ (by first | exact I3.out | exact I3.out.step (below_drew _) | exact I3.out.step (below_alloc _ _) | exact I3.out.step (step (below_alloc _ _) (below_alloc _ _)))).mono ?_
                 rintro e u7 ⟨rfl, r7, d7, z7⟩
                 have b7 : Below u6.heap.size u6 u7 := by first | exact d7 | exact und d7 | exact undN d7 | exact below_new d7 | exact und (below_new d7) | exact below_new (und d7) | exact below_new (below_new d7) | exact step (below_drew _) (und (below_new d7))
                 have I0' := Lib.hid (I0.out.step b7)
                 clear I0
                 have I0 := I0'
                 clear I0'
                 have I1' := Lib.hid (I1.out.step b7)
                 clear I1
                 have I1 := I1'
                 clear I1'
                 have I2' := Lib.hid (I2.out.step b7)
                 clear I2
                 have I2 := I2'
                 clear I2'
                 have F2' := Lib.hid (F2.out.step b7)
                 clear F2
                 have F2 := F2'
                 clear F2'
                 have I3' := Lib.hid (I3.out.step b7)
                 clear I3
                 have I3 := I3'
                 clear I3'
                 have X2' := Lib.hid (X2.out.step b7)
                 clear X2
                 have X2 := X2'
                 clear X2'
                 have R4' := Lib.hid (R4.out.step b7)
                 clear R4
                 have R4 := R4'
                 clear R4'
                 have R5' := Lib.hid (R5.out.step b7)
                 clear R5
                 have R5 := R5'
                 clear R5'
                 have R6' := Lib.hid (R6.out.step b7)
                 clear R6
                 have R6 := R6'
                 clear R6'
                 have T7 := step T6 b7
                 have Z7 := b7.size
                 try rw [al_size] at r7
                 have R7 := Lib.hid r7
                 clear r7 z7)
              | (go_at_call 14
                 clear tok8
                 refine (spec_IsOrder _ _ s0 _ _ l1 _ _ _ _ s2 l2 _ _ l3 hl0 hz1 hl2 hz2 hl3 _ (by first | exact R4.out | exact R4.out.step (below_drew _) | exact R4.out.step (below_alloc _ _) | exact R4.out.step (step (below_alloc _ _) (below_alloc _ _))) (by first | exact R5.out | exact R5.out.step (below_drew _) | exact R5.out.step (below_alloc _ _) | exact R5.out.step (step (below_alloc _ _) (below_alloc _ _))) (by first | exact R6.out.ri | exact (R6.out.step (below_drew _)).ri | exact (R6.out.step (below_alloc _ _)).ri) (by first | exact R6.out.rf | exact (R6.out.step (below_drew _)).rf | exact (R6.out.step (below_alloc _ _)).rf) (by first | exact R7.out | exact R7.out.step (below_drew _) | exact R7.out.step (below_alloc _ _) | exact R7.out.step (step (below_alloc _ _) (below_alloc _ _)))).mono ?_
                 rintro e u8 ⟨rfl, d8⟩
                 have b8 : Below u7.heap.size u7 u8 := by first | exact d8 | exact und d8 | exact undN d8 | exact below_new d8 | exact und (below_new d8) | exact below_new (und d8) | exact below_new (below_new d8) | exact step (below_drew _) (und (below_new d8))
                 have I0' := Lib.hid (I0.out.step b8)
                 clear I0
                 have I0 := I0'
                 clear I0'
                 have I1' := Lib.hid (I1.out.step b8)
                 clear I1
                 have I1 := I1'
                 clear I1'
                 have I2' := Lib.hid (I2.out.step b8)
                 clear I2
                 have I2 := I2'
                 clear I2'
                 have F2' := Lib.hid (F2.out.step b8)
                 clear F2
                 have F2 := F2'
                 clear F2'
                 have I3' := Lib.hid (I3.out.step b8)
                 clear I3
                 have I3 := I3'
                 clear I3'
                 have X2' := Lib.hid (X2.out.step b8)
                 clear X2
                 have X2 := X2'
                 clear X2'
                 have R4' := Lib.hid (R4.out.step b8)
                 clear R4
                 have R4 := R4'
                 clear R4'
                 have R5' := Lib.hid (R5.out.step b8)
                 clear R5
                 have R5 := R5'
                 clear R5'
                 have R6' := Lib.hid (R6.out.step b8)
                 clear R6
                 have R6 := R6'
                 clear R6'
                 have R7' := Lib.hid (R7.out.step b8)
                 clear R7
                 have R7 := R7'
                 clear R7'
                 have T8 := step T7 b8
                 have Z8 := b8.size))
          have h820 := X2.out.cell 0
          have h821 := X2.out.cell 1
          simp only [List.getElem?_toArray, List.getElem?_cons_zero, List.getElem?_cons_succ] at h820 h821
          have h82n := X2.out.lt
          go_wp2_with fail
          refine (toIntS_r A0 c0 s0 hl0 _ (by first | exact I0.out | exact I0.out.step (below_drew _) | exact I0.out.step (below_alloc _ _) | exact I0.out.step (step (below_alloc _ _) (below_alloc _ _)))).mono ?_
          rintro e u9 ⟨rfl, r9, d9, z9⟩
          have b9 : Below u8.heap.size u8 u9 := by first | exact d9 | exact und d9 | exact undN d9 | exact below_new d9 | exact und (below_new d9) | exact below_new (und d9) | exact below_new (below_new d9) | exact step (below_drew _) (und (below_new d9))
          have I0' := Lib.hid (I0.out.step b9)
          clear I0
          have I0 := I0'
          clear I0'
          have I1' := Lib.hid (I1.out.step b9)
          clear I1
          have I1 := I1'
          clear I1'
          have I2' := Lib.hid (I2.out.step b9)
          clear I2
          have I2 := I2'
          clear I2'
          have F2' := Lib.hid (F2.out.step b9)
          clear F2
          have F2 := F2'
          clear F2'
          have I3' := Lib.hid (I3.out.step b9)
          clear I3
          have I3 := I3'
          clear I3'
          have X2' := Lib.hid (X2.out.step b9)
          clear X2
          have X2 := X2'
          clear X2'
          have T9 := step T8 b9
          have Z9 := b9.size
          try rw [al_size] at r9
          have R9 := Lib.hid r9.ri
          clear r9 z9
          have h920 := X2.out.cell 0
          have h921 := X2.out.cell 1
          simp only [List.getElem?_toArray, List.getElem?_cons_zero, List.getElem?_cons_succ] at h920 h921
          have h92n := X2.out.lt
          go_wp2_with fail
          refine (toMethodS_r A1 c1 l1 hz1 _ (by first | exact I1.out | exact I1.out.step (below_drew _) | exact I1.out.step (below_alloc _ _) | exact I1.out.step (step (below_alloc _ _) (below_alloc _ _)))).mono ?_
          rintro e u10 ⟨rfl, r10, d10, z10⟩
          have b10 : Below u9.heap.size u9 u10 := by first | exact d10 | exact und d10 | exact undN d10 | exact below_new d10 | exact und (below_new d10) | exact below_new (und d10) | exact below_new (below_new d10) | exact step (below_drew _) (und (below_new d10))
          have I0' := Lib.hid (I0.out.step b10)
          clear I0
          have I0 := I0'
          clear I0'
          have I1' := Lib.hid (I1.out.step b10)
          clear I1
          have I1 := I1'
          clear I1'
          have I2' := Lib.hid (I2.out.step b10)
          clear I2
          have I2 := I2'
          clear I2'
          have F2' := Lib.hid (F2.out.step b10)
          clear F2
          have F2 := F2'
          clear F2'
          have I3' := Lib.hid (I3.out.step b10)
          clear I3
          have I3 := I3'
          clear I3'
          have X2' := Lib.hid (X2.out.step b10)
          clear X2
          have X2 := X2'
          clear X2'
          have R9' := Lib.hid (R9.out.step b10)
          clear R9
          have R9 := R9'
          clear R9'
          have T10 := step T9 b10
          have Z10 := b10.size
          try rw [al_size] at r10
          have R10 := Lib.hid r10
          clear r10 z10
          have h1020 := X2.out.cell 0
          have h1021 := X2.out.cell 1
          simp only [List.getElem?_toArray, List.getElem?_cons_zero, List.getElem?_cons_succ] at h1020 h1021
          have h102n := X2.out.lt
          go_wp2_with fail
          refine (toQuery_r H2 A2 x2 c2 s2 l2 hl2 hz2 _ (by first | exact I2.out | exact I2.out.step (below_drew _) | exact I2.out.step (below_alloc _ _) | exact I2.out.step (step (below_alloc _ _) (below_alloc _ _))) (by first | exact F2.out | exact F2.out.step (below_drew _) | exact F2.out.step (below_alloc _ _) | exact F2.out.step (step (below_alloc _ _) (below_alloc _ _)))).mono ?_
          rintro e u11 ⟨rfl, r11, d11, z11⟩
          have b11 : Below u10.heap.size u10 u11 := by first | exact d11 | exact und d11 | exact undN d11 | exact below_new d11 | exact und (below_new d11) | exact below_new (und d11) | exact below_new (below_new d11) | exact step (below_drew _) (und (below_new d11))
          have I0' := Lib.hid (I0.out.step b11)
          clear I0
          have I0 := I0'
          clear I0'
          have I1' := Lib.hid (I1.out.step b11)
          clear I1
          have I1 := I1'
          clear I1'
          have I2' := Lib.hid (I2.out.step b11)
          clear I2
          have I2 := I2'
          clear I2'
          have F2' := Lib.hid (F2.out.step b11)
          clear F2
          have F2 := F2'
          clear F2'
          have I3' := Lib.hid (I3.out.step b11)
          clear I3
          have I3 := I3'
          clear I3'
          have X2' := Lib.hid (X2.out.step b11)
          clear X2
          have X2 := X2'
          clear X2'
          have R9' := Lib.hid (R9.out.step b11)
          clear R9
          have R9 := R9'
          clear R9'
          have R10' := Lib.hid (R10.out.step b11)
          clear R10
          have R10 := R10'
          clear R10'
          have T11 := step T10 b11
          have Z11 := b11.size
          try rw [al_size] at r11
          have R11 := Lib.hid r11
          clear r11 z11
          have h1120 := X2.out.cell 0
          have h1121 := X2.out.cell 1
          simp only [List.getElem?_toArray, List.getElem?_cons_zero, List.getElem?_cons_succ] at h1120 h1121
          have h112n := X2.out.lt
          go_wp2_with fail
          refine (toStepS_r A3 c3 l3 hl3 _ (by first | exact I3.out | exact I3.out.step (below_drew _) | exact I3.out.step (below_alloc _ _) | exact I3.out.step (step (below_alloc _ _) (below_alloc _ _)))).mono ?_
          rintro e u12 ⟨rfl, r12, d12, z12⟩
          have Y2 := Lib.hid (Box.of_new d12)
          have b12 : Below u11.heap.size u11 u12 := by first | exact d12 | exact und d12 | exact undN d12 | exact below_new d12 | exact und (below_new d12) | exact below_new (und d12) | exact below_new (below_new d12) | exact step (below_drew _) (und (below_new d12))
          have I0' := Lib.hid (I0.out.step b12)
          clear I0
          have I0 := I0'
          clear I0'
          have I1' := Lib.hid (I1.out.step b12)
          clear I1
          have I1 := I1'
          clear I1'
          have I2' := Lib.hid (I2.out.step b12)
          clear I2
          have I2 := I2'
          clear I2'
          have F2' := Lib.hid (F2.out.step b12)
          clear F2
          have F2 := F2'
          clear F2'
          have I3' := Lib.hid (I3.out.step b12)
          clear I3
          have I3 := I3'
          clear I3'
          have X2' := Lib.hid (X2.out.step b12)
          clear X2
          have X2 := X2'
          clear X2'
          have R9' := Lib.hid (R9.out.step b12)
          clear R9
          have R9 := R9'
          clear R9'
          have R10' := Lib.hid (R10.out.step b12)
          clear R10
          have R10 := R10'
          clear R10'
          have R11' := Lib.hid (R11.out.step b12)
          clear R11
          have R11 := R11'
          clear R11'
          have T12 := step T11 b12
          have Z12 := b12.size
          try rw [al_size] at r12
          have R12 := Lib.hid r12
          clear r12 z12
          have H1220 := Y2.out.cell 0
          have H1221 := Y2.out.cell 1
          simp only [List.getElem?_toArray, List.getElem?_cons_zero, List.getElem?_cons_succ] at H1220 H1221
          have H122n := Y2.out.lt
          go_wp2_with fail
          refine (impl_IsOrder _ _ s0 _ _ l1 _ _ _ _ s2 l2 _ _ l3 hl0 hz1 hl2 hz2 hl3 (Nat.le_refl _) _ (by first | exact R9.out | exact R9.out.step (below_drew _) | exact R9.out.step (below_alloc _ _) | exact R9.out.step (step (below_alloc _ _) (below_alloc _ _))) (by first | exact R10.out | exact R10.out.step (below_drew _) | exact R10.out.step (below_alloc _ _) | exact R10.out.step (step (below_alloc _ _) (below_alloc _ _))) (by first | exact R11.out.ri | exact (R11.out.step (below_drew _)).ri | exact (R11.out.step (below_alloc _ _)).ri) (by first | exact R11.out.rf | exact (R11.out.step (below_drew _)).rf | exact (R11.out.step (below_alloc _ _)).rf) (by first | exact R12.out | exact R12.out.step (below_drew _) | exact R12.out.step (below_alloc _ _) | exact R12.out.step (step (below_alloc _ _) (below_alloc _ _)))).mono ?_
          rintro e u13 ⟨rfl, d13⟩
          have b13 : Below u12.heap.size u12 u13 := by first | exact d13 | exact und d13 | exact undN d13 | exact below_new d13 | exact und (below_new d13) | exact below_new (und d13) | exact below_new (below_new d13) | exact step (below_drew _) (und (below_new d13))
          have I0' := Lib.hid (I0.out.step b13)
          clear I0
          have I0 := I0'
          clear I0'
          have I1' := Lib.hid (I1.out.step b13)
          clear I1
          have I1 := I1'
          clear I1'
          have I2' := Lib.hid (I2.out.step b13)
          clear I2
          have I2 := I2'
          clear I2'
          have F2' := Lib.hid (F2.out.step b13)
          clear F2
          have F2 := F2'
          clear F2'
          have I3' := Lib.hid (I3.out.step b13)
          clear I3
          have I3 := I3'
          clear I3'
          have X2' := Lib.hid (X2.out.step b13)
          clear X2
          have X2 := X2'
          clear X2'
          have R9' := Lib.hid (R9.out.step b13)
          clear R9
          have R9 := R9'
          clear R9'
          have R10' := Lib.hid (R10.out.step b13)
          clear R10
          have R10 := R10'
          clear R10'
          have R11' := Lib.hid (R11.out.step b13)
          clear R11
          have R11 := R11'
          clear R11'
          have R12' := Lib.hid (R12.out.step b13)
          clear R12
          have R12 := R12'
          clear R12'
          have Y2' := Lib.hid (Y2.out.step b13)
          clear Y2
          have Y2 := Y2'
          clear Y2'
          have T13 := step T12 b13
          have Z13 := b13.size
          have p1320 := X2.out.cell 0
          have p1321 := X2.out.cell 1
          simp only [List.getElem?_toArray, List.getElem?_cons_zero, List.getElem?_cons_succ] at p1320 p1321
          have p132n := X2.out.lt
          have q1320 := Y2.out.cell 0
          have q1321 := Y2.out.cell 1
          simp only [List.getElem?_toArray, List.getElem?_cons_zero, List.getElem?_cons_succ] at q1320 q1321
          have q132n := Y2.out.lt
          go_wp2_with fail
          refine (toIntS_r A0 c0 s0 hl0 _ (by first | exact I0.out | exact I0.out.step (below_drew _) | exact I0.out.step (below_alloc _ _) | exact I0.out.step (step (below_alloc _ _) (below_alloc _ _)))).mono ?_
          rintro e u14 ⟨rfl, r14, d14, z14⟩
          have b14 : Below u13.heap.size u13 u14 := by first | exact d14 | exact und d14 | exact undN d14 | exact below_new d14 | exact und (below_new d14) | exact below_new (und d14) | exact below_new (below_new d14) | exact step (below_drew _) (und (below_new d14))
          have I0' := Lib.hid (I0.out.step b14)
          clear I0
          have I0 := I0'
          clear I0'
          have I1' := Lib.hid (I1.out.step b14)
          clear I1
          have I1 := I1'
          clear I1'
          have I2' := Lib.hid (I2.out.step b14)
          clear I2
          have I2 := I2'
          clear I2'
          have F2' := Lib.hid (F2.out.step b14)
          clear F2
          have F2 := F2'
          clear F2'
          have I3' := Lib.hid (I3.out.step b14)
          clear I3
          have I3 := I3'
          clear I3'
          have X2' := Lib.hid (X2.out.step b14)
          clear X2
          have X2 := X2'
          clear X2'
          have R9' := Lib.hid (R9.out.step b14)
          clear R9
          have R9 := R9'
          clear R9'
          have R10' := Lib.hid (R10.out.step b14)
          clear R10
          have R10 := R10'
          clear R10'
          have R11' := Lib.hid (R11.out.step b14)
          clear R11
          have R11 := R11'
          clear R11'
          have R12' := Lib.hid (R12.out.step b14)
          clear R12
          have R12 := R12'
          clear R12'
          have Y2' := Lib.hid (Y2.out.step b14)
          clear Y2
          have Y2 := Y2'
          clear Y2'
          have T14 := step T13 b14
          have Z14 := b14.size
          try rw [al_size] at r14
          have R14 := Lib.hid r14.ri
          clear r14 z14
          go_wp2_with fail
          refine (eqIntS_r _ _ _ _ s0 hl0 _ (by first | exact R9.out | exact R9.out.step (below_drew _) | exact R9.out.step (below_alloc _ _) | exact R9.out.step (step (below_alloc _ _) (below_alloc _ _))) (by first | exact R14.out | exact R14.out.step (below_drew _) | exact R14.out.step (below_alloc _ _) | exact R14.out.step (step (below_alloc _ _) (below_alloc _ _)))).mono ?_
          rintro e u15 ⟨rfl, d15⟩
          have b15 : Below u14.heap.size u14 u15 := by first | exact d15 | exact und d15 | exact undN d15 | exact below_new d15 | exact und (below_new d15) | exact below_new (und d15) | exact below_new (below_new d15) | exact step (below_drew _) (und (below_new d15))
          have I0' := Lib.hid (I0.out.step b15)
          clear I0
          have I0 := I0'
          clear I0'
          have I1' := Lib.hid (I1.out.step b15)
          clear I1
          have I1 := I1'
          clear I1'
          have I2' := Lib.hid (I2.out.step b15)
          clear I2
          have I2 := I2'
          clear I2'
          have F2' := Lib.hid (F2.out.step b15)
          clear F2
          have F2 := F2'
          clear F2'
          have I3' := Lib.hid (I3.out.step b15)
          clear I3
          have I3 := I3'
          clear I3'
          have X2' := Lib.hid (X2.out.step b15)
          clear X2
          have X2 := X2'
          clear X2'
          have R9' := Lib.hid (R9.out.step b15)
          clear R9
          have R9 := R9'
          clear R9'
          have R10' := Lib.hid (R10.out.step b15)
          clear R10
          have R10 := R10'
          clear R10'
          have R11' := Lib.hid (R11.out.step b15)
          clear R11
          have R11 := R11'
          clear R11'
          have R12' := Lib.hid (R12.out.step b15)
          clear R12
          have R12 := R12'
          clear R12'
          have Y2' := Lib.hid (Y2.out.step b15)
          clear Y2
          have Y2 := Y2'
          clear Y2'
          have R14' := Lib.hid (R14.out.step b15)
          clear R14
          have R14 := R14'
          clear R14'
          have T15 := step T14 b15
          have Z15 := b15.size
          have p1520 := X2.out.cell 0
          have p1521 := X2.out.cell 1
          simp only [List.getElem?_toArray, List.getElem?_cons_zero, List.getElem?_cons_succ] at p1520 p1521
          have p152n := X2.out.lt
          have q1520 := Y2.out.cell 0
          have q1521 := Y2.out.cell 1
          simp only [List.getElem?_toArray, List.getElem?_cons_zero, List.getElem?_cons_succ] at q1520 q1521
          have q152n := Y2.out.lt
          go_wp2_with fail
          refine (toMethodS_r A1 c1 l1 hz1 _ (by first | exact I1.out | exact I1.out.step (below_drew _) | exact I1.out.step (below_alloc _ _) | exact I1.out.step (step (below_alloc _ _) (below_alloc _ _)))).mono ?_
          rintro e u16 ⟨rfl, r16, d16, z16⟩
          have b16 : Below u15.heap.size u15 u16 := by first | exact d16 | exact und d16 | exact undN d16 | exact below_new d16 | exact und (below_new d16) | exact below_new (und d16) | exact below_new (below_new d16) | exact step (below_drew _) (und (below_new d16))
          have I0' := Lib.hid (I0.out.step b16)
          clear I0
          have I0 := I0'
          clear I0'
          have I1' := Lib.hid (I1.out.step b16)
          clear I1
          have I1 := I1'
          clear I1'
          have I2' := Lib.hid (I2.out.step b16)
          clear I2
          have I2 := I2'
          clear I2'
          have F2' := Lib.hid (F2.out.step b16)
          clear F2
          have F2 := F2'
          clear F2'
          have I3' := Lib.hid (I3.out.step b16)
          clear I3
          have I3 := I3'
          clear I3'
          have X2' := Lib.hid (X2.out.step b16)
          clear X2
          have X2 := X2'
          clear X2'
          have R9' := Lib.hid (R9.out.step b16)
          clear R9
          have R9 := R9'
          clear R9'
          have R10' := Lib.hid (R10.out.step b16)
          clear R10
          have R10 := R10'
          clear R10'
          have R11' := Lib.hid (R11.out.step b16)
          clear R11
          have R11 := R11'
          clear R11'
          have R12' := Lib.hid (R12.out.step b16)
          clear R12
          have R12 := R12'
          clear R12'
          have Y2' := Lib.hid (Y2.out.step b16)
          clear Y2
          have Y2 := Y2'
          clear Y2'
          have T16 := step T15 b16
          have Z16 := b16.size
          try rw [al_size] at r16
          have R16 := Lib.hid r16
          clear r16 z16
          go_wp2_with fail
          refine (eqMethodS_r _ _ _ _ l1 hz1 _ (by first | exact R10.out | exact R10.out.step (below_drew _) | exact R10.out.step (below_alloc _ _) | exact R10.out.step (step (below_alloc _ _) (below_alloc _ _))) (by first | exact R16.out | exact R16.out.step (below_drew _) | exact R16.out.step (below_alloc _ _) | exact R16.out.step (step (below_alloc _ _) (below_alloc _ _)))).mono ?_
          rintro e u17 ⟨rfl, d17⟩
          have b17 : Below u16.heap.size u16 u17 := by first | exact d17 | exact und d17 | exact undN d17 | exact below_new d17 | exact und (below_new d17) | exact below_new (und d17) | exact below_new (below_new d17) | exact step (below_drew _) (und (below_new d17))
          have I0' := Lib.hid (I0.out.step b17)
          clear I0
          have I0 := I0'
          clear I0'
          have I1' := Lib.hid (I1.out.step b17)
          clear I1
          have I1 := I1'
          clear I1'
          have I2' := Lib.hid (I2.out.step b17)
          clear I2
          have I2 := I2'
          clear I2'
          have F2' := Lib.hid (F2.out.step b17)
          clear F2
          have F2 := F2'
          clear F2'
          have I3' := Lib.hid (I3.out.step b17)
          clear I3
          have I3 := I3'
          clear I3'
          have X2' := Lib.hid (X2.out.step b17)
          clear X2
          have X2 := X2'
          clear X2'
          have R9' := Lib.hid (R9.out.step b17)
          clear R9
          have R9 := R9'
          clear R9'
          have R10' := Lib.hid (R10.out.step b17)
          clear R10
          have R10 := R10'
          clear R10'
          have R11' := Lib.hid (R11.out.step b17)
          clear R11
          have R11 := R11'
          clear R11'
          have R12' := Lib.hid (R12.out.step b17)
          clear R12
          have R12 := R12'
          clear R12'
          have Y2' := Lib.hid (Y2.out.step b17)
          clear Y2
          have Y2 := Y2'
          clear Y2'
          have R16' := Lib.hid (R16.out.step b17)
          clear R16
          have R16 := R16'
          clear R16'
          have T17 := step T16 b17
          have Z17 := b17.size
          have p1720 := X2.out.cell 0
          have p1721 := X2.out.cell 1
          simp only [List.getElem?_toArray, List.getElem?_cons_zero, List.getElem?_cons_succ] at p1720 p1721
          have p172n := X2.out.lt
          have q1720 := Y2.out.cell 0
          have q1721 := Y2.out.cell 1
          simp only [List.getElem?_toArray, List.getElem?_cons_zero, List.getElem?_cons_succ] at q1720 q1721
          have q172n := Y2.out.lt
          have tok18 : True := trivial
          have tok19 : True := trivial
          go_wp2_with fail
          go_region_held3 (fun w' => w'.cell? ⟨w.heap.size, 0, none⟩ = some (.slice H2 s2.length x2) ∧ w'.cell? ⟨w.heap.size, 1, none⟩ = some (.slice A2 l2.length c2) ∧ w'.cell? ⟨u11.heap.size, 0, none⟩ = some (.slice (some ⟨u10.heap.size + 3, 0, none⟩) s2.length s2.length) ∧ w'.cell? ⟨u11.heap.size, 1, none⟩ = some (.slice (some ⟨u10.heap.size + 3 + 1, 0, none⟩) l2.length l2.length))
            (first
              | go_keep
              | (go_split_ands; refine ⟨?_, ?_, ?_, ?_⟩ <;> (rw [d18.cell (by (try simp) <;> omega)]; assumption))
              | (go_split_ands; refine ⟨?_, ?_, ?_, ?_⟩ <;> (rw [d19.cell (by (try simp) <;> omega)]; assumption)))
            (first
              | (go_at_call 17
                 clear tok18
                 refine (toQuery_r H2 A2 x2 c2 s2 l2 hl2 hz2 _ (by first | exact I2.out | exact I2.out.step (below_drew _) | exact I2.out.step (below_alloc _ _) | exact I2.out.step (step (below_alloc _ _) (below_alloc _ _))) (by first | exact F2.out | exact F2.out.step (below_drew _) | exact F2.out.step (below_alloc _ _) | exact F2.out.step (step (below_alloc _ _) (below_alloc _ _)))).mono ?_
                 rintro e u18 ⟨rfl, r18, d18, z18⟩
                 have b18 : Below u17.heap.size u17 u18 := by first | exact d18 | exact und d18 | exact undN d18 | exact below_new d18 | exact und (below_new d18) | exact below_new (und d18) | exact below_new (below_new d18) | exact step (below_drew _) (und (below_new d18))
                 have I0' := Lib.hid (I0.out.step b18)
                 clear I0
                 have I0 := I0'
                 clear I0'
                 have I1' := Lib.hid (I1.out.step b18)
                 clear I1
                 have I1 := I1'
                 clear I1'
                 have I2' := Lib.hid (I2.out.step b18)
                 clear I2
                 have I2 := I2'
                 clear I2'
                 have F2' := Lib.hid (F2.out.step b18)
                 clear F2
                 have F2 := F2'
                 clear F2'
                 have I3' := Lib.hid (I3.out.step b18)
                 clear I3
                 have I3 := I3'
                 clear I3'
                 have X2' := Lib.hid (X2.out.step b18)
                 clear X2
                 have X2 := X2'
                 clear X2'
                 have R9' := Lib.hid (R9.out.step b18)
                 clear R9
                 have R9 := R9'
                 clear R9'
                 have R10' := Lib.hid (R10.out.step b18)
                 clear R10
                 have R10 := R10'
                 clear R10'
                 have R11' := Lib.hid (R11.out.step b18)
                 clear R11
                 have R11 := R11'
                 clear R11'
                 have R12' := Lib.hid (R12.out.step b18)
                 clear R12
                 have R12 := R12'
                 clear R12'
                 have Y2' := Lib.hid (Y2.out.step b18)
                 clear Y2
                 have Y2 := Y2'
                 clear Y2'
                 have T18 := step T17 b18
                 have Z18 := b18.size
                 try rw [al_size] at r18
                 have R18 := Lib.hid r18
                 clear r18 z18)
              | (go_at_call 22
                 clear tok19
                 refine (eqQuery_b _ _ _ _ _ _ _ _ s2 l2 hl2 (by omega) _ (by first | exact R11.out.ri | exact (R11.out.step (below_drew _)).ri | exact (R11.out.step (below_alloc _ _)).ri) (by first | exact R11.out.rf | exact (R11.out.step (below_drew _)).rf | exact (R11.out.step (below_alloc _ _)).rf) (by first | exact R18.out.ri | exact (R18.out.step (below_drew _)).ri | exact (R18.out.step (below_alloc _ _)).ri) (by first | exact R18.out.rf | exact (R18.out.step (below_drew _)).rf | exact (R18.out.step (below_alloc _ _)).rf)).mono ?_
                 rintro e u19 ⟨rfl, d19⟩
                 have b19 : Below u18.heap.size u18 u19 := by first | exact d19 | exact und d19 | exact undN d19 | exact below_new d19 | exact und (below_new d19) | exact below_new (und d19) | exact below_new (below_new d19) | exact step (below_drew _) (und (below_new d19))
                 have I0' := Lib.hid (I0.out.step b19)
                 clear I0
                 have I0 := I0'
                 clear I0'
                 have I1' := Lib.hid (I1.out.step b19)
                 clear I1
                 have I1 := I1'
                 clear I1'
                 have I2' := Lib.hid (I2.out.step b19)
                 clear I2
                 have I2 := I2'
                 clear I2'
                 have F2' := Lib.hid (F2.out.step b19)
                 clear F2
                 have F2 := F2'
                 clear F2'
                 have I3' := Lib.hid (I3.out.step b19)
                 clear I3
                 have I3 := I3'
                 clear I3'
                 have X2' := Lib.hid (X2.out.step b19)
                 clear X2
                 have X2 := X2'
                 clear X2'
                 have R9' := Lib.hid (R9.out.step b19)
                 clear R9
                 have R9 := R9'
                 clear R9'
                 have R10' := Lib.hid (R10.out.step b19)
                 clear R10
                 have R10 := R10'
                 clear R10'
                 have R11' := Lib.hid (R11.out.step b19)
                 clear R11
                 have R11 := R11'
                 clear R11'
                 have R12' := Lib.hid (R12.out.step b19)
                 clear R12
                 have R12 := R12'
                 clear R12'
                 have Y2' := Lib.hid (Y2.out.step b19)
                 clear Y2
                 have Y2 := Y2'
                 clear Y2'
                 have R18' := Lib.hid (R18.out.step b19)
                 clear R18
                 have R18 := R18'
                 clear R18'
                 have T19 := step T18 b19
                 have Z19 := b19.size))
          have p1920 := X2.out.cell 0
          have p1921 := X2.out.cell 1
          simp only [List.getElem?_toArray, List.getElem?_cons_zero, List.getElem?_cons_succ] at p1920 p1921
          have p192n := X2.out.lt
          have q1920 := Y2.out.cell 0
          have q1921 := Y2.out.cell 1
          simp only [List.getElem?_toArray, List.getElem?_cons_zero, List.getElem?_cons_succ] at q1920 q1921
          have q192n := Y2.out.lt
          go_wp2_with fail
          refine (toStepS_r A3 c3 l3 hl3 _ (by first | exact I3.out | exact I3.out.step (below_drew _) | exact I3.out.step (below_alloc _ _) | exact I3.out.step (step (below_alloc _ _) (below_alloc _ _)))).mono ?_
          rintro e u20 ⟨rfl, r20, d20, z20⟩
          have b20 : Below u19.heap.size u19 u20 := by first | exact d20 | exact und d20 | exact undN d20 | exact below_new d20 | exact und (below_new d20) | exact below_new (und d20) | exact below_new (below_new d20) | exact step (below_drew _) (und (below_new d20))
          have I0' := Lib.hid (I0.out.step b20)
          clear I0
          have I0 := I0'
          clear I0'
          have I1' := Lib.hid (I1.out.step b20)
          clear I1
          have I1 := I1'
          clear I1'
          have I2' := Lib.hid (I2.out.step b20)
          clear I2
          have I2 := I2'
          clear I2'
          have F2' := Lib.hid (F2.out.step b20)
          clear F2
          have F2 := F2'
          clear F2'
          have I3' := Lib.hid (I3.out.step b20)
          clear I3
          have I3 := I3'
          clear I3'
          have X2' := Lib.hid (X2.out.step b20)
          clear X2
          have X2 := X2'
          clear X2'
          have R9' := Lib.hid (R9.out.step b20)
          clear R9
          have R9 := R9'
          clear R9'
          have R10' := Lib.hid (R10.out.step b20)
          clear R10
          have R10 := R10'
          clear R10'
          have R11' := Lib.hid (R11.out.step b20)
          clear R11
          have R11 := R11'
          clear R11'
          have R12' := Lib.hid (R12.out.step b20)
          clear R12
          have R12 := R12'
          clear R12'
          have Y2' := Lib.hid (Y2.out.step b20)
          clear Y2
          have Y2 := Y2'
          clear Y2'
          have T20 := step T19 b20
          have Z20 := b20.size
          try rw [al_size] at r20
          have R20 := Lib.hid r20
          clear r20 z20
          go_wp2_with fail
          refine (eqStepS_r _ _ _ _ l3 hl3 _ (by first | exact R12.out | exact R12.out.step (below_drew _) | exact R12.out.step (below_alloc _ _) | exact R12.out.step (step (below_alloc _ _) (below_alloc _ _))) (by first | exact R20.out | exact R20.out.step (below_drew _) | exact R20.out.step (below_alloc _ _) | exact R20.out.step (step (below_alloc _ _) (below_alloc _ _)))).mono ?_
          rintro e u21 ⟨rfl, d21⟩
          have b21 : Below u20.heap.size u20 u21 := by first | exact d21 | exact und d21 | exact undN d21 | exact below_new d21 | exact und (below_new d21) | exact below_new (und d21) | exact below_new (below_new d21) | exact step (below_drew _) (und (below_new d21))
          have I0' := Lib.hid (I0.out.step b21)
          clear I0
          have I0 := I0'
          clear I0'
          have I1' := Lib.hid (I1.out.step b21)
          clear I1
          have I1 := I1'
          clear I1'
          have I2' := Lib.hid (I2.out.step b21)
          clear I2
          have I2 := I2'
          clear I2'
          have F2' := Lib.hid (F2.out.step b21)
          clear F2
          have F2 := F2'
          clear F2'
          have I3' := Lib.hid (I3.out.step b21)
          clear I3
          have I3 := I3'
          clear I3'
          have X2' := Lib.hid (X2.out.step b21)
          clear X2
          have X2 := X2'
          clear X2'
          have R9' := Lib.hid (R9.out.step b21)
          clear R9
          have R9 := R9'
          clear R9'
          have R10' := Lib.hid (R10.out.step b21)
          clear R10
          have R10 := R10'
          clear R10'
          have R11' := Lib.hid (R11.out.step b21)
          clear R11
          have R11 := R11'
          clear R11'
          have R12' := Lib.hid (R12.out.step b21)
          clear R12
          have R12 := R12'
          clear R12'
          have Y2' := Lib.hid (Y2.out.step b21)
          clear Y2
          have Y2 := Y2'
          clear Y2'
          have R20' := Lib.hid (R20.out.step b21)
          clear R20
          have R20 := R20'
          clear R20'
          have T21 := step T20 b21
          have Z21 := b21.size
          go_wp2
          go_ret
          exact ⟨rfl, by first | exact T21 | exact T21.drew⟩

set_option maxRecDepth 100000 in
theorem lifted (os : Os) (started : os.Started) (H : Type) (enc : TypeId × Value → H) :
    ReturnsInHanded {} Try.checked os 3 .any (Rows.fnExactIsOrderSpec.pre6 enc Try.prog Try.f3 Rows.fnExactIsOrderRow.domain false) (Rows.fnExactIsOrderSpec.post enc Try.prog Try.f3 false true false false) := by
  refine returnsInHanded_of_change (C := Try.checked) own started (by kernel_rfl) Try.func3
    (ChangeSpec.witness6 (enc := enc) (C := Try.checked) false ⟨#[], #[.slice none 0 0, .slice none 0 0, .agg #[.slice none 0 0, .slice none 0 0], .slice none 0 0], []⟩ 8 (by kernel_rfl) (by kernel_rfl) (by kernel_rfl) (by kernel_rfl)) ?_
  intro W base args ds gs before hval0 hW hcnd _
  have hval : ∀ (j : Nat) t v, Try.f3.params[j]? = some t → args[j]? = some v → Value.okWide Try.prog W .any base t v := hval0
  have hpost := fun (W' : World) (hfn : Rows.fnExactIsOrderSpec.fn H (ds ++ gs) = { results := [.lit (.bool true)], args := ds }) (hb : Below W.heap.size W W') => law_post (enc := enc) laidOut (f := Try.f3) (s := Rows.fnExactIsOrderSpec) (args := args) rfl rfl Try.underlying4 (by intro t ht; rw [Try.params3] at ht; simp at ht; rcases ht with rfl | rfl | rfl | rfl <;> exact ⟨by kernel_rfl, of_decide_eq_true (by kernel_rfl)⟩) hW hfn hb
  obtain ⟨p, q, hA0, hV, rfl, hfz, hnd⟩ := hW
  have hA : DataW.TrodAll enc Try.prog W 0 (fun _ => true) true Try.f3.params.toList args.toList ds p := hA0
  rw [Try.params3] at hA hval
  obtain ⟨v0, vs0, d0, ds0, p0, q0, hargs, rfl, rfl, h0, r0⟩ := trodAll_cons hA
  obtain ⟨v1, vs1, d1, ds1, p1, q1, rfl, rfl, rfl, h1, r1⟩ := trodAll_cons r0
  obtain ⟨v2, vs2, d2, ds2, p2, q2, rfl, rfl, rfl, h2, r2⟩ := trodAll_cons r1
  obtain ⟨v3, vs3, d3, ds3, p3, q3, rfl, rfl, rfl, h3, r3⟩ := trodAll_cons r2
  obtain ⟨rfl, rfl, rfl⟩ := trodAll_nil r3
  obtain rfl : args = #[v0, v1, v2, v3] := by cases args; simp_all
  obtain ⟨rfl, rfl⟩ := trodVars_none hV
  obtain ⟨A0, c0, s0, rfl, l0, m0, w0⟩ := open_numsT Try.underlying22 Try.underlying3 (by kernel_rfl) (hval 0 22 v0 rfl rfl) h0
  obtain ⟨A1, c1, l1, rfl, k1, m1, w1⟩ := open_methodsT (hval 1 23 v1 rfl rfl) h1
  obtain ⟨H2, A2, x2, c2, s2, l2, rfl, y2, z2, k2, m2, w2⟩ := open_queryT (hval 2 26 v2 rfl rfl) h2
  obtain ⟨A3, c3, l3, rfl, k3, m3, w3⟩ := open_stepsT (hval 3 27 v3 rfl rfl) h3
  refine (walk W A0 c0 s0 l0 m0 w0 A1 c1 l1 k1 m1 w1 H2 A2 x2 c2 s2 l2 y2 z2 k2 m2 w2 A3 c3 l3 k3 m3 w3).mono fun e W' ⟨he, hg⟩ => ?_
  subst he
  exact ⟨_, rfl, hpost W' rfl hg⟩

theorem over : Rows.fnExactIsOrderRow.holds Try.pinned (OpenSpec.ofChange Rows.fnExactIsOrderSpec) :=
  OpenClaim.holds_of_wide 3 Try.f3 rfl rfl rfl rfl rfl rfl rfl ⟨rfl, rfl, rfl, rfl, rfl⟩ rfl rfl rfl rfl rfl (by kernel_rfl) Try.func3 (by kernel_rfl)
    (of_decide_eq_true (by kernel_rfl)) (by unfold Func.isWrapper; first | (rw [if_pos (by decide +kernel)]; kernel_rfl) | (rw [if_neg (by decide +kernel)]; exact ⟨rfl, rfl⟩))
    (fun os started H enc _ => lifted os started H enc)
end Go.Proofs.Ytighalbnpgmdfaa.fnExactIsOrder
namespace Go.Proofs.Ytighalbnpgmdfaa
theorem fnExactIsOrder_holds : Rows.FnExactIsOrderSaid := fnExactIsOrder.over
#print axioms fnExactIsOrder_holds
end Go.Proofs.Ytighalbnpgmdfaa
