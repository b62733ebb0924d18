/- impl.AnswersOf answers as its model at every argument: the law FnExactAnswersOf returns true. Conditions: none beyond the statement's own. -/
import Derived.Test.YtighalbnpgmdfaaGreatAg16
import Derived.Test.YtighalbnpgmdfaaGreatAg3

namespace Go.Proofs.YtighalbnpgmdfaaGreat.fnExactAnswersOf
open Go.ChangeShapes Go.WideShapes Go.ChangeAt Go.RowKit
open Go.ChangeMaps (open_string shut_string)
set_option linter.unusedVariables false
set_option linter.unusedSimpArgs false
open Go.Proofs.YtighalbnpgmdfaaGreat.atom
set_option maxRecDepth 100000 in
set_option maxHeartbeats 8000000 in
theorem walk (w : World) (A0 : Option Addr) (c0 : Nat) (s0 : List Int) (l0 : s0.length ≤ c0) (m0 : c0 ≤ maxLen) (w0 : Ints w 0 w.heap.size A0 s0) (H1 A1 : Option Addr) (x1 c1 : Nat) (s1 : List Int) (l1 : FL) (y1 : s1.length ≤ x1) (z1 : x1 ≤ maxLen) (k1 : l1.length ≤ c1) (m1 : c1 ≤ maxLen) (w1 : Ints w 0 w.heap.size H1 s1 ∧ Facts w 0 w.heap.size A1 l1) (A2 : Option Addr) (c2 : Nat) (l2 : List (Int × List Int)) (k2 : l2.length ≤ c2) (m2 : c2 ≤ maxLen) (w2 : Facts w 0 w.heap.size A2 l2) :
    Calls Tryz.prog 3 #[.slice A0 s0.length c0, .agg #[.slice H1 s1.length x1, .slice A1 l1.length c1], .slice A2 l2.length c2] w fun e w' => e = .returned (.bool true) ∧ Below w.heap.size w w' := by
  unfold maxLen at m0 z1 m1 m2
  have hn1 := szF_nonneg l1
  have hn2 := szF_nonneg l2
  have EQ := Lib.hid (show szQ s1 l1 = (s1.length : Int) + szF l1 from rfl)
  have hnq : 0 ≤ szQ s1 l1 := by rw [EQ.out]; omega
  by_cases hb0 : (1048576 : Int) < s0.length
  · have I0 := Lib.hid (show RI w A0 s0 from w0)
    have I1 := Lib.hid (show RI w H1 s1 from w1.1)
    have F1 := Lib.hid (show RF w A1 l1 from w1.2)
    have F2 := Lib.hid (show RF w A2 l2 from w2)
    clear w0 w1 w2
    go_enter Tryz.func3, Tryz.ntmps3
    go_wp2
    go_ret
    exact ⟨rfl, below_alloc _ _⟩
  · skip
    by_cases hb1 : 1048576 - szQ s1 l1 < 0
    · have I0 := Lib.hid (show RI w A0 s0 from w0)
      have I1 := Lib.hid (show RI w H1 s1 from w1.1)
      have F1 := Lib.hid (show RF w A1 l1 from w1.2)
      have F2 := Lib.hid (show RF w A2 l2 from w2)
      clear w0 w1 w2
      go_enter Tryz.func3, Tryz.ntmps3
      go_wp2_with fail
      refine (szQuery_any H1 A1 x1 c1 s1 l1 1048576 (by omega) (by omega) (by omega) (by omega) _ (by first | exact F1.out | exact F1.out.step (below_drew _) | exact F1.out.step (below_alloc _ _) | exact F1.out.step (step (below_alloc _ _) (below_alloc _ _)))).mono ?_
      rintro e u1 ⟨he, d1⟩
      rw [szR_neg hb1] at he
      subst he
      have X0 := Lib.hid (Box.of_new d1)
      have b1 : Below w.heap.size w u1 := by first | exact d1 | exact und d1 | exact undN d1 | exact below_new d1 | exact und (below_new d1) | exact below_new (und d1) | exact below_new (below_new d1) | exact step (below_drew _) (und (below_new d1))
      have I0' := Lib.hid (I0.out.step b1)
      clear I0
      have I0 := I0'
      clear I0'
      have I1' := Lib.hid (I1.out.step b1)
      clear I1
      have I1 := I1'
      clear I1'
      have F1' := Lib.hid (F1.out.step b1)
      clear F1
      have F1 := F1'
      clear F1'
      have F2' := Lib.hid (F2.out.step b1)
      clear F2
      have F2 := F2'
      clear F2'
      have T1 := b1
      have Z1 := b1.size
      have ga0 := X0.out.cell 0
      have ga1 := X0.out.cell 1
      simp only [List.getElem?_toArray, List.getElem?_cons_zero, List.getElem?_cons_succ] at ga0 ga1
      have gan := X0.out.lt
      go_wp2
      go_ret
      exact ⟨rfl, T1⟩
    · skip
      by_cases hb2 : (1048576 - szQ s1 l1) - szF l2 < 0
      · have I0 := Lib.hid (show RI w A0 s0 from w0)
        have I1 := Lib.hid (show RI w H1 s1 from w1.1)
        have F1 := Lib.hid (show RF w A1 l1 from w1.2)
        have F2 := Lib.hid (show RF w A2 l2 from w2)
        clear w0 w1 w2
        go_enter Tryz.func3, Tryz.ntmps3
        go_wp2_with fail
        refine (szQuery_any H1 A1 x1 c1 s1 l1 1048576 (by omega) (by omega) (by omega) (by omega) _ (by first | exact F1.out | exact F1.out.step (below_drew _) | exact F1.out.step (below_alloc _ _) | exact F1.out.step (step (below_alloc _ _) (below_alloc _ _)))).mono ?_
        rintro e u1 ⟨he, d1⟩
        rw [szR_pos (show ¬ (1048576 - szQ s1 l1 < 0) by omega)] at he
        subst he
        have X0 := Lib.hid (Box.of_new d1)
        have b1 : Below w.heap.size w u1 := by first | exact d1 | exact und d1 | exact undN d1 | exact below_new d1 | exact und (below_new d1) | exact below_new (und d1) | exact below_new (below_new d1) | exact step (below_drew _) (und (below_new d1))
        have I0' := Lib.hid (I0.out.step b1)
        clear I0
        have I0 := I0'
        clear I0'
        have I1' := Lib.hid (I1.out.step b1)
        clear I1
        have I1 := I1'
        clear I1'
        have F1' := Lib.hid (F1.out.step b1)
        clear F1
        have F1 := F1'
        clear F1'
        have F2' := Lib.hid (F2.out.step b1)
        clear F2
        have F2 := F2'
        clear F2'
        have T1 := b1
        have Z1 := b1.size
        have ga0 := X0.out.cell 0
        have ga1 := X0.out.cell 1
        simp only [List.getElem?_toArray, List.getElem?_cons_zero, List.getElem?_cons_succ] at ga0 ga1
        have gan := X0.out.lt
        go_wp2_with fail
        refine (szFactS_any A2 c2 l2 (1048576 - szQ s1 l1) (by omega) (by omega) (by omega) _ (by first | exact F2.out | exact F2.out.step (below_drew _) | exact F2.out.step (below_alloc _ _) | exact F2.out.step (step (below_alloc _ _) (below_alloc _ _)))).mono ?_
        rintro e u2 ⟨he, d2⟩
        rw [if_pos hb2] at he
        subst he
        have b2 : Below u1.heap.size u1 u2 := by first | exact d2 | exact und d2 | exact undN d2 | exact below_new d2 | exact und (below_new d2) | exact below_new (und d2) | exact below_new (below_new d2) | exact step (below_drew _) (und (below_new d2))
        have I0' := Lib.hid (I0.out.step b2)
        clear I0
        have I0 := I0'
        clear I0'
        have I1' := Lib.hid (I1.out.step b2)
        clear I1
        have I1 := I1'
        clear I1'
        have F1' := Lib.hid (F1.out.step b2)
        clear F1
        have F1 := F1'
        clear F1'
        have F2' := Lib.hid (F2.out.step b2)
        clear F2
        have F2 := F2'
        clear F2'
        have X0' := Lib.hid (X0.out.step b2)
        clear X0
        have X0 := X0'
        clear X0'
        have T2 := step T1 b2
        have Z2 := b2.size
        have gb0 := X0.out.cell 0
        have gb1 := X0.out.cell 1
        simp only [List.getElem?_toArray, List.getElem?_cons_zero, List.getElem?_cons_succ] at gb0 gb1
        have gbn := X0.out.lt
        go_wp2
        go_ret
        exact ⟨rfl, T2⟩
      · skip
        have hl0 : s0.length ≤ 1048576 := by omega
        have hL0 : (s0.length : Int) ≤ 1048576 := by omega
        have hz : szQ s1 l1 ≤ 1048576 := by omega
        have hz1 : szF l1 ≤ 1048576 := by rw [EQ.out] at hz; omega
        have hl1 : s1.length ≤ 1048576 := by rw [EQ.out] at hz; omega
        have hz2 : szF l2 ≤ 1048576 := by omega
        have hq2 : 0 ≤ 1048576 - szQ s1 l1 := by omega
        have hq3 : 0 ≤ (1048576 - szQ s1 l1) - szF l2 := by omega
        have SM := ansT_small s0 s1 l1 l2
        have CS := Lib.hid fun (S H Q F : Option Addr) (cs ch c cf : Nat) (w : World) (h0 : RI w S s0) (h1 : RI w H s1) (h2 : RF w Q l1) (h3 : RF w F l2) => spec_AnswersOf S H Q F cs ch c cf s0 s1 l1 l2 hl0 (by omega) hz1 hz2 w h0 h1 h2 h3
        have CI := Lib.hid fun (S H Q F : Option Addr) (cs ch c cf : Nat) (w : World) (h0 : RI w S s0) (h1 : RI w H s1) (h2 : RF w Q l1) (h3 : RF w F l2) => (impl_AnswersOf S H Q F cs ch c cf s0 s1 l1 l2 hl0 (by omega) hz1 hz2 w h0 h1 h2 h3).mono fun _ _ h => h.toGX
        generalize ansT s0 s1 l1 l2 = res at SM CS CI
        obtain ⟨hzr0, hsr, he0⟩ := SM
        have hzr : res.length ≤ 1048577 := by omega
        have hsr2 : sumT res ≤ 2097152 := by omega
        have hsr' : (sumT res : Int) ≤ 4000 := by omega
        have hsn : (0 : Int) ≤ (sumT res : Int) := by omega
        have EL := Lib.hid he0
        clear he0
        have I0 := Lib.hid (show RI w A0 s0 from w0)
        have I1 := Lib.hid (show RI w H1 s1 from w1.1)
        have F1 := Lib.hid (show RF w A1 l1 from w1.2)
        have F2 := Lib.hid (show RF w A2 l2 from w2)
        have I0w := Lib.hid w0
        have I1w := Lib.hid w1
        have I2w := Lib.hid w2
        clear w0 w1 w2
        go_enter Tryz.func3, Tryz.ntmps3
        go_wp2_with fail
        refine (szQuery_any H1 A1 x1 c1 s1 l1 1048576 (by omega) (by omega) (by omega) (by omega) _ (by first | exact F1.out | exact F1.out.step (below_drew _) | exact F1.out.step (below_alloc _ _) | exact F1.out.step (step (below_alloc _ _) (below_alloc _ _)))).mono ?_
        rintro e u1 ⟨he, d1⟩
        rw [szR_pos (show ¬ (1048576 - szQ s1 l1 < 0) by omega)] at he
        subst he
        have X0 := Lib.hid (Box.of_new d1)
        have b1 : Below w.heap.size w u1 := by first | exact d1 | exact und d1 | exact undN d1 | exact below_new d1 | exact und (below_new d1) | exact below_new (und d1) | exact below_new (below_new d1) | exact step (below_drew _) (und (below_new d1))
        have I0' := Lib.hid (I0.out.step b1)
        clear I0
        have I0 := I0'
        clear I0'
        have I1' := Lib.hid (I1.out.step b1)
        clear I1
        have I1 := I1'
        clear I1'
        have F1' := Lib.hid (F1.out.step b1)
        clear F1
        have F1 := F1'
        clear F1'
        have F2' := Lib.hid (F2.out.step b1)
        clear F2
        have F2 := F2'
        clear F2'
        have T1 := b1
        have Z1 := b1.size
        have ga0 := X0.out.cell 0
        have ga1 := X0.out.cell 1
        simp only [List.getElem?_toArray, List.getElem?_cons_zero, List.getElem?_cons_succ] at ga0 ga1
        have gan := X0.out.lt
        go_wp2_with fail
        refine (szFactS_any A2 c2 l2 (1048576 - szQ s1 l1) (by omega) (by omega) (by omega) _ (by first | exact F2.out | exact F2.out.step (below_drew _) | exact F2.out.step (below_alloc _ _) | exact F2.out.step (step (below_alloc _ _) (below_alloc _ _)))).mono ?_
        rintro e u2 ⟨he, d2⟩
        rw [if_neg (show ¬ ((1048576 - szQ s1 l1) - szF l2 < 0) by omega)] at he
        subst he
        have b2 : Below u1.heap.size u1 u2 := by first | exact d2 | exact und d2 | exact undN d2 | exact below_new d2 | exact und (below_new d2) | exact below_new (und d2) | exact below_new (below_new d2) | exact step (below_drew _) (und (below_new d2))
        have I0' := Lib.hid (I0.out.step b2)
        clear I0
        have I0 := I0'
        clear I0'
        have I1' := Lib.hid (I1.out.step b2)
        clear I1
        have I1 := I1'
        clear I1'
        have F1' := Lib.hid (F1.out.step b2)
        clear F1
        have F1 := F1'
        clear F1'
        have F2' := Lib.hid (F2.out.step b2)
        clear F2
        have F2 := F2'
        clear F2'
        have X0' := Lib.hid (X0.out.step b2)
        clear X0
        have X0 := X0'
        clear X0'
        have T2 := step T1 b2
        have Z2 := b2.size
        have gb0 := X0.out.cell 0
        have gb1 := X0.out.cell 1
        simp only [List.getElem?_toArray, List.getElem?_cons_zero, List.getElem?_cons_succ] at gb0 gb1
        have gbn := X0.out.lt
        have tok3 : True := trivial
        have tok4 : True := trivial
        have tok5 : True := trivial
        have tok6 : True := trivial
        go_wp2_with fail
        go_region_held3 (fun w' => w'.cell? ⟨w.heap.size, 0, none⟩ = some (.slice H1 s1.length x1) ∧ w'.cell? ⟨w.heap.size, 1, none⟩ = some (.slice A1 l1.length c1))
          (first
            | go_keep
            | (go_split_ands; refine ⟨?_, ?_⟩ <;> (rw [d3.cell (by (try simp) <;> omega)]; assumption))
            | (go_split_ands; refine ⟨?_, ?_⟩ <;> (rw [d4.cell (by (try simp) <;> omega)]; assumption))
            | (go_split_ands; refine ⟨?_, ?_⟩ <;> (rw [d5.cell (by (try simp) <;> omega)]; assumption))
            | (go_split_ands; refine ⟨?_, ?_⟩ <;> (rw [d6.cell (by (try simp) <;> omega)]; assumption)))
          (first
            | (go_at_call 8
               clear tok3
               refine (toIntS_r A0 c0 s0 hl0 _ (by first | exact I0.out | exact I0.out.step (below_drew _) | exact I0.out.step (below_alloc _ _) | exact I0.out.step (step (below_alloc _ _) (below_alloc _ _)))).mono ?_
               rintro e u3 ⟨rfl, r3, d3, z3⟩
               have b3 : Below u2.heap.size u2 u3 := by first | exact d3 | exact und d3 | exact undN d3 | exact below_new d3 | exact und (below_new d3) | exact below_new (und d3) | exact below_new (below_new d3) | exact step (below_drew _) (und (below_new d3))
               have I0' := Lib.hid (I0.out.step b3)
               clear I0
               have I0 := I0'
               clear I0'
               have I1' := Lib.hid (I1.out.step b3)
               clear I1
               have I1 := I1'
               clear I1'
               have F1' := Lib.hid (F1.out.step b3)
               clear F1
               have F1 := F1'
               clear F1'
               have F2' := Lib.hid (F2.out.step b3)
               clear F2
               have F2 := F2'
               clear F2'
               have X0' := Lib.hid (X0.out.step b3)
               clear X0
               have X0 := X0'
               clear X0'
               have T3 := step T2 b3
               have Z3 := b3.size
               have R3 := Lib.hid r3.ri
               clear r3 z3)
            | (go_at_call 9
               clear tok4
               refine (toQuery_r H1 A1 x1 c1 s1 l1 hl1 hz1 _ (by first | exact I1.out | exact I1.out.step (below_drew _) | exact I1.out.step (below_alloc _ _) | exact I1.out.step (step (below_alloc _ _) (below_alloc _ _))) (by first | exact F1.out | exact F1.out.step (below_drew _) | exact F1.out.step (below_alloc _ _) | exact F1.out.step (step (below_alloc _ _) (below_alloc _ _)))).mono ?_
               rintro e u4 ⟨rfl, r4, d4, z4⟩
               have b4 : Below u3.heap.size u3 u4 := by first | exact d4 | exact und d4 | exact undN d4 | exact below_new d4 | exact und (below_new d4) | exact below_new (und d4) | exact below_new (below_new d4) | exact step (below_drew _) (und (below_new d4))
               have I0' := Lib.hid (I0.out.step b4)
               clear I0
               have I0 := I0'
               clear I0'
               have I1' := Lib.hid (I1.out.step b4)
               clear I1
               have I1 := I1'
               clear I1'
               have F1' := Lib.hid (F1.out.step b4)
               clear F1
               have F1 := F1'
               clear F1'
               have F2' := Lib.hid (F2.out.step b4)
               clear F2
               have F2 := F2'
               clear F2'
               have X0' := Lib.hid (X0.out.step b4)
               clear X0
               have X0 := X0'
               clear X0'
               have R3' := Lib.hid (R3.out.step b4)
               clear R3
               have R3 := R3'
               clear R3'
               have T4 := step T3 b4
               have Z4 := b4.size
               have Q4 := Lib.hid r4
               clear r4 z4)
            | (go_at_call 10
               clear tok5
               refine (toFactS_p A2 c2 l2 hz2 _ (by first | exact F2.out | exact F2.out.step (below_drew _) | exact F2.out.step (below_alloc _ _) | exact F2.out.step (step (below_alloc _ _) (below_alloc _ _)))).mono ?_
               rintro e u5 ⟨rfl, r5, d5, z5⟩
               have b5 : Below u4.heap.size u4 u5 := by first | exact d5 | exact und d5 | exact undN d5 | exact below_new d5 | exact und (below_new d5) | exact below_new (und d5) | exact below_new (below_new d5) | exact step (below_drew _) (und (below_new d5))
               have I0' := Lib.hid (I0.out.step b5)
               clear I0
               have I0 := I0'
               clear I0'
               have I1' := Lib.hid (I1.out.step b5)
               clear I1
               have I1 := I1'
               clear I1'
               have F1' := Lib.hid (F1.out.step b5)
               clear F1
               have F1 := F1'
               clear F1'
               have F2' := Lib.hid (F2.out.step b5)
               clear F2
               have F2 := F2'
               clear F2'
               have X0' := Lib.hid (X0.out.step b5)
               clear X0
               have X0 := X0'
               clear X0'
               have R3' := Lib.hid (R3.out.step b5)
               clear R3
               have R3 := R3'
               clear R3'
               have Q4' := Lib.hid (Q4.out.step b5)
               clear Q4
               have Q4 := Q4'
               clear Q4'
               have T5 := step T4 b5
               have Z5 := b5.size
               have R5 := Lib.hid r5.rf
               clear r5 z5)
            | (go_at_call 7
               clear tok6
               refine (CS.out _ _ _ _ _ _ _ _ _ (by first | exact R3.out | exact R3.out.step (below_drew _) | exact R3.out.step (below_alloc _ _) | exact R3.out.step (step (below_alloc _ _) (below_alloc _ _))) (by first | exact Q4.out.ri | exact (Q4.out.step (below_drew _)).ri | exact (Q4.out.step (below_alloc _ _)).ri) (by first | exact Q4.out.rf | exact (Q4.out.step (below_drew _)).rf | exact (Q4.out.step (below_alloc _ _)).rf) (by first | exact R5.out | exact R5.out.step (below_drew _) | exact R5.out.step (below_alloc _ _) | exact R5.out.step (step (below_alloc _ _) (below_alloc _ _)))).mono ?_
               rintro e u6 ⟨A6, c6, rfl, r6, d6⟩
               have b6 : Below u5.heap.size u5 u6 := by first | exact d6 | exact und d6 | exact undN d6 | exact below_new d6 | exact und (below_new d6) | exact below_new (und d6) | exact below_new (below_new d6) | exact step (below_drew _) (und (below_new d6))
               have I0' := Lib.hid (I0.out.step b6)
               clear I0
               have I0 := I0'
               clear I0'
               have I1' := Lib.hid (I1.out.step b6)
               clear I1
               have I1 := I1'
               clear I1'
               have F1' := Lib.hid (F1.out.step b6)
               clear F1
               have F1 := F1'
               clear F1'
               have F2' := Lib.hid (F2.out.step b6)
               clear F2
               have F2 := F2'
               clear F2'
               have X0' := Lib.hid (X0.out.step b6)
               clear X0
               have X0 := X0'
               clear X0'
               have R3' := Lib.hid (R3.out.step b6)
               clear R3
               have R3 := R3'
               clear R3'
               have Q4' := Lib.hid (Q4.out.step b6)
               clear Q4
               have Q4 := Q4'
               clear Q4'
               have R5' := Lib.hid (R5.out.step b6)
               clear R5
               have R5 := R5'
               clear R5'
               have T6 := step T5 b6
               have Z6 := b6.size
               have V6 := Lib.hid (VT.of r6)
               clear r6))
        go_wp2_with fail
        refine (toIntS_r A0 c0 s0 hl0 _ (by first | exact I0.out | exact I0.out.step (below_drew _) | exact I0.out.step (below_alloc _ _) | exact I0.out.step (step (below_alloc _ _) (below_alloc _ _)))).mono ?_
        rintro e u7 ⟨rfl, r7, d7, z7⟩
        have b7 : Below u6.heap.size u6 u7 := by first | exact d7 | exact und d7 | exact undN d7 | exact below_new d7 | exact und (below_new d7) | exact below_new (und d7) | exact below_new (below_new d7) | exact step (below_drew _) (und (below_new d7))
        have I0' := Lib.hid (I0.out.step b7)
        clear I0
        have I0 := I0'
        clear I0'
        have I1' := Lib.hid (I1.out.step b7)
        clear I1
        have I1 := I1'
        clear I1'
        have F1' := Lib.hid (F1.out.step b7)
        clear F1
        have F1 := F1'
        clear F1'
        have F2' := Lib.hid (F2.out.step b7)
        clear F2
        have F2 := F2'
        clear F2'
        have X0' := Lib.hid (X0.out.step b7)
        clear X0
        have X0 := X0'
        clear X0'
        have V6' := Lib.hid (V6.out.step b7)
        clear V6
        have V6 := V6'
        clear V6'
        have T7 := step T6 b7
        have Z7 := b7.size
        have Q7 := Lib.hid r7
        have y7 : u6.heap.size < u7.heap.size := by omega
        clear r7 z7
        have gc0 := X0.out.cell 0
        have gc1 := X0.out.cell 1
        simp only [List.getElem?_toArray, List.getElem?_cons_zero, List.getElem?_cons_succ] at gc0 gc1
        have gcn := X0.out.lt
        go_wp2_with fail
        refine (toQuery_r H1 A1 x1 c1 s1 l1 hl1 hz1 _ (by first | exact I1.out | exact I1.out.step (below_drew _) | exact I1.out.step (below_alloc _ _) | exact I1.out.step (step (below_alloc _ _) (below_alloc _ _))) (by first | exact F1.out | exact F1.out.step (below_drew _) | exact F1.out.step (below_alloc _ _) | exact F1.out.step (step (below_alloc _ _) (below_alloc _ _)))).mono ?_
        rintro e u8 ⟨rfl, r8, d8, z8⟩
        have b8 : Below u7.heap.size u7 u8 := by first | exact d8 | exact und d8 | exact undN d8 | exact below_new d8 | exact und (below_new d8) | exact below_new (und d8) | exact below_new (below_new d8) | exact step (below_drew _) (und (below_new d8))
        have I0' := Lib.hid (I0.out.step b8)
        clear I0
        have I0 := I0'
        clear I0'
        have I1' := Lib.hid (I1.out.step b8)
        clear I1
        have I1 := I1'
        clear I1'
        have F1' := Lib.hid (F1.out.step b8)
        clear F1
        have F1 := F1'
        clear F1'
        have F2' := Lib.hid (F2.out.step b8)
        clear F2
        have F2 := F2'
        clear F2'
        have X0' := Lib.hid (X0.out.step b8)
        clear X0
        have X0 := X0'
        clear X0'
        have V6' := Lib.hid (V6.out.step b8)
        clear V6
        have V6 := V6'
        clear V6'
        have Q7' := Lib.hid (Q7.out.step b8)
        clear Q7
        have Q7 := Q7'
        clear Q7'
        have T8 := step T7 b8
        have Z8 := b8.size
        have Q8 := Lib.hid r8
        have y8 := z8
        clear r8 z8
        go_wp2_with fail
        refine (toFactS_p A2 c2 l2 hz2 _ (by first | exact F2.out | exact F2.out.step (below_drew _) | exact F2.out.step (below_alloc _ _) | exact F2.out.step (step (below_alloc _ _) (below_alloc _ _)))).mono ?_
        rintro e u9 ⟨rfl, r9, d9, z9⟩
        have Y0 := Lib.hid (Box.of_new d9)
        have b9 : Below u8.heap.size u8 u9 := by first | exact d9 | exact und d9 | exact undN d9 | exact below_new d9 | exact und (below_new d9) | exact below_new (und d9) | exact below_new (below_new d9) | exact step (below_drew _) (und (below_new d9))
        have I0' := Lib.hid (I0.out.step b9)
        clear I0
        have I0 := I0'
        clear I0'
        have I1' := Lib.hid (I1.out.step b9)
        clear I1
        have I1 := I1'
        clear I1'
        have F1' := Lib.hid (F1.out.step b9)
        clear F1
        have F1 := F1'
        clear F1'
        have F2' := Lib.hid (F2.out.step b9)
        clear F2
        have F2 := F2'
        clear F2'
        have X0' := Lib.hid (X0.out.step b9)
        clear X0
        have X0 := X0'
        clear X0'
        have V6' := Lib.hid (V6.out.step b9)
        clear V6
        have V6 := V6'
        clear V6'
        have Q7' := Lib.hid (Q7.out.step b9)
        clear Q7
        have Q7 := Q7'
        clear Q7'
        have Q8' := Lib.hid (Q8.out.step b9)
        clear Q8
        have Q8 := Q8'
        clear Q8'
        have T9 := step T8 b9
        have Z9 := b9.size
        rw [al_size] at r9 z9
        have Q9 := Lib.hid r9
        have y9 := z9
        clear r9 z9
        have gd0 := Y0.out.cell 0
        have gd1 := Y0.out.cell 1
        simp only [List.getElem?_toArray, List.getElem?_cons_zero, List.getElem?_cons_succ] at gd0 gd1
        have gdn := Y0.out.lt
        go_wp2_with fail
        refine (CI.out _ _ _ _ _ _ _ _ _ (by first | exact Q7.out.ri | exact (Q7.out.step (below_drew _)).ri | exact (Q7.out.step (below_alloc _ _)).ri) (by first | exact Q8.out.ri | exact (Q8.out.step (below_drew _)).ri | exact (Q8.out.step (below_alloc _ _)).ri) (by first | exact Q8.out.rf | exact (Q8.out.step (below_drew _)).rf | exact (Q8.out.step (below_alloc _ _)).rf) (by first | exact Q9.out.rf | exact (Q9.out.step (below_drew _)).rf | exact (Q9.out.step (below_alloc _ _)).rf)).mono ?_
        rintro e u10 ⟨A10, c10, rfl, r10, d10⟩
        have b10 : Below u9.heap.size u9 u10 := by first | exact d10 | exact und d10 | exact undN d10 | exact below_new d10 | exact und (below_new d10) | exact below_new (und d10) | exact below_new (below_new d10) | exact step (below_drew _) (und (below_new d10))
        have I0' := Lib.hid (I0.out.step b10)
        clear I0
        have I0 := I0'
        clear I0'
        have I1' := Lib.hid (I1.out.step b10)
        clear I1
        have I1 := I1'
        clear I1'
        have F1' := Lib.hid (F1.out.step b10)
        clear F1
        have F1 := F1'
        clear F1'
        have F2' := Lib.hid (F2.out.step b10)
        clear F2
        have F2 := F2'
        clear F2'
        have X0' := Lib.hid (X0.out.step b10)
        clear X0
        have X0 := X0'
        clear X0'
        have V6' := Lib.hid (V6.out.step b10)
        clear V6
        have V6 := V6'
        clear V6'
        have Q7' := Lib.hid (Q7.out.step b10)
        clear Q7
        have Q7 := Q7'
        clear Q7'
        have Q8' := Lib.hid (Q8.out.step b10)
        clear Q8
        have Q8 := Q8'
        clear Q8'
        have Q9' := Lib.hid (Q9.out.step b10)
        clear Q9
        have Q9 := Q9'
        clear Q9'
        have Y0' := Lib.hid (Y0.out.step b10)
        clear Y0
        have Y0 := Y0'
        clear Y0'
        have T10 := step T9 b10
        have Z10 := b10.size
        have G10 := Lib.hid r10
        clear r10
        go_wp2_with fail
        refine (eqIntSS_b _ _ _ _ res hzr EL.out _ (by first | exact G10.out.rt | exact (G10.out.step (below_drew _)).rt | exact (G10.out.step (below_alloc _ _)).rt) (by first | exact V6.out.rt | exact (V6.out.step (below_drew _)).rt | exact (V6.out.step (below_alloc _ _)).rt)).mono ?_
        rintro e u11 ⟨rfl, d11⟩
        have b11 : Below u10.heap.size u10 u11 := by first | exact d11 | exact und d11 | exact undN d11 | exact below_new d11 | exact und (below_new d11) | exact below_new (und d11) | exact below_new (below_new d11) | exact step (below_drew _) (und (below_new d11))
        have I0' := Lib.hid (I0.out.step b11)
        clear I0
        have I0 := I0'
        clear I0'
        have I1' := Lib.hid (I1.out.step b11)
        clear I1
        have I1 := I1'
        clear I1'
        have F1' := Lib.hid (F1.out.step b11)
        clear F1
        have F1 := F1'
        clear F1'
        have F2' := Lib.hid (F2.out.step b11)
        clear F2
        have F2 := F2'
        clear F2'
        have X0' := Lib.hid (X0.out.step b11)
        clear X0
        have X0 := X0'
        clear X0'
        have V6' := Lib.hid (V6.out.step b11)
        clear V6
        have V6 := V6'
        clear V6'
        have Q7' := Lib.hid (Q7.out.step b11)
        clear Q7
        have Q7 := Q7'
        clear Q7'
        have Q8' := Lib.hid (Q8.out.step b11)
        clear Q8
        have Q8 := Q8'
        clear Q8'
        have Q9' := Lib.hid (Q9.out.step b11)
        clear Q9
        have Q9 := Q9'
        clear Q9'
        have Y0' := Lib.hid (Y0.out.step b11)
        clear Y0
        have Y0 := Y0'
        clear Y0'
        have G10' := Lib.hid (G10.out.step b11)
        clear G10
        have G10 := G10'
        clear G10'
        have T11 := step T10 b11
        have Z11 := b11.size
        go_wp2_with fail
        refine (toIntS_r A0 c0 s0 hl0 _ (by first | exact I0.out | exact I0.out.step (below_drew _) | exact I0.out.step (below_alloc _ _) | exact I0.out.step (step (below_alloc _ _) (below_alloc _ _)))).mono ?_
        rintro e u12 ⟨rfl, r12, d12, z12⟩
        have b12 : Below u11.heap.size u11 u12 := by first | exact d12 | exact und d12 | exact undN d12 | exact below_new d12 | exact und (below_new d12) | exact below_new (und d12) | exact below_new (below_new d12) | exact step (below_drew _) (und (below_new d12))
        have I0' := Lib.hid (I0.out.step b12)
        clear I0
        have I0 := I0'
        clear I0'
        have I1' := Lib.hid (I1.out.step b12)
        clear I1
        have I1 := I1'
        clear I1'
        have F1' := Lib.hid (F1.out.step b12)
        clear F1
        have F1 := F1'
        clear F1'
        have F2' := Lib.hid (F2.out.step b12)
        clear F2
        have F2 := F2'
        clear F2'
        have X0' := Lib.hid (X0.out.step b12)
        clear X0
        have X0 := X0'
        clear X0'
        have V6' := Lib.hid (V6.out.step b12)
        clear V6
        have V6 := V6'
        clear V6'
        have Q7' := Lib.hid (Q7.out.step b12)
        clear Q7
        have Q7 := Q7'
        clear Q7'
        have Q8' := Lib.hid (Q8.out.step b12)
        clear Q8
        have Q8 := Q8'
        clear Q8'
        have Q9' := Lib.hid (Q9.out.step b12)
        clear Q9
        have Q9 := Q9'
        clear Q9'
        have Y0' := Lib.hid (Y0.out.step b12)
        clear Y0
        have Y0 := Y0'
        clear Y0'
        have G10' := Lib.hid (G10.out.step b12)
        clear G10
        have G10 := G10'
        clear G10'
        have T12 := step T11 b12
        have Z12 := b12.size
        have R12 := Lib.hid r12.ri
        clear r12 z12
        go_wp2_with fail
        refine (eqIntS_r _ _ _ _ s0 hl0 _ (by first | exact Q7.out.ri | exact (Q7.out.step (below_drew _)).ri | exact (Q7.out.step (below_alloc _ _)).ri) (by first | exact R12.out | exact R12.out.step (below_drew _) | exact R12.out.step (below_alloc _ _) | exact R12.out.step (step (below_alloc _ _) (below_alloc _ _)))).mono ?_
        rintro e u13 ⟨rfl, d13⟩
        have b13 : Below u12.heap.size u12 u13 := by first | exact d13 | exact und d13 | exact undN d13 | exact below_new d13 | exact und (below_new d13) | exact below_new (und d13) | exact below_new (below_new d13) | exact step (below_drew _) (und (below_new d13))
        have I0' := Lib.hid (I0.out.step b13)
        clear I0
        have I0 := I0'
        clear I0'
        have I1' := Lib.hid (I1.out.step b13)
        clear I1
        have I1 := I1'
        clear I1'
        have F1' := Lib.hid (F1.out.step b13)
        clear F1
        have F1 := F1'
        clear F1'
        have F2' := Lib.hid (F2.out.step b13)
        clear F2
        have F2 := F2'
        clear F2'
        have X0' := Lib.hid (X0.out.step b13)
        clear X0
        have X0 := X0'
        clear X0'
        have V6' := Lib.hid (V6.out.step b13)
        clear V6
        have V6 := V6'
        clear V6'
        have Q7' := Lib.hid (Q7.out.step b13)
        clear Q7
        have Q7 := Q7'
        clear Q7'
        have Q8' := Lib.hid (Q8.out.step b13)
        clear Q8
        have Q8 := Q8'
        clear Q8'
        have Q9' := Lib.hid (Q9.out.step b13)
        clear Q9
        have Q9 := Q9'
        clear Q9'
        have Y0' := Lib.hid (Y0.out.step b13)
        clear Y0
        have Y0 := Y0'
        clear Y0'
        have G10' := Lib.hid (G10.out.step b13)
        clear G10
        have G10 := G10'
        clear G10'
        have R12' := Lib.hid (R12.out.step b13)
        clear R12
        have R12 := R12'
        clear R12'
        have T13 := step T12 b13
        have Z13 := b13.size
        have ge0 := X0.out.cell 0
        have ge1 := X0.out.cell 1
        simp only [List.getElem?_toArray, List.getElem?_cons_zero, List.getElem?_cons_succ] at ge0 ge1
        have gen := X0.out.lt
        have gf0 := Y0.out.cell 0
        have gf1 := Y0.out.cell 1
        simp only [List.getElem?_toArray, List.getElem?_cons_zero, List.getElem?_cons_succ] at gf0 gf1
        have gfn := Y0.out.lt
        have tok14 : True := trivial
        have tok15 : True := trivial
        go_wp2_with fail
        go_region_held3 (fun w' => w'.cell? ⟨w.heap.size, 0, none⟩ = some (.slice H1 s1.length x1) ∧ w'.cell? ⟨w.heap.size, 1, none⟩ = some (.slice A1 l1.length c1) ∧ w'.cell? ⟨u8.heap.size, 0, none⟩ = some (.slice (some ⟨u7.heap.size + 3, 0, none⟩) s1.length s1.length) ∧ w'.cell? ⟨u8.heap.size, 1, none⟩ = some (.slice (some ⟨u7.heap.size + 3 + 1, 0, none⟩) l1.length l1.length))
          (first
            | go_keep
            | (go_split_ands; refine ⟨?_, ?_, ?_, ?_⟩ <;> (rw [d14.cell (by (try simp) <;> omega)]; assumption))
            | (go_split_ands; refine ⟨?_, ?_, ?_, ?_⟩ <;> (rw [d15.cell (by (try simp) <;> omega)]; assumption)))
          (first
            | (go_at_call 9
               clear tok14
               refine (toQuery_r H1 A1 x1 c1 s1 l1 hl1 hz1 _ (by first | exact I1.out | exact I1.out.step (below_drew _) | exact I1.out.step (below_alloc _ _) | exact I1.out.step (step (below_alloc _ _) (below_alloc _ _))) (by first | exact F1.out | exact F1.out.step (below_drew _) | exact F1.out.step (below_alloc _ _) | exact F1.out.step (step (below_alloc _ _) (below_alloc _ _)))).mono ?_
               rintro e u14 ⟨rfl, r14, d14, z14⟩
               have b14 : Below u13.heap.size u13 u14 := by first | exact d14 | exact und d14 | exact undN d14 | exact below_new d14 | exact und (below_new d14) | exact below_new (und d14) | exact below_new (below_new d14) | exact step (below_drew _) (und (below_new d14))
               have I0' := Lib.hid (I0.out.step b14)
               clear I0
               have I0 := I0'
               clear I0'
               have I1' := Lib.hid (I1.out.step b14)
               clear I1
               have I1 := I1'
               clear I1'
               have F1' := Lib.hid (F1.out.step b14)
               clear F1
               have F1 := F1'
               clear F1'
               have F2' := Lib.hid (F2.out.step b14)
               clear F2
               have F2 := F2'
               clear F2'
               have X0' := Lib.hid (X0.out.step b14)
               clear X0
               have X0 := X0'
               clear X0'
               have V6' := Lib.hid (V6.out.step b14)
               clear V6
               have V6 := V6'
               clear V6'
               have Q7' := Lib.hid (Q7.out.step b14)
               clear Q7
               have Q7 := Q7'
               clear Q7'
               have Q8' := Lib.hid (Q8.out.step b14)
               clear Q8
               have Q8 := Q8'
               clear Q8'
               have Q9' := Lib.hid (Q9.out.step b14)
               clear Q9
               have Q9 := Q9'
               clear Q9'
               have Y0' := Lib.hid (Y0.out.step b14)
               clear Y0
               have Y0 := Y0'
               clear Y0'
               have G10' := Lib.hid (G10.out.step b14)
               clear G10
               have G10 := G10'
               clear G10'
               have T14 := step T13 b14
               have Z14 := b14.size
               have Q14 := Lib.hid r14
               clear r14 z14)
            | (go_at_call 14
               clear tok15
               refine (eqQuery_b _ _ _ _ _ _ _ _ s1 l1 hl1 (by omega) _ (by first | exact Q8.out.ri | exact (Q8.out.step (below_drew _)).ri | exact (Q8.out.step (below_alloc _ _)).ri) (by first | exact Q8.out.rf | exact (Q8.out.step (below_drew _)).rf | exact (Q8.out.step (below_alloc _ _)).rf) (by first | exact Q14.out.ri | exact (Q14.out.step (below_drew _)).ri | exact (Q14.out.step (below_alloc _ _)).ri) (by first | exact Q14.out.rf | exact (Q14.out.step (below_drew _)).rf | exact (Q14.out.step (below_alloc _ _)).rf)).mono ?_
               rintro e u15 ⟨rfl, d15⟩
               have b15 : Below u14.heap.size u14 u15 := by first | exact d15 | exact und d15 | exact undN d15 | exact below_new d15 | exact und (below_new d15) | exact below_new (und d15) | exact below_new (below_new d15) | exact step (below_drew _) (und (below_new d15))
               have I0' := Lib.hid (I0.out.step b15)
               clear I0
               have I0 := I0'
               clear I0'
               have I1' := Lib.hid (I1.out.step b15)
               clear I1
               have I1 := I1'
               clear I1'
               have F1' := Lib.hid (F1.out.step b15)
               clear F1
               have F1 := F1'
               clear F1'
               have F2' := Lib.hid (F2.out.step b15)
               clear F2
               have F2 := F2'
               clear F2'
               have X0' := Lib.hid (X0.out.step b15)
               clear X0
               have X0 := X0'
               clear X0'
               have V6' := Lib.hid (V6.out.step b15)
               clear V6
               have V6 := V6'
               clear V6'
               have Q7' := Lib.hid (Q7.out.step b15)
               clear Q7
               have Q7 := Q7'
               clear Q7'
               have Q8' := Lib.hid (Q8.out.step b15)
               clear Q8
               have Q8 := Q8'
               clear Q8'
               have Q9' := Lib.hid (Q9.out.step b15)
               clear Q9
               have Q9 := Q9'
               clear Q9'
               have Y0' := Lib.hid (Y0.out.step b15)
               clear Y0
               have Y0 := Y0'
               clear Y0'
               have G10' := Lib.hid (G10.out.step b15)
               clear G10
               have G10 := G10'
               clear G10'
               have Q14' := Lib.hid (Q14.out.step b15)
               clear Q14
               have Q14 := Q14'
               clear Q14'
               have T15 := step T14 b15
               have Z15 := b15.size))
        go_wp2_with fail
        refine (toFactS_r A2 c2 l2 hz2 _ (by first | exact F2.out | exact F2.out.step (below_drew _) | exact F2.out.step (below_alloc _ _) | exact F2.out.step (step (below_alloc _ _) (below_alloc _ _)))).mono ?_
        rintro e u16 ⟨rfl, r16, d16, z16⟩
        have b16 : Below u15.heap.size u15 u16 := by first | exact d16 | exact und d16 | exact undN d16 | exact below_new d16 | exact und (below_new d16) | exact below_new (und d16) | exact below_new (below_new d16) | exact step (below_drew _) (und (below_new d16))
        have I0' := Lib.hid (I0.out.step b16)
        clear I0
        have I0 := I0'
        clear I0'
        have I1' := Lib.hid (I1.out.step b16)
        clear I1
        have I1 := I1'
        clear I1'
        have F1' := Lib.hid (F1.out.step b16)
        clear F1
        have F1 := F1'
        clear F1'
        have F2' := Lib.hid (F2.out.step b16)
        clear F2
        have F2 := F2'
        clear F2'
        have X0' := Lib.hid (X0.out.step b16)
        clear X0
        have X0 := X0'
        clear X0'
        have V6' := Lib.hid (V6.out.step b16)
        clear V6
        have V6 := V6'
        clear V6'
        have Q7' := Lib.hid (Q7.out.step b16)
        clear Q7
        have Q7 := Q7'
        clear Q7'
        have Q8' := Lib.hid (Q8.out.step b16)
        clear Q8
        have Q8 := Q8'
        clear Q8'
        have Q9' := Lib.hid (Q9.out.step b16)
        clear Q9
        have Q9 := Q9'
        clear Q9'
        have Y0' := Lib.hid (Y0.out.step b16)
        clear Y0
        have Y0 := Y0'
        clear Y0'
        have G10' := Lib.hid (G10.out.step b16)
        clear G10
        have G10 := G10'
        clear G10'
        have T16 := step T15 b16
        have Z16 := b16.size
        have R16 := Lib.hid r16
        clear r16 z16
        go_wp2_with fail
        refine (eqFactS_r _ _ _ _ l2 hz2 _ (by first | exact Q9.out.rf | exact (Q9.out.step (below_drew _)).rf | exact (Q9.out.step (below_alloc _ _)).rf) (by first | exact R16.out | exact R16.out.step (below_drew _) | exact R16.out.step (below_alloc _ _) | exact R16.out.step (step (below_alloc _ _) (below_alloc _ _)))).mono ?_
        rintro e u17 ⟨rfl, d17⟩
        have b17 : Below u16.heap.size u16 u17 := by first | exact d17 | exact und d17 | exact undN d17 | exact below_new d17 | exact und (below_new d17) | exact below_new (und d17) | exact below_new (below_new d17) | exact step (below_drew _) (und (below_new d17))
        have I0' := Lib.hid (I0.out.step b17)
        clear I0
        have I0 := I0'
        clear I0'
        have I1' := Lib.hid (I1.out.step b17)
        clear I1
        have I1 := I1'
        clear I1'
        have F1' := Lib.hid (F1.out.step b17)
        clear F1
        have F1 := F1'
        clear F1'
        have F2' := Lib.hid (F2.out.step b17)
        clear F2
        have F2 := F2'
        clear F2'
        have X0' := Lib.hid (X0.out.step b17)
        clear X0
        have X0 := X0'
        clear X0'
        have V6' := Lib.hid (V6.out.step b17)
        clear V6
        have V6 := V6'
        clear V6'
        have Q7' := Lib.hid (Q7.out.step b17)
        clear Q7
        have Q7 := Q7'
        clear Q7'
        have Q8' := Lib.hid (Q8.out.step b17)
        clear Q8
        have Q8 := Q8'
        clear Q8'
        have Q9' := Lib.hid (Q9.out.step b17)
        clear Q9
        have Q9 := Q9'
        clear Q9'
        have Y0' := Lib.hid (Y0.out.step b17)
        clear Y0
        have Y0 := Y0'
        clear Y0'
        have G10' := Lib.hid (G10.out.step b17)
        clear G10
        have G10 := G10'
        clear G10'
        have R16' := Lib.hid (R16.out.step b17)
        clear R16
        have R16 := R16'
        clear R16'
        have T17 := step T16 b17
        have Z17 := b17.size
        have gg0 := Y0.out.cell 0
        have gg1 := Y0.out.cell 1
        simp only [List.getElem?_toArray, List.getElem?_cons_zero, List.getElem?_cons_succ] at gg0 gg1
        have ggn := Y0.out.lt
        have wz : w.heap.size ≤ u6.heap.size := by omega
        have q4 := Q8.out.lt
        have gl := G10.out.1
        go_wp2_with fail
        refine (markIntS_x u6.heap.size _ 1 s0 hl0 (by omega) (by omega) _ Q7.out).mono ?_
        rintro e v0 ⟨rfl, W0⟩
        have sv0 : v0.heap.size = u17.heap.size := W0.size
        have Va := Lib.hid (V6.out.keep (w' := v0) (fun b h2 => W0.block b (.inl h2)) (by omega))
        have Ga := Lib.hid (G10.out.keep (w' := v0) (fun b h1 _ => W0.block b (.inr (by omega))) (by omega))
        have QOa := Lib.hid ((Q8.out.qo hl1).keep (w' := v0) (fun b h1 _ => W0.block b (.inr (by omega))) (by omega))
        have Qfa := Lib.hid (Q9.out.keep (w' := v0) (fun b h1 _ => W0.block b (.inr (by omega))) (by omega))
        have Y0a := Lib.hid (show Box v0 u8.heap.size _ _ from (W0.block _ (.inr (by omega))).trans Y0.out)
        have X0a := Lib.hid (show Box v0 w.heap.size _ _ from (W0.block _ (.inl (by have := X0.out.lt; omega))).trans X0.out)
        have TA := Lib.hid (T17.trans (W0.below.mono wz))
        have gg0 := Y0a.out.cell 0
        have gg1 := Y0a.out.cell 1
        simp only [List.getElem?_toArray, List.getElem?_cons_zero, List.getElem?_cons_succ] at gg0 gg1
        clear W0 V6 G10 Q8 Q9 Y0 X0 Q7
        go_wp2_with fail
        refine (markQuery_o (u7.heap.size + 3) (u7.heap.size + 3 + 1) u8.heap.size _ _ _ _ s1 l1 (1 + (s0.length : Int)) (by omega) (by omega) hz _ QOa.out).mono ?_
        rintro e v1 ⟨rfl, M1, _⟩
        have sv1 : v0.heap.size ≤ v1.heap.size := M1.below.size
        have Vb := Lib.hid (Va.out.keep (w' := v1) (fun b h2 => M1.keep (.inl (by omega)) (by omega)) sv1)
        have Gb := Lib.hid (Ga.out.keep (w' := v1) (fun b h1 h2 => M1.keep (.inr (by omega)) (by omega)) sv1)
        have Qfb := Lib.hid (Qfa.out.keep (w' := v1) (fun b h1 h2 => M1.keep (.inr (by omega)) (by omega)) sv1)
        have X0b := Lib.hid (show Box v1 w.heap.size _ _ from (M1.keep (.inl (by omega)) X0a.out.lt).trans X0a.out)
        have TB := Lib.hid (TA.out.trans (M1.below.mono (by omega)))
        have hk1 : 0 ≤ 1 + (s0.length : Int) + szQ s1 l1 := by omega
        clear M1 Va Ga QOa Qfa Y0a X0a TA gg0 gg1
        go_wp2_with fail
        refine (markFactS_any (u8.heap.size + 1) u9.heap.size (u8.heap.size + 1) (l2.length * 2) _ (1 + (s0.length : Int) + szQ s1 l1) l2 (by omega) (by omega) (by omega) (Nat.le_refl _) _ Qfb.out.1).mono ?_
        rintro e v2 ⟨rfl, _, W2⟩
        have sv2 : v2.heap.size = v1.heap.size := W2.size
        have Vc := Lib.hid (Vb.out.keep (w' := v2) (fun b h2 => W2.block b (.inl (by omega))) (by omega))
        have Gc := Lib.hid (Gb.out.keep (w' := v2) (fun b h1 h2 => W2.block b (.inr (by omega))) (by omega))
        have X0c := Lib.hid (show Box v2 w.heap.size _ _ from (W2.block _ (.inl (by omega))).trans X0b.out)
        have TC := Lib.hid (TB.out.trans (W2.below.mono (by omega)))
        have hk2 : 0 ≤ 1 + (s0.length : Int) + szQ s1 l1 + szF l2 := by omega
        have hk2' : ¬ (1 + (s0.length : Int) + szQ s1 l1 + szF l2 < 0) := by omega
        clear W2 Vb Gb Qfb X0b TB
        go_wp2_with fail
        refine (eqIntSS_b _ _ _ _ res hzr EL.out _ Gc.out.rt Vc.out.rt).mono ?_
        rintro e v3 ⟨rfl, D3⟩
        have Vd := Lib.hid (Vc.out.step D3)
        have Gd := Lib.hid (Gc.out.step D3)
        have X0d := Lib.hid (X0c.out.step D3)
        have TD := Lib.hid (step TC.out D3)
        have sv3 := D3.size
        clear D3 Vc Gc X0c TC
        go_wp2_with fail
        refine (markIntSS_g u9.heap.size u10.heap.size _ _ _ res hzr hsr2 EL.out _ Gd.out).mono ?_
        rintro e v4 ⟨rfl, hr4, W4⟩
        have sv4 : v3.heap.size ≤ v4.heap.size := by rw [W4.size]; exact Nat.le_refl _
        have Ve := Lib.hid (Vd.out.keep (w' := v4) (fun b h2 => W4.block b (.inl (by omega))) (by omega))
        have X0e := Lib.hid (show Box v4 w.heap.size _ _ from (W4.block _ (.inl (by omega))).trans X0d.out)
        have TV := TD.out.trans (W4.below.mono (by omega))
        have HR := Lib.hid hr4
        have I0v := Lib.hid ((show RI w A0 s0 from I0w.out).step TV)
        have I1v := Lib.hid ((show RI w H1 s1 from I1w.out.1).step TV)
        have F1v := Lib.hid ((show RF w A1 l1 from I1w.out.2).step TV)
        have F2v := Lib.hid ((show RF w A2 l2 from I2w.out).step TV)
        have hm0 : ¬ (1 + (sumT res : Int) < 0) := by omega
        have hm1 : 0 ≤ 1 + (sumT res : Int) := by omega
        clear W4 hr4 Vd Gd X0d TD
        go_wp2_with fail
        refine (heldIntSS_any A10 _ 1 res hzr hsr2 EL.out (by omega) (by omega) _ HR.out).mono ?_
        rintro e v5 ⟨rfl, rfl⟩
        have gh0 := X0e.out.cell 0
        have gh1 := X0e.out.cell 1
        simp only [List.getElem?_toArray, List.getElem?_cons_zero, List.getElem?_cons_succ] at gh0 gh1
        have ghn := X0e.out.lt
        have tok51 : True := trivial
        have tok52 : True := trivial
        have tok53 : True := trivial
        have tok54 : True := trivial
        go_wp2_with fail
        go_region_held3 (fun w' => w'.cell? ⟨w.heap.size, 0, none⟩ = some (.slice H1 s1.length x1) ∧ w'.cell? ⟨w.heap.size, 1, none⟩ = some (.slice A1 l1.length c1))
          (first
            | go_keep
            | (go_split_ands; refine ⟨?_, ?_⟩ <;> (rw [d51.cell (by (try simp) <;> omega)]; assumption))
            | (go_split_ands; refine ⟨?_, ?_⟩ <;> (rw [d52.cell (by (try simp) <;> omega)]; assumption))
            | (go_split_ands; refine ⟨?_, ?_⟩ <;> (rw [d53.cell (by (try simp) <;> omega)]; assumption))
            | (go_split_ands; refine ⟨?_, ?_⟩ <;> (rw [d54.cell (by (try simp) <;> omega)]; assumption)))
          (first
            | (go_at_call 8
               clear tok51
               refine (toIntS_r A0 c0 s0 hl0 _ (by first | exact I0v.out | exact I0v.out.step (below_drew _) | exact I0v.out.step (below_alloc _ _) | exact I0v.out.step (step (below_alloc _ _) (below_alloc _ _)))).mono ?_
               rintro e u51 ⟨rfl, r51, d51, z51⟩
               have b51 : Below v4.heap.size v4 u51 := by first | exact d51 | exact und d51 | exact undN d51 | exact below_new d51 | exact und (below_new d51) | exact below_new (und d51) | exact below_new (below_new d51) | exact step (below_drew _) (und (below_new d51))
               have I0v' := Lib.hid (I0v.out.step b51)
               clear I0v
               have I0v := I0v'
               clear I0v'
               have I1v' := Lib.hid (I1v.out.step b51)
               clear I1v
               have I1v := I1v'
               clear I1v'
               have F1v' := Lib.hid (F1v.out.step b51)
               clear F1v
               have F1v := F1v'
               clear F1v'
               have F2v' := Lib.hid (F2v.out.step b51)
               clear F2v
               have F2v := F2v'
               clear F2v'
               have X0e' := Lib.hid (X0e.out.step b51)
               clear X0e
               have X0e := X0e'
               clear X0e'
               have Ve' := Lib.hid (Ve.out.step b51)
               clear Ve
               have Ve := Ve'
               clear Ve'
               have HR' := Lib.hid (HR.out.step b51)
               clear HR
               have HR := HR'
               clear HR'
               have T51 := step TV b51
               have Z51 := b51.size
               have R51 := Lib.hid r51.ri
               clear r51 z51)
            | (go_at_call 9
               clear tok52
               refine (toQuery_r H1 A1 x1 c1 s1 l1 hl1 hz1 _ (by first | exact I1v.out | exact I1v.out.step (below_drew _) | exact I1v.out.step (below_alloc _ _) | exact I1v.out.step (step (below_alloc _ _) (below_alloc _ _))) (by first | exact F1v.out | exact F1v.out.step (below_drew _) | exact F1v.out.step (below_alloc _ _) | exact F1v.out.step (step (below_alloc _ _) (below_alloc _ _)))).mono ?_
               rintro e u52 ⟨rfl, r52, d52, z52⟩
               have b52 : Below u51.heap.size u51 u52 := by first | exact d52 | exact und d52 | exact undN d52 | exact below_new d52 | exact und (below_new d52) | exact below_new (und d52) | exact below_new (below_new d52) | exact step (below_drew _) (und (below_new d52))
               have I0v' := Lib.hid (I0v.out.step b52)
               clear I0v
               have I0v := I0v'
               clear I0v'
               have I1v' := Lib.hid (I1v.out.step b52)
               clear I1v
               have I1v := I1v'
               clear I1v'
               have F1v' := Lib.hid (F1v.out.step b52)
               clear F1v
               have F1v := F1v'
               clear F1v'
               have F2v' := Lib.hid (F2v.out.step b52)
               clear F2v
               have F2v := F2v'
               clear F2v'
               have X0e' := Lib.hid (X0e.out.step b52)
               clear X0e
               have X0e := X0e'
               clear X0e'
               have Ve' := Lib.hid (Ve.out.step b52)
               clear Ve
               have Ve := Ve'
               clear Ve'
               have HR' := Lib.hid (HR.out.step b52)
               clear HR
               have HR := HR'
               clear HR'
               have R51' := Lib.hid (R51.out.step b52)
               clear R51
               have R51 := R51'
               clear R51'
               have T52 := step T51 b52
               have Z52 := b52.size
               have Q52 := Lib.hid r52
               clear r52 z52)
            | (go_at_call 10
               clear tok53
               refine (toFactS_p A2 c2 l2 hz2 _ (by first | exact F2v.out | exact F2v.out.step (below_drew _) | exact F2v.out.step (below_alloc _ _) | exact F2v.out.step (step (below_alloc _ _) (below_alloc _ _)))).mono ?_
               rintro e u53 ⟨rfl, r53, d53, z53⟩
               have b53 : Below u52.heap.size u52 u53 := by first | exact d53 | exact und d53 | exact undN d53 | exact below_new d53 | exact und (below_new d53) | exact below_new (und d53) | exact below_new (below_new d53) | exact step (below_drew _) (und (below_new d53))
               have I0v' := Lib.hid (I0v.out.step b53)
               clear I0v
               have I0v := I0v'
               clear I0v'
               have I1v' := Lib.hid (I1v.out.step b53)
               clear I1v
               have I1v := I1v'
               clear I1v'
               have F1v' := Lib.hid (F1v.out.step b53)
               clear F1v
               have F1v := F1v'
               clear F1v'
               have F2v' := Lib.hid (F2v.out.step b53)
               clear F2v
               have F2v := F2v'
               clear F2v'
               have X0e' := Lib.hid (X0e.out.step b53)
               clear X0e
               have X0e := X0e'
               clear X0e'
               have Ve' := Lib.hid (Ve.out.step b53)
               clear Ve
               have Ve := Ve'
               clear Ve'
               have HR' := Lib.hid (HR.out.step b53)
               clear HR
               have HR := HR'
               clear HR'
               have R51' := Lib.hid (R51.out.step b53)
               clear R51
               have R51 := R51'
               clear R51'
               have Q52' := Lib.hid (Q52.out.step b53)
               clear Q52
               have Q52 := Q52'
               clear Q52'
               have T53 := step T52 b53
               have Z53 := b53.size
               have R53 := Lib.hid r53.rf
               clear r53 z53)
            | (go_at_call 11
               clear tok54
               refine (CI.out _ _ _ _ _ _ _ _ _ (by first | exact R51.out | exact R51.out.step (below_drew _) | exact R51.out.step (below_alloc _ _) | exact R51.out.step (step (below_alloc _ _) (below_alloc _ _))) (by first | exact Q52.out.ri | exact (Q52.out.step (below_drew _)).ri | exact (Q52.out.step (below_alloc _ _)).ri) (by first | exact Q52.out.rf | exact (Q52.out.step (below_drew _)).rf | exact (Q52.out.step (below_alloc _ _)).rf) (by first | exact R53.out | exact R53.out.step (below_drew _) | exact R53.out.step (below_alloc _ _) | exact R53.out.step (step (below_alloc _ _) (below_alloc _ _)))).mono ?_
               rintro e u54 ⟨A54, c54, rfl, r54, d54⟩
               have b54 : Below u53.heap.size u53 u54 := by first | exact d54 | exact und d54 | exact undN d54 | exact below_new d54 | exact und (below_new d54) | exact below_new (und d54) | exact below_new (below_new d54) | exact step (below_drew _) (und (below_new d54))
               have I0v' := Lib.hid (I0v.out.step b54)
               clear I0v
               have I0v := I0v'
               clear I0v'
               have I1v' := Lib.hid (I1v.out.step b54)
               clear I1v
               have I1v := I1v'
               clear I1v'
               have F1v' := Lib.hid (F1v.out.step b54)
               clear F1v
               have F1v := F1v'
               clear F1v'
               have F2v' := Lib.hid (F2v.out.step b54)
               clear F2v
               have F2v := F2v'
               clear F2v'
               have X0e' := Lib.hid (X0e.out.step b54)
               clear X0e
               have X0e := X0e'
               clear X0e'
               have Ve' := Lib.hid (Ve.out.step b54)
               clear Ve
               have Ve := Ve'
               clear Ve'
               have HR' := Lib.hid (HR.out.step b54)
               clear HR
               have HR := HR'
               clear HR'
               have R51' := Lib.hid (R51.out.step b54)
               clear R51
               have R51 := R51'
               clear R51'
               have Q52' := Lib.hid (Q52.out.step b54)
               clear Q52
               have Q52 := Q52'
               clear Q52'
               have R53' := Lib.hid (R53.out.step b54)
               clear R53
               have R53 := R53'
               clear R53'
               have T54 := step T53 b54
               have Z54 := b54.size
               have G54 := Lib.hid r54
               clear r54))
        go_wp2_with fail
        refine (eqIntSS_b _ _ _ _ res hzr EL.out _ (by first | exact G54.out.rt | exact (G54.out.step (below_drew _)).rt | exact (G54.out.step (below_alloc _ _)).rt) (by first | exact Ve.out.rt | exact (Ve.out.step (below_drew _)).rt | exact (Ve.out.step (below_alloc _ _)).rt)).mono ?_
        rintro e u55 ⟨rfl, d55⟩
        have b55 : Below u54.heap.size u54 u55 := by first | exact d55 | exact und d55 | exact undN d55 | exact below_new d55 | exact und (below_new d55) | exact below_new (und d55) | exact below_new (below_new d55) | exact step (below_drew _) (und (below_new d55))
        have I0v' := Lib.hid (I0v.out.step b55)
        clear I0v
        have I0v := I0v'
        clear I0v'
        have I1v' := Lib.hid (I1v.out.step b55)
        clear I1v
        have I1v := I1v'
        clear I1v'
        have F1v' := Lib.hid (F1v.out.step b55)
        clear F1v
        have F1v := F1v'
        clear F1v'
        have F2v' := Lib.hid (F2v.out.step b55)
        clear F2v
        have F2v := F2v'
        clear F2v'
        have X0e' := Lib.hid (X0e.out.step b55)
        clear X0e
        have X0e := X0e'
        clear X0e'
        have Ve' := Lib.hid (Ve.out.step b55)
        clear Ve
        have Ve := Ve'
        clear Ve'
        have HR' := Lib.hid (HR.out.step b55)
        clear HR
        have HR := HR'
        clear HR'
        have G54' := Lib.hid (G54.out.step b55)
        clear G54
        have G54 := G54'
        clear G54'
        have T55 := step T54 b55
        have Z55 := b55.size
        go_wp2_with fail
        refine (heldIntSS_any A10 _ 1 res hzr hsr2 EL.out (by omega) (by omega) _ HR.out).mono ?_
        rintro e v9 ⟨rfl, rfl⟩
        go_wp2
        go_ret
        exact ⟨rfl, T55⟩

set_option maxRecDepth 100000 in
theorem lifted (os : Os) (started : os.Started) (H : Type) (enc : TypeId × Value → H) :
    ReturnsInHanded {} Tryz.checked os 3 .any (Rows.fnExactAnswersOfSpec.pre6 enc Tryz.prog Tryz.f3 Rows.fnExactAnswersOfRow.domain false) (Rows.fnExactAnswersOfSpec.post enc Tryz.prog Tryz.f3 false true false false) := by
  refine returnsInHanded_of_change (C := Tryz.checked) own started (by kernel_rfl) Tryz.func3
    (ChangeSpec.witness6 (enc := enc) (C := Tryz.checked) false ⟨#[], #[.slice none 0 0, .agg #[.slice none 0 0, .slice none 0 0], .slice none 0 0], []⟩ 8 (by kernel_rfl) (by kernel_rfl) (by kernel_rfl) (by kernel_rfl)) ?_
  intro W base args ds gs before hval0 hW hcnd _
  have hval : ∀ (j : Nat) t v, Tryz.f3.params[j]? = some t → args[j]? = some v → Value.okWide Tryz.prog W .any base t v := hval0
  have hpost := fun (W' : World) (hfn : Rows.fnExactAnswersOfSpec.fn H (ds ++ gs) = { results := [.lit (.bool true)], args := ds }) (hb : Below W.heap.size W W') => law_post (enc := enc) laidOut (f := Tryz.f3) (s := Rows.fnExactAnswersOfSpec) (args := args) rfl rfl Tryz.underlying4 (by intro t ht; rw [Tryz.params3] at ht; simp at ht; rcases ht with rfl | rfl | rfl <;> exact ⟨by kernel_rfl, of_decide_eq_true (by kernel_rfl)⟩) hW hfn hb
  obtain ⟨p, q, hA0, hV, rfl, hfz, hnd⟩ := hW
  have hA : DataW.TrodAll enc Tryz.prog W 0 (fun _ => true) true Tryz.f3.params.toList args.toList ds p := hA0
  rw [Tryz.params3] at hA hval
  obtain ⟨v0, vs0, d0, ds0, p0, q0, hargs, rfl, rfl, h0, r0⟩ := trodAll_cons hA
  obtain ⟨v1, vs1, d1, ds1, p1, q1, rfl, rfl, rfl, h1, r1⟩ := trodAll_cons r0
  obtain ⟨v2, vs2, d2, ds2, p2, q2, rfl, rfl, rfl, h2, r2⟩ := trodAll_cons r1
  obtain ⟨rfl, rfl, rfl⟩ := trodAll_nil r2
  obtain rfl : args = #[v0, v1, v2] := by cases args; simp_all
  obtain ⟨rfl, rfl⟩ := trodVars_none hV
  obtain ⟨A0, c0, s0, rfl, l0, m0, w0⟩ := open_numsT Tryz.underlying22 Tryz.underlying3 (by kernel_rfl) (hval 0 22 v0 rfl rfl) h0
  obtain ⟨H1, A1, x1, c1, s1, l1, rfl, y1, z1, k1, m1, w1⟩ := open_queryT (hval 1 25 v1 rfl rfl) h1
  obtain ⟨A2, c2, l2, rfl, k2, m2, w2⟩ := open_factsT (hval 2 26 v2 rfl rfl) h2
  refine (walk W A0 c0 s0 l0 m0 w0 H1 A1 x1 c1 s1 l1 y1 z1 k1 m1 w1 A2 c2 l2 k2 m2 w2).mono fun e W' ⟨he, hg⟩ => ?_
  subst he
  exact ⟨_, rfl, hpost W' rfl hg⟩

theorem over : Rows.fnExactAnswersOfRow.holds Tryz.pinned (OpenSpec.ofChange Rows.fnExactAnswersOfSpec) :=
  OpenClaim.holds_of_wide 3 Tryz.f3 rfl rfl rfl rfl rfl rfl rfl ⟨rfl, rfl, rfl, rfl, rfl⟩ rfl rfl rfl rfl rfl (by kernel_rfl) Tryz.func3 (by kernel_rfl)
    (of_decide_eq_true (by kernel_rfl)) (by unfold Func.isWrapper; first | (rw [if_pos (by decide +kernel)]; kernel_rfl) | (rw [if_neg (by decide +kernel)]; exact ⟨rfl, rfl⟩))
    (fun os started H enc _ => lifted os started H enc)
end Go.Proofs.YtighalbnpgmdfaaGreat.fnExactAnswersOf
namespace Go.Proofs.YtighalbnpgmdfaaGreat
theorem fnExactAnswersOf_holds : Rows.FnExactAnswersOfSaid := fnExactAnswersOf.over
#print axioms fnExactAnswersOf_holds
end Go.Proofs.YtighalbnpgmdfaaGreat
