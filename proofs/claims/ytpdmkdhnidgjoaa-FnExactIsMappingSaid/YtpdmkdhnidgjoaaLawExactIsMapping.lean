/- impl.IsMapping answers as its model at every argument: the law FnExactIsMapping returns true. Conditions: none beyond the statement's own. -/
import Derived.Test.YtpdmkdhnidgjoaaIsN
import Derived.Test.YtpdmkdhnidgjoaaMatL
import Derived.Test.YtpdmkdhnidgjoaaQL
import Derived.Test.YtpdmkdhnidgjoaaMark2
namespace Go.Proofs.Ytpdmkdhnidgjoaa.fnExactIsMapping
open Go.ChangeShapes Go.WideShapes Go.ChangeAt Go.RowKit
open Go.ChangeMaps (open_string shut_string)
set_option linter.unusedVariables false
set_option linter.unusedSimpArgs false
open Go.Proofs.Ytpdmkdhnidgjoaa.atom
set_option maxRecDepth 100000 in
set_option maxHeartbeats 1000000 in
theorem walk (w : World) (H0 A0 : Option Addr) (x0 c0 : Nat) (s0 : List Int) (l0 : FL) (y0 : s0.length ≤ x0) (z0 : x0 ≤ maxLen) (k0 : l0.length ≤ c0) (m0 : c0 ≤ maxLen) (w0 : Ints w 0 w.heap.size H0 s0 ∧ Facts w 0 w.heap.size A0 l0) (A1 : Option Addr) (c1 : Nat) (l1 : List (Int × List Int)) (k1 : l1.length ≤ c1) (m1 : c1 ≤ maxLen) (w1 : Facts w 0 w.heap.size A1 l1) (A2 : Option Addr) (c2 : Nat) (s2 : List Int) (l2 : s2.length ≤ c2) (m2 : c2 ≤ maxLen) (w2 : Ints w 0 w.heap.size A2 s2) (H3 A3 : Option Addr) (x3 c3 : Nat) (s3 l3 : List Int) (y3 : s3.length ≤ x3) (z3 : x3 ≤ maxLen) (k3 : l3.length ≤ c3) (m3 : c3 ≤ maxLen) (w3 : Ints w 0 w.heap.size H3 s3 ∧ Ints w 0 w.heap.size A3 l3) :
    Calls Try.prog 6 #[.agg #[.slice H0 s0.length x0, .slice A0 l0.length c0], .slice A1 l1.length c1, .slice A2 s2.length c2, .agg #[.slice H3 s3.length x3, .slice A3 l3.length c3]] w fun e w' => e = .returned (.bool true) ∧ Below w.heap.size w w' := by
  unfold maxLen at z0 m0 m1 m2 z3 m3
  have hn := szF_nonneg l0
  have hn1 := szF_nonneg l1
  have EQ := Lib.hid (show szQ s0 l0 = (s0.length : Int) + szF l0 from rfl)
  have EB := Lib.hid (show szB s3 l3 = (s3.length : Int) + (l3.length : Int) from rfl)
  have hnq : 0 ≤ szQ s0 l0 := by rw [EQ.out]; omega
  have hnb : 0 ≤ szB s3 l3 := by rw [EB.out]; omega
  by_cases hb0 : (1048576 : Int) < s2.length
  · have I0 := Lib.hid (show RI w H0 s0 from w0.1)
    have F0 := Lib.hid (show RF w A0 l0 from w0.2)
    have F1 := Lib.hid (show RF w A1 l1 from w1)
    have I2 := Lib.hid (show RI w A2 s2 from w2)
    have I3 := Lib.hid (show RI w H3 s3 from w3.1)
    have J3 := Lib.hid (show RI w A3 l3 from w3.2)
    clear w0 w1 w2 w3
    go_enter Try.func6, Try.ntmps6
    go_wp2
    go_ret
    exact ⟨rfl, step (below_alloc _ _) (below_alloc _ _)⟩
  · skip
    by_cases hb1 : 1048576 - szQ s0 l0 < 0
    · have I0 := Lib.hid (show RI w H0 s0 from w0.1)
      have F0 := Lib.hid (show RF w A0 l0 from w0.2)
      have F1 := Lib.hid (show RF w A1 l1 from w1)
      have I2 := Lib.hid (show RI w A2 s2 from w2)
      have I3 := Lib.hid (show RI w H3 s3 from w3.1)
      have J3 := Lib.hid (show RI w A3 l3 from w3.2)
      clear w0 w1 w2 w3
      go_enter Try.func6, Try.ntmps6
      go_wp2_with fail
      refine (szQuery_any H0 A0 x0 c0 s0 l0 1048576 (by omega) (by omega) (by omega) (by omega) _ (by first | exact F0.out | exact F0.out.step (below_drew _) | exact F0.out.step (below_alloc _ _) | exact F0.out.step (step (below_alloc _ _) (below_alloc _ _)))).mono ?_
      rintro e u1 ⟨he, d1⟩
      rw [szR_neg hb1] at he
      subst he
      have X0 := Lib.hid (Box.of_new2 d1).1
      have X1 := Lib.hid (Box.of_new2 d1).2
      have b1 : Below w.heap.size w u1 := by first | exact d1 | exact und d1 | exact undN d1 | exact below_new d1 | exact und (below_new d1) | exact below_new (und d1) | exact below_new (below_new d1) | exact step (below_drew _) (und (below_new d1))
      have I0' := Lib.hid (I0.out.step b1)
      clear I0
      have I0 := I0'
      clear I0'
      have F0' := Lib.hid (F0.out.step b1)
      clear F0
      have F0 := F0'
      clear F0'
      have F1' := Lib.hid (F1.out.step b1)
      clear F1
      have F1 := F1'
      clear F1'
      have I2' := Lib.hid (I2.out.step b1)
      clear I2
      have I2 := I2'
      clear I2'
      have I3' := Lib.hid (I3.out.step b1)
      clear I3
      have I3 := I3'
      clear I3'
      have J3' := Lib.hid (J3.out.step b1)
      clear J3
      have J3 := J3'
      clear J3'
      have T1 := b1
      have Z1 := b1.size
      have ga0 := X0.out.cell 0
      have ga1 := X0.out.cell 1
      simp only [List.getElem?_toArray, List.getElem?_cons_zero, List.getElem?_cons_succ] at ga0 ga1
      have gan := X0.out.lt
      have gb0 := X1.out.cell 0
      have gb1 := X1.out.cell 1
      simp only [List.getElem?_toArray, List.getElem?_cons_zero, List.getElem?_cons_succ] at gb0 gb1
      have gbn := X1.out.lt
      go_wp2
      go_ret
      exact ⟨rfl, T1⟩
    · skip
      by_cases hb2 : (1048576 - szQ s0 l0) - szF l1 < 0
      · have I0 := Lib.hid (show RI w H0 s0 from w0.1)
        have F0 := Lib.hid (show RF w A0 l0 from w0.2)
        have F1 := Lib.hid (show RF w A1 l1 from w1)
        have I2 := Lib.hid (show RI w A2 s2 from w2)
        have I3 := Lib.hid (show RI w H3 s3 from w3.1)
        have J3 := Lib.hid (show RI w A3 l3 from w3.2)
        clear w0 w1 w2 w3
        go_enter Try.func6, Try.ntmps6
        go_wp2_with fail
        refine (szQuery_any H0 A0 x0 c0 s0 l0 1048576 (by omega) (by omega) (by omega) (by omega) _ (by first | exact F0.out | exact F0.out.step (below_drew _) | exact F0.out.step (below_alloc _ _) | exact F0.out.step (step (below_alloc _ _) (below_alloc _ _)))).mono ?_
        rintro e u1 ⟨he, d1⟩
        rw [szR_pos (show ¬ (1048576 - szQ s0 l0 < 0) by omega)] at he
        subst he
        have X0 := Lib.hid (Box.of_new2 d1).1
        have X1 := Lib.hid (Box.of_new2 d1).2
        have b1 : Below w.heap.size w u1 := by first | exact d1 | exact und d1 | exact undN d1 | exact below_new d1 | exact und (below_new d1) | exact below_new (und d1) | exact below_new (below_new d1) | exact step (below_drew _) (und (below_new d1))
        have I0' := Lib.hid (I0.out.step b1)
        clear I0
        have I0 := I0'
        clear I0'
        have F0' := Lib.hid (F0.out.step b1)
        clear F0
        have F0 := F0'
        clear F0'
        have F1' := Lib.hid (F1.out.step b1)
        clear F1
        have F1 := F1'
        clear F1'
        have I2' := Lib.hid (I2.out.step b1)
        clear I2
        have I2 := I2'
        clear I2'
        have I3' := Lib.hid (I3.out.step b1)
        clear I3
        have I3 := I3'
        clear I3'
        have J3' := Lib.hid (J3.out.step b1)
        clear J3
        have J3 := J3'
        clear J3'
        have T1 := b1
        have Z1 := b1.size
        have ga0 := X0.out.cell 0
        have ga1 := X0.out.cell 1
        simp only [List.getElem?_toArray, List.getElem?_cons_zero, List.getElem?_cons_succ] at ga0 ga1
        have gan := X0.out.lt
        have gb0 := X1.out.cell 0
        have gb1 := X1.out.cell 1
        simp only [List.getElem?_toArray, List.getElem?_cons_zero, List.getElem?_cons_succ] at gb0 gb1
        have gbn := X1.out.lt
        go_wp2_with fail
        refine (szFactS_any A1 c1 l1 (1048576 - szQ s0 l0) (by omega) (by omega) (by omega) _ (by first | exact F1.out | exact F1.out.step (below_drew _) | exact F1.out.step (below_alloc _ _) | exact F1.out.step (step (below_alloc _ _) (below_alloc _ _)))).mono ?_
        rintro e u2 ⟨he, d2⟩
        rw [if_pos hb2] at he
        subst he
        have b2 : Below u1.heap.size u1 u2 := by first | exact d2 | exact und d2 | exact undN d2 | exact below_new d2 | exact und (below_new d2) | exact below_new (und d2) | exact below_new (below_new d2) | exact step (below_drew _) (und (below_new d2))
        have I0' := Lib.hid (I0.out.step b2)
        clear I0
        have I0 := I0'
        clear I0'
        have F0' := Lib.hid (F0.out.step b2)
        clear F0
        have F0 := F0'
        clear F0'
        have F1' := Lib.hid (F1.out.step b2)
        clear F1
        have F1 := F1'
        clear F1'
        have I2' := Lib.hid (I2.out.step b2)
        clear I2
        have I2 := I2'
        clear I2'
        have I3' := Lib.hid (I3.out.step b2)
        clear I3
        have I3 := I3'
        clear I3'
        have J3' := Lib.hid (J3.out.step b2)
        clear J3
        have J3 := J3'
        clear J3'
        have X0' := Lib.hid (X0.out.step b2)
        clear X0
        have X0 := X0'
        clear X0'
        have X1' := Lib.hid (X1.out.step b2)
        clear X1
        have X1 := X1'
        clear X1'
        have T2 := step T1 b2
        have Z2 := b2.size
        have gc0 := X0.out.cell 0
        have gc1 := X0.out.cell 1
        simp only [List.getElem?_toArray, List.getElem?_cons_zero, List.getElem?_cons_succ] at gc0 gc1
        have gcn := X0.out.lt
        have gd0 := X1.out.cell 0
        have gd1 := X1.out.cell 1
        simp only [List.getElem?_toArray, List.getElem?_cons_zero, List.getElem?_cons_succ] at gd0 gd1
        have gdn := X1.out.lt
        go_wp2
        go_ret
        exact ⟨rfl, T2⟩
      · skip
        by_cases hb3 : ((1048576 - szQ s0 l0) - szF l1) - szB s3 l3 < 0
        · have I0 := Lib.hid (show RI w H0 s0 from w0.1)
          have F0 := Lib.hid (show RF w A0 l0 from w0.2)
          have F1 := Lib.hid (show RF w A1 l1 from w1)
          have I2 := Lib.hid (show RI w A2 s2 from w2)
          have I3 := Lib.hid (show RI w H3 s3 from w3.1)
          have J3 := Lib.hid (show RI w A3 l3 from w3.2)
          clear w0 w1 w2 w3
          go_enter Try.func6, Try.ntmps6
          go_wp2_with fail
          refine (szQuery_any H0 A0 x0 c0 s0 l0 1048576 (by omega) (by omega) (by omega) (by omega) _ (by first | exact F0.out | exact F0.out.step (below_drew _) | exact F0.out.step (below_alloc _ _) | exact F0.out.step (step (below_alloc _ _) (below_alloc _ _)))).mono ?_
          rintro e u1 ⟨he, d1⟩
          rw [szR_pos (show ¬ (1048576 - szQ s0 l0 < 0) by omega)] at he
          subst he
          have X0 := Lib.hid (Box.of_new2 d1).1
          have X1 := Lib.hid (Box.of_new2 d1).2
          have b1 : Below w.heap.size w u1 := by first | exact d1 | exact und d1 | exact undN d1 | exact below_new d1 | exact und (below_new d1) | exact below_new (und d1) | exact below_new (below_new d1) | exact step (below_drew _) (und (below_new d1))
          have I0' := Lib.hid (I0.out.step b1)
          clear I0
          have I0 := I0'
          clear I0'
          have F0' := Lib.hid (F0.out.step b1)
          clear F0
          have F0 := F0'
          clear F0'
          have F1' := Lib.hid (F1.out.step b1)
          clear F1
          have F1 := F1'
          clear F1'
          have I2' := Lib.hid (I2.out.step b1)
          clear I2
          have I2 := I2'
          clear I2'
          have I3' := Lib.hid (I3.out.step b1)
          clear I3
          have I3 := I3'
          clear I3'
          have J3' := Lib.hid (J3.out.step b1)
          clear J3
          have J3 := J3'
          clear J3'
          have T1 := b1
          have Z1 := b1.size
          have ga0 := X0.out.cell 0
          have ga1 := X0.out.cell 1
          simp only [List.getElem?_toArray, List.getElem?_cons_zero, List.getElem?_cons_succ] at ga0 ga1
          have gan := X0.out.lt
          have gb0 := X1.out.cell 0
          have gb1 := X1.out.cell 1
          simp only [List.getElem?_toArray, List.getElem?_cons_zero, List.getElem?_cons_succ] at gb0 gb1
          have gbn := X1.out.lt
          go_wp2_with fail
          refine (szFactS_any A1 c1 l1 (1048576 - szQ s0 l0) (by omega) (by omega) (by omega) _ (by first | exact F1.out | exact F1.out.step (below_drew _) | exact F1.out.step (below_alloc _ _) | exact F1.out.step (step (below_alloc _ _) (below_alloc _ _)))).mono ?_
          rintro e u2 ⟨he, d2⟩
          rw [if_neg (show ¬ ((1048576 - szQ s0 l0) - szF l1 < 0) by omega)] at he
          subst he
          have b2 : Below u1.heap.size u1 u2 := by first | exact d2 | exact und d2 | exact undN d2 | exact below_new d2 | exact und (below_new d2) | exact below_new (und d2) | exact below_new (below_new d2) | exact step (below_drew _) (und (below_new d2))
          have I0' := Lib.hid (I0.out.step b2)
          clear I0
          have I0 := I0'
          clear I0'
          have F0' := Lib.hid (F0.out.step b2)
          clear F0
          have F0 := F0'
          clear F0'
          have F1' := Lib.hid (F1.out.step b2)
          clear F1
          have F1 := F1'
          clear F1'
          have I2' := Lib.hid (I2.out.step b2)
          clear I2
          have I2 := I2'
          clear I2'
          have I3' := Lib.hid (I3.out.step b2)
          clear I3
          have I3 := I3'
          clear I3'
          have J3' := Lib.hid (J3.out.step b2)
          clear J3
          have J3 := J3'
          clear J3'
          have X0' := Lib.hid (X0.out.step b2)
          clear X0
          have X0 := X0'
          clear X0'
          have X1' := Lib.hid (X1.out.step b2)
          clear X1
          have X1 := X1'
          clear X1'
          have T2 := step T1 b2
          have Z2 := b2.size
          have gc0 := X0.out.cell 0
          have gc1 := X0.out.cell 1
          simp only [List.getElem?_toArray, List.getElem?_cons_zero, List.getElem?_cons_succ] at gc0 gc1
          have gcn := X0.out.lt
          have gd0 := X1.out.cell 0
          have gd1 := X1.out.cell 1
          simp only [List.getElem?_toArray, List.getElem?_cons_zero, List.getElem?_cons_succ] at gd0 gd1
          have gdn := X1.out.lt
          go_wp2_with fail
          refine (szBinding_any H3 A3 x3 c3 s3 l3 ((1048576 - szQ s0 l0) - szF l1) (by omega) (by omega) (by omega) (by omega) _).mono ?_
          rintro e u3 ⟨he, d3⟩
          rw [szR_neg hb3] at he
          subst he
          have b3 : Below u2.heap.size u2 u3 := by first | exact d3 | exact und d3 | exact undN d3 | exact below_new d3 | exact und (below_new d3) | exact below_new (und d3) | exact below_new (below_new d3) | exact step (below_drew _) (und (below_new d3))
          have I0' := Lib.hid (I0.out.step b3)
          clear I0
          have I0 := I0'
          clear I0'
          have F0' := Lib.hid (F0.out.step b3)
          clear F0
          have F0 := F0'
          clear F0'
          have F1' := Lib.hid (F1.out.step b3)
          clear F1
          have F1 := F1'
          clear F1'
          have I2' := Lib.hid (I2.out.step b3)
          clear I2
          have I2 := I2'
          clear I2'
          have I3' := Lib.hid (I3.out.step b3)
          clear I3
          have I3 := I3'
          clear I3'
          have J3' := Lib.hid (J3.out.step b3)
          clear J3
          have J3 := J3'
          clear J3'
          have X0' := Lib.hid (X0.out.step b3)
          clear X0
          have X0 := X0'
          clear X0'
          have X1' := Lib.hid (X1.out.step b3)
          clear X1
          have X1 := X1'
          clear X1'
          have T3 := step T2 b3
          have Z3 := b3.size
          have ge0 := X0.out.cell 0
          have ge1 := X0.out.cell 1
          simp only [List.getElem?_toArray, List.getElem?_cons_zero, List.getElem?_cons_succ] at ge0 ge1
          have gen := X0.out.lt
          have gf0 := X1.out.cell 0
          have gf1 := X1.out.cell 1
          simp only [List.getElem?_toArray, List.getElem?_cons_zero, List.getElem?_cons_succ] at gf0 gf1
          have gfn := X1.out.lt
          go_wp2
          go_ret
          exact ⟨rfl, T3⟩
        · skip
          have hz : szQ s0 l0 ≤ 1048576 := by omega
          have hzb : szB s3 l3 ≤ 1048576 := by omega
          have hz0 : szF l0 ≤ 1048576 := by rw [EQ.out] at hz; omega
          have hz1 : szF l1 ≤ 1048576 := by omega
          have hl0 : s0.length ≤ 1048576 := by rw [EQ.out] at hz; omega
          have hl2 : s2.length ≤ 1048576 := by omega
          have hL2 : (s2.length : Int) ≤ 1048576 := by omega
          have hs3 : s3.length ≤ 1048576 := by rw [EB.out] at hzb; omega
          have hl3 : l3.length ≤ 1048576 := by rw [EB.out] at hzb; omega
          have CS := Lib.hid fun (H Q F D U V : Option Addr) (ch c cf cd cu cv : Nat) (w : World) (h : RI w H s0) (hq : RF w Q l0) (hf : RF w F l1) (hd : RI w D s2) (h1 : RI w U s3) (h2 : RI w V l3) => spec_IsMapping H Q F D U V ch c cf cd cu cv s0 l0 l1 s2 s3 l3 hl0 hz0 hz1 hl2 hs3 hl3 w h hq hf hd h1 h2
          have CI := Lib.hid fun (H Q F D U V : Option Addr) (ch c cf cd cu cv : Nat) (w : World) (h : RI w H s0) (hq : RF w Q l0) (hf : RF w F l1) (hd : RI w D s2) (h1 : RI w U s3) (h2 : RI w V l3) => impl_IsMapping H Q F D U V ch c cf cd cu cv s0 l0 l1 s2 s3 l3 hl0 hz0 hz1 hl2 hs3 hl3 w h hq hf hd h1 h2
          generalize mapB s3 l3 s0 s2 l0 l1 = res at CS CI
          have hq2 : 0 ≤ 1048576 - szQ s0 l0 := by omega
          have hq3 : 0 ≤ (1048576 - szQ s0 l0) - szF l1 := by omega
          have hq4 : 0 ≤ ((1048576 - szQ s0 l0) - szF l1) - szB s3 l3 := by omega
          have I0 := Lib.hid (show RI w H0 s0 from w0.1)
          have F0 := Lib.hid (show RF w A0 l0 from w0.2)
          have F1 := Lib.hid (show RF w A1 l1 from w1)
          have I2 := Lib.hid (show RI w A2 s2 from w2)
          have I3 := Lib.hid (show RI w H3 s3 from w3.1)
          have J3 := Lib.hid (show RI w A3 l3 from w3.2)
          clear w0 w1 w2 w3
          go_enter Try.func6, Try.ntmps6
          go_wp2_with fail
          refine (szQuery_any H0 A0 x0 c0 s0 l0 1048576 (by omega) (by omega) (by omega) (by omega) _ (by first | exact F0.out | exact F0.out.step (below_drew _) | exact F0.out.step (below_alloc _ _) | exact F0.out.step (step (below_alloc _ _) (below_alloc _ _)))).mono ?_
          rintro e u1 ⟨he, d1⟩
          rw [szR_pos (show ¬ (1048576 - szQ s0 l0 < 0) by omega)] at he
          subst he
          have X0 := Lib.hid (Box.of_new2 d1).1
          have X1 := Lib.hid (Box.of_new2 d1).2
          have b1 : Below w.heap.size w u1 := by first | exact d1 | exact und d1 | exact undN d1 | exact below_new d1 | exact und (below_new d1) | exact below_new (und d1) | exact below_new (below_new d1) | exact step (below_drew _) (und (below_new d1))
          have I0' := Lib.hid (I0.out.step b1)
          clear I0
          have I0 := I0'
          clear I0'
          have F0' := Lib.hid (F0.out.step b1)
          clear F0
          have F0 := F0'
          clear F0'
          have F1' := Lib.hid (F1.out.step b1)
          clear F1
          have F1 := F1'
          clear F1'
          have I2' := Lib.hid (I2.out.step b1)
          clear I2
          have I2 := I2'
          clear I2'
          have I3' := Lib.hid (I3.out.step b1)
          clear I3
          have I3 := I3'
          clear I3'
          have J3' := Lib.hid (J3.out.step b1)
          clear J3
          have J3 := J3'
          clear J3'
          have T1 := b1
          have Z1 := b1.size
          have ga0 := X0.out.cell 0
          have ga1 := X0.out.cell 1
          simp only [List.getElem?_toArray, List.getElem?_cons_zero, List.getElem?_cons_succ] at ga0 ga1
          have gan := X0.out.lt
          have gb0 := X1.out.cell 0
          have gb1 := X1.out.cell 1
          simp only [List.getElem?_toArray, List.getElem?_cons_zero, List.getElem?_cons_succ] at gb0 gb1
          have gbn := X1.out.lt
          go_wp2_with fail
          refine (szFactS_any A1 c1 l1 (1048576 - szQ s0 l0) (by omega) (by omega) (by omega) _ (by first | exact F1.out | exact F1.out.step (below_drew _) | exact F1.out.step (below_alloc _ _) | exact F1.out.step (step (below_alloc _ _) (below_alloc _ _)))).mono ?_
          rintro e u2 ⟨he, d2⟩
          rw [if_neg (show ¬ ((1048576 - szQ s0 l0) - szF l1 < 0) by omega)] at he
          subst he
          have b2 : Below u1.heap.size u1 u2 := by first | exact d2 | exact und d2 | exact undN d2 | exact below_new d2 | exact und (below_new d2) | exact below_new (und d2) | exact below_new (below_new d2) | exact step (below_drew _) (und (below_new d2))
          have I0' := Lib.hid (I0.out.step b2)
          clear I0
          have I0 := I0'
          clear I0'
          have F0' := Lib.hid (F0.out.step b2)
          clear F0
          have F0 := F0'
          clear F0'
          have F1' := Lib.hid (F1.out.step b2)
          clear F1
          have F1 := F1'
          clear F1'
          have I2' := Lib.hid (I2.out.step b2)
          clear I2
          have I2 := I2'
          clear I2'
          have I3' := Lib.hid (I3.out.step b2)
          clear I3
          have I3 := I3'
          clear I3'
          have J3' := Lib.hid (J3.out.step b2)
          clear J3
          have J3 := J3'
          clear J3'
          have X0' := Lib.hid (X0.out.step b2)
          clear X0
          have X0 := X0'
          clear X0'
          have X1' := Lib.hid (X1.out.step b2)
          clear X1
          have X1 := X1'
          clear X1'
          have T2 := step T1 b2
          have Z2 := b2.size
          have gc0 := X0.out.cell 0
          have gc1 := X0.out.cell 1
          simp only [List.getElem?_toArray, List.getElem?_cons_zero, List.getElem?_cons_succ] at gc0 gc1
          have gcn := X0.out.lt
          have gd0 := X1.out.cell 0
          have gd1 := X1.out.cell 1
          simp only [List.getElem?_toArray, List.getElem?_cons_zero, List.getElem?_cons_succ] at gd0 gd1
          have gdn := X1.out.lt
          go_wp2_with fail
          refine (szBinding_any H3 A3 x3 c3 s3 l3 ((1048576 - szQ s0 l0) - szF l1) (by omega) (by omega) (by omega) (by omega) _).mono ?_
          rintro e u3 ⟨he, d3⟩
          rw [szR_pos (show ¬ (((1048576 - szQ s0 l0) - szF l1) - szB s3 l3 < 0) by omega)] at he
          subst he
          have b3 : Below u2.heap.size u2 u3 := by first | exact d3 | exact und d3 | exact undN d3 | exact below_new d3 | exact und (below_new d3) | exact below_new (und d3) | exact below_new (below_new d3) | exact step (below_drew _) (und (below_new d3))
          have I0' := Lib.hid (I0.out.step b3)
          clear I0
          have I0 := I0'
          clear I0'
          have F0' := Lib.hid (F0.out.step b3)
          clear F0
          have F0 := F0'
          clear F0'
          have F1' := Lib.hid (F1.out.step b3)
          clear F1
          have F1 := F1'
          clear F1'
          have I2' := Lib.hid (I2.out.step b3)
          clear I2
          have I2 := I2'
          clear I2'
          have I3' := Lib.hid (I3.out.step b3)
          clear I3
          have I3 := I3'
          clear I3'
          have J3' := Lib.hid (J3.out.step b3)
          clear J3
          have J3 := J3'
          clear J3'
          have X0' := Lib.hid (X0.out.step b3)
          clear X0
          have X0 := X0'
          clear X0'
          have X1' := Lib.hid (X1.out.step b3)
          clear X1
          have X1 := X1'
          clear X1'
          have T3 := step T2 b3
          have Z3 := b3.size
          have ge0 := X0.out.cell 0
          have ge1 := X0.out.cell 1
          simp only [List.getElem?_toArray, List.getElem?_cons_zero, List.getElem?_cons_succ] at ge0 ge1
          have gen := X0.out.lt
          have gf0 := X1.out.cell 0
          have gf1 := X1.out.cell 1
          simp only [List.getElem?_toArray, List.getElem?_cons_zero, List.getElem?_cons_succ] at gf0 gf1
          have gfn := X1.out.lt
          have tok4 : True := trivial
          have tok5 : True := trivial
          have tok6 : True := trivial
          have tok7 : True := trivial
          have tok8 : True := trivial
          go_wp2_with fail
          go_region_held3 (fun w' => w'.cell? ⟨w.heap.size, 0, none⟩ = some (.slice H0 s0.length x0) ∧ w'.cell? ⟨w.heap.size, 1, none⟩ = some (.slice A0 l0.length c0) ∧ w'.cell? ⟨w.heap.size + 1, 0, none⟩ = some (.slice H3 s3.length x3) ∧ w'.cell? ⟨w.heap.size + 1, 1, none⟩ = some (.slice A3 l3.length c3))
            (first
              | go_keep
              | (go_split_ands; refine ⟨?_, ?_, ?_, ?_⟩ <;> (rw [d4.cell (by (try simp) <;> omega)]; assumption))
              | (go_split_ands; refine ⟨?_, ?_, ?_, ?_⟩ <;> (rw [d5.cell (by (try simp) <;> omega)]; assumption))
              | (go_split_ands; refine ⟨?_, ?_, ?_, ?_⟩ <;> (rw [d6.cell (by (try simp) <;> omega)]; assumption))
              | (go_split_ands; refine ⟨?_, ?_, ?_, ?_⟩ <;> (rw [d7.cell (by (try simp) <;> omega)]; assumption))
              | (go_split_ands; refine ⟨?_, ?_, ?_, ?_⟩ <;> (rw [d8.cell (by (try simp) <;> omega)]; assumption)))
            (first
              | (go_at_call 12
                 clear tok4
                 refine (toQuery_r H0 A0 x0 c0 s0 l0 hl0 hz0 _ (by first | exact I0.out | exact I0.out.step (below_drew _) | exact I0.out.step (below_alloc _ _) | exact I0.out.step (step (below_alloc _ _) (below_alloc _ _))) (by first | exact F0.out | exact F0.out.step (below_drew _) | exact F0.out.step (below_alloc _ _) | exact F0.out.step (step (below_alloc _ _) (below_alloc _ _)))).mono ?_
                 rintro e u4 ⟨rfl, r4, d4, z4⟩
                 have b4 : Below u3.heap.size u3 u4 := by first | exact d4 | exact und d4 | exact undN d4 | exact below_new d4 | exact und (below_new d4) | exact below_new (und d4) | exact below_new (below_new d4) | exact step (below_drew _) (und (below_new d4))
                 have I0' := Lib.hid (I0.out.step b4)
                 clear I0
                 have I0 := I0'
                 clear I0'
                 have F0' := Lib.hid (F0.out.step b4)
                 clear F0
                 have F0 := F0'
                 clear F0'
                 have F1' := Lib.hid (F1.out.step b4)
                 clear F1
                 have F1 := F1'
                 clear F1'
                 have I2' := Lib.hid (I2.out.step b4)
                 clear I2
                 have I2 := I2'
                 clear I2'
                 have I3' := Lib.hid (I3.out.step b4)
                 clear I3
                 have I3 := I3'
                 clear I3'
                 have J3' := Lib.hid (J3.out.step b4)
                 clear J3
                 have J3 := J3'
                 clear J3'
                 have X0' := Lib.hid (X0.out.step b4)
                 clear X0
                 have X0 := X0'
                 clear X0'
                 have X1' := Lib.hid (X1.out.step b4)
                 clear X1
                 have X1 := X1'
                 clear X1'
                 have T4 := step T3 b4
                 have Z4 := b4.size
                 try rw [al_size] at r4
                 have Q4 := Lib.hid r4
                 clear r4 z4)
              | (go_at_call 31
                 clear tok5
                 refine (toFactS_p A1 c1 l1 hz1 _ (by first | exact F1.out | exact F1.out.step (below_drew _) | exact F1.out.step (below_alloc _ _) | exact F1.out.step (step (below_alloc _ _) (below_alloc _ _)))).mono ?_
                 rintro e u5 ⟨rfl, r5, d5, z5⟩
                 have b5 : Below u4.heap.size u4 u5 := by first | exact d5 | exact und d5 | exact undN d5 | exact below_new d5 | exact und (below_new d5) | exact below_new (und d5) | exact below_new (below_new d5) | exact step (below_drew _) (und (below_new d5))
                 have I0' := Lib.hid (I0.out.step b5)
                 clear I0
                 have I0 := I0'
                 clear I0'
                 have F0' := Lib.hid (F0.out.step b5)
                 clear F0
                 have F0 := F0'
                 clear F0'
                 have F1' := Lib.hid (F1.out.step b5)
                 clear F1
                 have F1 := F1'
                 clear F1'
                 have I2' := Lib.hid (I2.out.step b5)
                 clear I2
                 have I2 := I2'
                 clear I2'
                 have I3' := Lib.hid (I3.out.step b5)
                 clear I3
                 have I3 := I3'
                 clear I3'
                 have J3' := Lib.hid (J3.out.step b5)
                 clear J3
                 have J3 := J3'
                 clear J3'
                 have X0' := Lib.hid (X0.out.step b5)
                 clear X0
                 have X0 := X0'
                 clear X0'
                 have X1' := Lib.hid (X1.out.step b5)
                 clear X1
                 have X1 := X1'
                 clear X1'
                 have Q4' := Lib.hid (Q4.out.step b5)
                 clear Q4
                 have Q4 := Q4'
                 clear Q4'
                 have T5 := step T4 b5
                 have Z5 := b5.size
                 try rw [al_size] at r5
                 have R5 := Lib.hid r5.rf
                 clear r5 z5)
              | (go_at_call 32
                 clear tok6
                 refine (toIntS_r A2 c2 s2 hl2 _ (by first | exact I2.out | exact I2.out.step (below_drew _) | exact I2.out.step (below_alloc _ _) | exact I2.out.step (step (below_alloc _ _) (below_alloc _ _)))).mono ?_
                 rintro e u6 ⟨rfl, r6, d6, z6⟩
                 have b6 : Below u5.heap.size u5 u6 := by first | exact d6 | exact und d6 | exact undN d6 | exact below_new d6 | exact und (below_new d6) | exact below_new (und d6) | exact below_new (below_new d6) | exact step (below_drew _) (und (below_new d6))
                 have I0' := Lib.hid (I0.out.step b6)
                 clear I0
                 have I0 := I0'
                 clear I0'
                 have F0' := Lib.hid (F0.out.step b6)
                 clear F0
                 have F0 := F0'
                 clear F0'
                 have F1' := Lib.hid (F1.out.step b6)
                 clear F1
                 have F1 := F1'
                 clear F1'
                 have I2' := Lib.hid (I2.out.step b6)
                 clear I2
                 have I2 := I2'
                 clear I2'
                 have I3' := Lib.hid (I3.out.step b6)
                 clear I3
                 have I3 := I3'
                 clear I3'
                 have J3' := Lib.hid (J3.out.step b6)
                 clear J3
                 have J3 := J3'
                 clear J3'
                 have X0' := Lib.hid (X0.out.step b6)
                 clear X0
                 have X0 := X0'
                 clear X0'
                 have X1' := Lib.hid (X1.out.step b6)
                 clear X1
                 have X1 := X1'
                 clear X1'
                 have Q4' := Lib.hid (Q4.out.step b6)
                 clear Q4
                 have Q4 := Q4'
                 clear Q4'
                 have R5' := Lib.hid (R5.out.step b6)
                 clear R5
                 have R5 := R5'
                 clear R5'
                 have T6 := step T5 b6
                 have Z6 := b6.size
                 have R6 := Lib.hid r6.ri
                 clear r6 z6)
              | (go_at_call 24
                 clear tok7
                 refine (toBinding_r H3 A3 x3 c3 s3 l3 hs3 hl3 _ (by first | exact I3.out | exact I3.out.step (below_drew _) | exact I3.out.step (below_alloc _ _) | exact I3.out.step (step (below_alloc _ _) (below_alloc _ _))) (by first | exact J3.out | exact J3.out.step (below_drew _) | exact J3.out.step (below_alloc _ _) | exact J3.out.step (step (below_alloc _ _) (below_alloc _ _)))).mono ?_
                 rintro e u7 ⟨rfl, r7, d7, z7⟩
                 have b7 : Below u6.heap.size u6 u7 := by first | exact d7 | exact und d7 | exact undN d7 | exact below_new d7 | exact und (below_new d7) | exact below_new (und d7) | exact below_new (below_new d7) | exact step (below_drew _) (und (below_new d7))
                 have I0' := Lib.hid (I0.out.step b7)
                 clear I0
                 have I0 := I0'
                 clear I0'
                 have F0' := Lib.hid (F0.out.step b7)
                 clear F0
                 have F0 := F0'
                 clear F0'
                 have F1' := Lib.hid (F1.out.step b7)
                 clear F1
                 have F1 := F1'
                 clear F1'
                 have I2' := Lib.hid (I2.out.step b7)
                 clear I2
                 have I2 := I2'
                 clear I2'
                 have I3' := Lib.hid (I3.out.step b7)
                 clear I3
                 have I3 := I3'
                 clear I3'
                 have J3' := Lib.hid (J3.out.step b7)
                 clear J3
                 have J3 := J3'
                 clear J3'
                 have X0' := Lib.hid (X0.out.step b7)
                 clear X0
                 have X0 := X0'
                 clear X0'
                 have X1' := Lib.hid (X1.out.step b7)
                 clear X1
                 have X1 := X1'
                 clear X1'
                 have Q4' := Lib.hid (Q4.out.step b7)
                 clear Q4
                 have Q4 := Q4'
                 clear Q4'
                 have R5' := Lib.hid (R5.out.step b7)
                 clear R5
                 have R5 := R5'
                 clear R5'
                 have R6' := Lib.hid (R6.out.step b7)
                 clear R6
                 have R6 := R6'
                 clear R6'
                 have T7 := step T6 b7
                 have Z7 := b7.size
                 try rw [al_size] at r7
                 have Q7 := Lib.hid r7
                 clear r7 z7)
              | (go_at_call 34
                 clear tok8
                 refine (CS.out _ _ _ _ _ _ _ _ _ _ _ _ _ (by first | exact Q4.out.ri | exact (Q4.out.step (below_drew _)).ri | exact (Q4.out.step (below_alloc _ _)).ri) (by first | exact Q4.out.rf | exact (Q4.out.step (below_drew _)).rf | exact (Q4.out.step (below_alloc _ _)).rf) (by first | exact R5.out | exact R5.out.step (below_drew _) | exact R5.out.step (below_alloc _ _) | exact R5.out.step (step (below_alloc _ _) (below_alloc _ _))) (by first | exact R6.out | exact R6.out.step (below_drew _) | exact R6.out.step (below_alloc _ _) | exact R6.out.step (step (below_alloc _ _) (below_alloc _ _))) (by first | exact Q7.out.ri | exact (Q7.out.step (below_drew _)).ri | exact (Q7.out.step (below_alloc _ _)).ri) (by first | exact Q7.out.rv | exact (Q7.out.step (below_drew _)).rv | exact (Q7.out.step (below_alloc _ _)).rv)).mono ?_
                 rintro e u8 ⟨rfl, d8⟩
                 have b8 : Below u7.heap.size u7 u8 := by first | exact d8 | exact und d8 | exact undN d8 | exact below_new d8 | exact und (below_new d8) | exact below_new (und d8) | exact below_new (below_new d8) | exact step (below_drew _) (und (below_new d8))
                 have I0' := Lib.hid (I0.out.step b8)
                 clear I0
                 have I0 := I0'
                 clear I0'
                 have F0' := Lib.hid (F0.out.step b8)
                 clear F0
                 have F0 := F0'
                 clear F0'
                 have F1' := Lib.hid (F1.out.step b8)
                 clear F1
                 have F1 := F1'
                 clear F1'
                 have I2' := Lib.hid (I2.out.step b8)
                 clear I2
                 have I2 := I2'
                 clear I2'
                 have I3' := Lib.hid (I3.out.step b8)
                 clear I3
                 have I3 := I3'
                 clear I3'
                 have J3' := Lib.hid (J3.out.step b8)
                 clear J3
                 have J3 := J3'
                 clear J3'
                 have X0' := Lib.hid (X0.out.step b8)
                 clear X0
                 have X0 := X0'
                 clear X0'
                 have X1' := Lib.hid (X1.out.step b8)
                 clear X1
                 have X1 := X1'
                 clear X1'
                 have Q4' := Lib.hid (Q4.out.step b8)
                 clear Q4
                 have Q4 := Q4'
                 clear Q4'
                 have R5' := Lib.hid (R5.out.step b8)
                 clear R5
                 have R5 := R5'
                 clear R5'
                 have R6' := Lib.hid (R6.out.step b8)
                 clear R6
                 have R6 := R6'
                 clear R6'
                 have Q7' := Lib.hid (Q7.out.step b8)
                 clear Q7
                 have Q7 := Q7'
                 clear Q7'
                 have T8 := step T7 b8
                 have Z8 := b8.size))
          have ha0 := X0.out.cell 0
          have ha1 := X0.out.cell 1
          simp only [List.getElem?_toArray, List.getElem?_cons_zero, List.getElem?_cons_succ] at ha0 ha1
          have han := X0.out.lt
          have hb0 := X1.out.cell 0
          have hb1 := X1.out.cell 1
          simp only [List.getElem?_toArray, List.getElem?_cons_zero, List.getElem?_cons_succ] at hb0 hb1
          have hbn := X1.out.lt
          go_wp2_with fail
          refine (toQuery_r H0 A0 x0 c0 s0 l0 hl0 hz0 _ (by first | exact I0.out | exact I0.out.step (below_drew _) | exact I0.out.step (below_alloc _ _) | exact I0.out.step (step (below_alloc _ _) (below_alloc _ _))) (by first | exact F0.out | exact F0.out.step (below_drew _) | exact F0.out.step (below_alloc _ _) | exact F0.out.step (step (below_alloc _ _) (below_alloc _ _)))).mono ?_
          rintro e u9 ⟨rfl, r9, d9, z9⟩
          have b9 : Below u8.heap.size u8 u9 := by first | exact d9 | exact und d9 | exact undN d9 | exact below_new d9 | exact und (below_new d9) | exact below_new (und d9) | exact below_new (below_new d9) | exact step (below_drew _) (und (below_new d9))
          have I0' := Lib.hid (I0.out.step b9)
          clear I0
          have I0 := I0'
          clear I0'
          have F0' := Lib.hid (F0.out.step b9)
          clear F0
          have F0 := F0'
          clear F0'
          have F1' := Lib.hid (F1.out.step b9)
          clear F1
          have F1 := F1'
          clear F1'
          have I2' := Lib.hid (I2.out.step b9)
          clear I2
          have I2 := I2'
          clear I2'
          have I3' := Lib.hid (I3.out.step b9)
          clear I3
          have I3 := I3'
          clear I3'
          have J3' := Lib.hid (J3.out.step b9)
          clear J3
          have J3 := J3'
          clear J3'
          have X0' := Lib.hid (X0.out.step b9)
          clear X0
          have X0 := X0'
          clear X0'
          have X1' := Lib.hid (X1.out.step b9)
          clear X1
          have X1 := X1'
          clear X1'
          have T9 := step T8 b9
          have Z9 := b9.size
          try rw [al_size] at r9
          have Q9 := Lib.hid r9
          clear r9 z9
          go_wp2_with fail
          refine (toFactS_p A1 c1 l1 hz1 _ (by first | exact F1.out | exact F1.out.step (below_drew _) | exact F1.out.step (below_alloc _ _) | exact F1.out.step (step (below_alloc _ _) (below_alloc _ _)))).mono ?_
          rintro e u10 ⟨rfl, r10, d10, z10⟩
          have Y0 := Lib.hid (Box.of_new d10)
          have b10 : Below u9.heap.size u9 u10 := by first | exact d10 | exact und d10 | exact undN d10 | exact below_new d10 | exact und (below_new d10) | exact below_new (und d10) | exact below_new (below_new d10) | exact step (below_drew _) (und (below_new d10))
          have I0' := Lib.hid (I0.out.step b10)
          clear I0
          have I0 := I0'
          clear I0'
          have F0' := Lib.hid (F0.out.step b10)
          clear F0
          have F0 := F0'
          clear F0'
          have F1' := Lib.hid (F1.out.step b10)
          clear F1
          have F1 := F1'
          clear F1'
          have I2' := Lib.hid (I2.out.step b10)
          clear I2
          have I2 := I2'
          clear I2'
          have I3' := Lib.hid (I3.out.step b10)
          clear I3
          have I3 := I3'
          clear I3'
          have J3' := Lib.hid (J3.out.step b10)
          clear J3
          have J3 := J3'
          clear J3'
          have X0' := Lib.hid (X0.out.step b10)
          clear X0
          have X0 := X0'
          clear X0'
          have X1' := Lib.hid (X1.out.step b10)
          clear X1
          have X1 := X1'
          clear X1'
          have Q9' := Lib.hid (Q9.out.step b10)
          clear Q9
          have Q9 := Q9'
          clear Q9'
          have T10 := step T9 b10
          have Z10 := b10.size
          try rw [al_size] at r10
          have R10 := Lib.hid r10.rf
          clear r10 z10
          go_wp2_with fail
          refine (toIntS_r A2 c2 s2 hl2 _ (by first | exact I2.out | exact I2.out.step (below_drew _) | exact I2.out.step (below_alloc _ _) | exact I2.out.step (step (below_alloc _ _) (below_alloc _ _)))).mono ?_
          rintro e u11 ⟨rfl, r11, d11, z11⟩
          have b11 : Below u10.heap.size u10 u11 := by first | exact d11 | exact und d11 | exact undN d11 | exact below_new d11 | exact und (below_new d11) | exact below_new (und d11) | exact below_new (below_new d11) | exact step (below_drew _) (und (below_new d11))
          have I0' := Lib.hid (I0.out.step b11)
          clear I0
          have I0 := I0'
          clear I0'
          have F0' := Lib.hid (F0.out.step b11)
          clear F0
          have F0 := F0'
          clear F0'
          have F1' := Lib.hid (F1.out.step b11)
          clear F1
          have F1 := F1'
          clear F1'
          have I2' := Lib.hid (I2.out.step b11)
          clear I2
          have I2 := I2'
          clear I2'
          have I3' := Lib.hid (I3.out.step b11)
          clear I3
          have I3 := I3'
          clear I3'
          have J3' := Lib.hid (J3.out.step b11)
          clear J3
          have J3 := J3'
          clear J3'
          have X0' := Lib.hid (X0.out.step b11)
          clear X0
          have X0 := X0'
          clear X0'
          have X1' := Lib.hid (X1.out.step b11)
          clear X1
          have X1 := X1'
          clear X1'
          have Q9' := Lib.hid (Q9.out.step b11)
          clear Q9
          have Q9 := Q9'
          clear Q9'
          have R10' := Lib.hid (R10.out.step b11)
          clear R10
          have R10 := R10'
          clear R10'
          have Y0' := Lib.hid (Y0.out.step b11)
          clear Y0
          have Y0 := Y0'
          clear Y0'
          have T11 := step T10 b11
          have Z11 := b11.size
          have R11 := Lib.hid r11.ri
          clear r11 z11
          have hc0 := X1.out.cell 0
          have hc1 := X1.out.cell 1
          simp only [List.getElem?_toArray, List.getElem?_cons_zero, List.getElem?_cons_succ] at hc0 hc1
          have hcn := X1.out.lt
          go_wp2_with fail
          refine (toBinding_r H3 A3 x3 c3 s3 l3 hs3 hl3 _ (by first | exact I3.out | exact I3.out.step (below_drew _) | exact I3.out.step (below_alloc _ _) | exact I3.out.step (step (below_alloc _ _) (below_alloc _ _))) (by first | exact J3.out | exact J3.out.step (below_drew _) | exact J3.out.step (below_alloc _ _) | exact J3.out.step (step (below_alloc _ _) (below_alloc _ _)))).mono ?_
          rintro e u12 ⟨rfl, r12, d12, z12⟩
          have b12 : Below u11.heap.size u11 u12 := by first | exact d12 | exact und d12 | exact undN d12 | exact below_new d12 | exact und (below_new d12) | exact below_new (und d12) | exact below_new (below_new d12) | exact step (below_drew _) (und (below_new d12))
          have I0' := Lib.hid (I0.out.step b12)
          clear I0
          have I0 := I0'
          clear I0'
          have F0' := Lib.hid (F0.out.step b12)
          clear F0
          have F0 := F0'
          clear F0'
          have F1' := Lib.hid (F1.out.step b12)
          clear F1
          have F1 := F1'
          clear F1'
          have I2' := Lib.hid (I2.out.step b12)
          clear I2
          have I2 := I2'
          clear I2'
          have I3' := Lib.hid (I3.out.step b12)
          clear I3
          have I3 := I3'
          clear I3'
          have J3' := Lib.hid (J3.out.step b12)
          clear J3
          have J3 := J3'
          clear J3'
          have X0' := Lib.hid (X0.out.step b12)
          clear X0
          have X0 := X0'
          clear X0'
          have X1' := Lib.hid (X1.out.step b12)
          clear X1
          have X1 := X1'
          clear X1'
          have Q9' := Lib.hid (Q9.out.step b12)
          clear Q9
          have Q9 := Q9'
          clear Q9'
          have R10' := Lib.hid (R10.out.step b12)
          clear R10
          have R10 := R10'
          clear R10'
          have Y0' := Lib.hid (Y0.out.step b12)
          clear Y0
          have Y0 := Y0'
          clear Y0'
          have R11' := Lib.hid (R11.out.step b12)
          clear R11
          have R11 := R11'
          clear R11'
          have T12 := step T11 b12
          have Z12 := b12.size
          try rw [al_size] at r12
          have Q12 := Lib.hid r12
          clear r12 z12
          have hd0 := Y0.out.cell 0
          have hd1 := Y0.out.cell 1
          simp only [List.getElem?_toArray, List.getElem?_cons_zero, List.getElem?_cons_succ] at hd0 hd1
          have hdn := Y0.out.lt
          go_wp2_with fail
          refine (CI.out _ _ _ _ _ _ _ _ _ _ _ _ _ (by first | exact Q9.out.ri | exact (Q9.out.step (below_drew _)).ri | exact (Q9.out.step (below_alloc _ _)).ri) (by first | exact Q9.out.rf | exact (Q9.out.step (below_drew _)).rf | exact (Q9.out.step (below_alloc _ _)).rf) (by first | exact R10.out | exact R10.out.step (below_drew _) | exact R10.out.step (below_alloc _ _) | exact R10.out.step (step (below_alloc _ _) (below_alloc _ _))) (by first | exact R11.out | exact R11.out.step (below_drew _) | exact R11.out.step (below_alloc _ _) | exact R11.out.step (step (below_alloc _ _) (below_alloc _ _))) (by first | exact Q12.out.ri | exact (Q12.out.step (below_drew _)).ri | exact (Q12.out.step (below_alloc _ _)).ri) (by first | exact Q12.out.rv | exact (Q12.out.step (below_drew _)).rv | exact (Q12.out.step (below_alloc _ _)).rv)).mono ?_
          rintro e u13 ⟨rfl, d13⟩
          have Y1 := Lib.hid (Box.of_new d13)
          have b13 : Below u12.heap.size u12 u13 := by first | exact d13 | exact und d13 | exact undN d13 | exact below_new d13 | exact und (below_new d13) | exact below_new (und d13) | exact below_new (below_new d13) | exact step (below_drew _) (und (below_new d13))
          have I0' := Lib.hid (I0.out.step b13)
          clear I0
          have I0 := I0'
          clear I0'
          have F0' := Lib.hid (F0.out.step b13)
          clear F0
          have F0 := F0'
          clear F0'
          have F1' := Lib.hid (F1.out.step b13)
          clear F1
          have F1 := F1'
          clear F1'
          have I2' := Lib.hid (I2.out.step b13)
          clear I2
          have I2 := I2'
          clear I2'
          have I3' := Lib.hid (I3.out.step b13)
          clear I3
          have I3 := I3'
          clear I3'
          have J3' := Lib.hid (J3.out.step b13)
          clear J3
          have J3 := J3'
          clear J3'
          have X0' := Lib.hid (X0.out.step b13)
          clear X0
          have X0 := X0'
          clear X0'
          have X1' := Lib.hid (X1.out.step b13)
          clear X1
          have X1 := X1'
          clear X1'
          have Q9' := Lib.hid (Q9.out.step b13)
          clear Q9
          have Q9 := Q9'
          clear Q9'
          have R10' := Lib.hid (R10.out.step b13)
          clear R10
          have R10 := R10'
          clear R10'
          have Y0' := Lib.hid (Y0.out.step b13)
          clear Y0
          have Y0 := Y0'
          clear Y0'
          have R11' := Lib.hid (R11.out.step b13)
          clear R11
          have R11 := R11'
          clear R11'
          have Q12' := Lib.hid (Q12.out.step b13)
          clear Q12
          have Q12 := Q12'
          clear Q12'
          have T13 := step T12 b13
          have Z13 := b13.size
          have ia0 := X0.out.cell 0
          have ia1 := X0.out.cell 1
          simp only [List.getElem?_toArray, List.getElem?_cons_zero, List.getElem?_cons_succ] at ia0 ia1
          have ian := X0.out.lt
          have ib0 := Y0.out.cell 0
          have ib1 := Y0.out.cell 1
          simp only [List.getElem?_toArray, List.getElem?_cons_zero, List.getElem?_cons_succ] at ib0 ib1
          have ibn := Y0.out.lt
          have tok14 : True := trivial
          have tok15 : True := trivial
          go_wp2_with fail
          go_region_held3 (fun w' => w'.cell? ⟨w.heap.size, 0, none⟩ = some (.slice H0 s0.length x0) ∧ w'.cell? ⟨w.heap.size, 1, none⟩ = some (.slice A0 l0.length c0) ∧ w'.cell? ⟨u9.heap.size, 0, none⟩ = some (.slice (some ⟨u8.heap.size + 3, 0, none⟩) s0.length s0.length) ∧ w'.cell? ⟨u9.heap.size, 1, none⟩ = some (.slice (some ⟨u8.heap.size + 3 + 1, 0, none⟩) l0.length l0.length))
            (first
              | go_keep
              | (go_split_ands; refine ⟨?_, ?_, ?_, ?_⟩ <;> (rw [d14.cell (by (try simp) <;> omega)]; assumption))
              | (go_split_ands; refine ⟨?_, ?_, ?_, ?_⟩ <;> (rw [d15.cell (by (try simp) <;> omega)]; assumption)))
            (first
              | (go_at_call 12
                 clear tok14
                 refine (toQuery_r H0 A0 x0 c0 s0 l0 hl0 hz0 _ (by first | exact I0.out | exact I0.out.step (below_drew _) | exact I0.out.step (below_alloc _ _) | exact I0.out.step (step (below_alloc _ _) (below_alloc _ _))) (by first | exact F0.out | exact F0.out.step (below_drew _) | exact F0.out.step (below_alloc _ _) | exact F0.out.step (step (below_alloc _ _) (below_alloc _ _)))).mono ?_
                 rintro e u14 ⟨rfl, r14, d14, z14⟩
                 have b14 : Below u13.heap.size u13 u14 := by first | exact d14 | exact und d14 | exact undN d14 | exact below_new d14 | exact und (below_new d14) | exact below_new (und d14) | exact below_new (below_new d14) | exact step (below_drew _) (und (below_new d14))
                 have I0' := Lib.hid (I0.out.step b14)
                 clear I0
                 have I0 := I0'
                 clear I0'
                 have F0' := Lib.hid (F0.out.step b14)
                 clear F0
                 have F0 := F0'
                 clear F0'
                 have F1' := Lib.hid (F1.out.step b14)
                 clear F1
                 have F1 := F1'
                 clear F1'
                 have I2' := Lib.hid (I2.out.step b14)
                 clear I2
                 have I2 := I2'
                 clear I2'
                 have I3' := Lib.hid (I3.out.step b14)
                 clear I3
                 have I3 := I3'
                 clear I3'
                 have J3' := Lib.hid (J3.out.step b14)
                 clear J3
                 have J3 := J3'
                 clear J3'
                 have X0' := Lib.hid (X0.out.step b14)
                 clear X0
                 have X0 := X0'
                 clear X0'
                 have X1' := Lib.hid (X1.out.step b14)
                 clear X1
                 have X1 := X1'
                 clear X1'
                 have Q9' := Lib.hid (Q9.out.step b14)
                 clear Q9
                 have Q9 := Q9'
                 clear Q9'
                 have R10' := Lib.hid (R10.out.step b14)
                 clear R10
                 have R10 := R10'
                 clear R10'
                 have Y0' := Lib.hid (Y0.out.step b14)
                 clear Y0
                 have Y0 := Y0'
                 clear Y0'
                 have R11' := Lib.hid (R11.out.step b14)
                 clear R11
                 have R11 := R11'
                 clear R11'
                 have Q12' := Lib.hid (Q12.out.step b14)
                 clear Q12
                 have Q12 := Q12'
                 clear Q12'
                 have Y1' := Lib.hid (Y1.out.step b14)
                 clear Y1
                 have Y1 := Y1'
                 clear Y1'
                 have T14 := step T13 b14
                 have Z14 := b14.size
                 try rw [al_size] at r14
                 have Q14 := Lib.hid r14
                 clear r14 z14)
              | (go_at_call 16
                 clear tok15
                 refine (eqQuery_b _ _ _ _ _ _ _ _ s0 l0 hl0 (by omega) _ (by first | exact Q9.out.ri | exact (Q9.out.step (below_drew _)).ri | exact (Q9.out.step (below_alloc _ _)).ri) (by first | exact Q9.out.rf | exact (Q9.out.step (below_drew _)).rf | exact (Q9.out.step (below_alloc _ _)).rf) (by first | exact Q14.out.ri | exact (Q14.out.step (below_drew _)).ri | exact (Q14.out.step (below_alloc _ _)).ri) (by first | exact Q14.out.rf | exact (Q14.out.step (below_drew _)).rf | exact (Q14.out.step (below_alloc _ _)).rf)).mono ?_
                 rintro e u15 ⟨rfl, d15⟩
                 have b15 : Below u14.heap.size u14 u15 := by first | exact d15 | exact und d15 | exact undN d15 | exact below_new d15 | exact und (below_new d15) | exact below_new (und d15) | exact below_new (below_new d15) | exact step (below_drew _) (und (below_new d15))
                 have I0' := Lib.hid (I0.out.step b15)
                 clear I0
                 have I0 := I0'
                 clear I0'
                 have F0' := Lib.hid (F0.out.step b15)
                 clear F0
                 have F0 := F0'
                 clear F0'
                 have F1' := Lib.hid (F1.out.step b15)
                 clear F1
                 have F1 := F1'
                 clear F1'
                 have I2' := Lib.hid (I2.out.step b15)
                 clear I2
                 have I2 := I2'
                 clear I2'
                 have I3' := Lib.hid (I3.out.step b15)
                 clear I3
                 have I3 := I3'
                 clear I3'
                 have J3' := Lib.hid (J3.out.step b15)
                 clear J3
                 have J3 := J3'
                 clear J3'
                 have X0' := Lib.hid (X0.out.step b15)
                 clear X0
                 have X0 := X0'
                 clear X0'
                 have X1' := Lib.hid (X1.out.step b15)
                 clear X1
                 have X1 := X1'
                 clear X1'
                 have Q9' := Lib.hid (Q9.out.step b15)
                 clear Q9
                 have Q9 := Q9'
                 clear Q9'
                 have R10' := Lib.hid (R10.out.step b15)
                 clear R10
                 have R10 := R10'
                 clear R10'
                 have Y0' := Lib.hid (Y0.out.step b15)
                 clear Y0
                 have Y0 := Y0'
                 clear Y0'
                 have R11' := Lib.hid (R11.out.step b15)
                 clear R11
                 have R11 := R11'
                 clear R11'
                 have Q12' := Lib.hid (Q12.out.step b15)
                 clear Q12
                 have Q12 := Q12'
                 clear Q12'
                 have Y1' := Lib.hid (Y1.out.step b15)
                 clear Y1
                 have Y1 := Y1'
                 clear Y1'
                 have Q14' := Lib.hid (Q14.out.step b15)
                 clear Q14
                 have Q14 := Q14'
                 clear Q14'
                 have T15 := step T14 b15
                 have Z15 := b15.size))
          go_wp2_with fail
          refine (toFactS_r A1 c1 l1 hz1 _ (by first | exact F1.out | exact F1.out.step (below_drew _) | exact F1.out.step (below_alloc _ _) | exact F1.out.step (step (below_alloc _ _) (below_alloc _ _)))).mono ?_
          rintro e u16 ⟨rfl, r16, d16, z16⟩
          have b16 : Below u15.heap.size u15 u16 := by first | exact d16 | exact und d16 | exact undN d16 | exact below_new d16 | exact und (below_new d16) | exact below_new (und d16) | exact below_new (below_new d16) | exact step (below_drew _) (und (below_new d16))
          have I0' := Lib.hid (I0.out.step b16)
          clear I0
          have I0 := I0'
          clear I0'
          have F0' := Lib.hid (F0.out.step b16)
          clear F0
          have F0 := F0'
          clear F0'
          have F1' := Lib.hid (F1.out.step b16)
          clear F1
          have F1 := F1'
          clear F1'
          have I2' := Lib.hid (I2.out.step b16)
          clear I2
          have I2 := I2'
          clear I2'
          have I3' := Lib.hid (I3.out.step b16)
          clear I3
          have I3 := I3'
          clear I3'
          have J3' := Lib.hid (J3.out.step b16)
          clear J3
          have J3 := J3'
          clear J3'
          have X0' := Lib.hid (X0.out.step b16)
          clear X0
          have X0 := X0'
          clear X0'
          have X1' := Lib.hid (X1.out.step b16)
          clear X1
          have X1 := X1'
          clear X1'
          have Q9' := Lib.hid (Q9.out.step b16)
          clear Q9
          have Q9 := Q9'
          clear Q9'
          have R10' := Lib.hid (R10.out.step b16)
          clear R10
          have R10 := R10'
          clear R10'
          have Y0' := Lib.hid (Y0.out.step b16)
          clear Y0
          have Y0 := Y0'
          clear Y0'
          have R11' := Lib.hid (R11.out.step b16)
          clear R11
          have R11 := R11'
          clear R11'
          have Q12' := Lib.hid (Q12.out.step b16)
          clear Q12
          have Q12 := Q12'
          clear Q12'
          have Y1' := Lib.hid (Y1.out.step b16)
          clear Y1
          have Y1 := Y1'
          clear Y1'
          have T16 := step T15 b16
          have Z16 := b16.size
          have R16 := Lib.hid r16
          clear r16 z16
          go_wp2_with fail
          refine (eqFactS_r _ _ _ _ l1 hz1 _ (by first | exact R10.out | exact R10.out.step (below_drew _) | exact R10.out.step (below_alloc _ _) | exact R10.out.step (step (below_alloc _ _) (below_alloc _ _))) (by first | exact R16.out | exact R16.out.step (below_drew _) | exact R16.out.step (below_alloc _ _) | exact R16.out.step (step (below_alloc _ _) (below_alloc _ _)))).mono ?_
          rintro e u17 ⟨rfl, d17⟩
          have b17 : Below u16.heap.size u16 u17 := by first | exact d17 | exact und d17 | exact undN d17 | exact below_new d17 | exact und (below_new d17) | exact below_new (und d17) | exact below_new (below_new d17) | exact step (below_drew _) (und (below_new d17))
          have I0' := Lib.hid (I0.out.step b17)
          clear I0
          have I0 := I0'
          clear I0'
          have F0' := Lib.hid (F0.out.step b17)
          clear F0
          have F0 := F0'
          clear F0'
          have F1' := Lib.hid (F1.out.step b17)
          clear F1
          have F1 := F1'
          clear F1'
          have I2' := Lib.hid (I2.out.step b17)
          clear I2
          have I2 := I2'
          clear I2'
          have I3' := Lib.hid (I3.out.step b17)
          clear I3
          have I3 := I3'
          clear I3'
          have J3' := Lib.hid (J3.out.step b17)
          clear J3
          have J3 := J3'
          clear J3'
          have X0' := Lib.hid (X0.out.step b17)
          clear X0
          have X0 := X0'
          clear X0'
          have X1' := Lib.hid (X1.out.step b17)
          clear X1
          have X1 := X1'
          clear X1'
          have Q9' := Lib.hid (Q9.out.step b17)
          clear Q9
          have Q9 := Q9'
          clear Q9'
          have R10' := Lib.hid (R10.out.step b17)
          clear R10
          have R10 := R10'
          clear R10'
          have Y0' := Lib.hid (Y0.out.step b17)
          clear Y0
          have Y0 := Y0'
          clear Y0'
          have R11' := Lib.hid (R11.out.step b17)
          clear R11
          have R11 := R11'
          clear R11'
          have Q12' := Lib.hid (Q12.out.step b17)
          clear Q12
          have Q12 := Q12'
          clear Q12'
          have Y1' := Lib.hid (Y1.out.step b17)
          clear Y1
          have Y1 := Y1'
          clear Y1'
          have R16' := Lib.hid (R16.out.step b17)
          clear R16
          have R16 := R16'
          clear R16'
          have T17 := step T16 b17
          have Z17 := b17.size
          go_wp2_with fail
          refine (toIntS_r A2 c2 s2 hl2 _ (by first | exact I2.out | exact I2.out.step (below_drew _) | exact I2.out.step (below_alloc _ _) | exact I2.out.step (step (below_alloc _ _) (below_alloc _ _)))).mono ?_
          rintro e u18 ⟨rfl, r18, d18, z18⟩
          have b18 : Below u17.heap.size u17 u18 := by first | exact d18 | exact und d18 | exact undN d18 | exact below_new d18 | exact und (below_new d18) | exact below_new (und d18) | exact below_new (below_new d18) | exact step (below_drew _) (und (below_new d18))
          have I0' := Lib.hid (I0.out.step b18)
          clear I0
          have I0 := I0'
          clear I0'
          have F0' := Lib.hid (F0.out.step b18)
          clear F0
          have F0 := F0'
          clear F0'
          have F1' := Lib.hid (F1.out.step b18)
          clear F1
          have F1 := F1'
          clear F1'
          have I2' := Lib.hid (I2.out.step b18)
          clear I2
          have I2 := I2'
          clear I2'
          have I3' := Lib.hid (I3.out.step b18)
          clear I3
          have I3 := I3'
          clear I3'
          have J3' := Lib.hid (J3.out.step b18)
          clear J3
          have J3 := J3'
          clear J3'
          have X0' := Lib.hid (X0.out.step b18)
          clear X0
          have X0 := X0'
          clear X0'
          have X1' := Lib.hid (X1.out.step b18)
          clear X1
          have X1 := X1'
          clear X1'
          have Q9' := Lib.hid (Q9.out.step b18)
          clear Q9
          have Q9 := Q9'
          clear Q9'
          have R10' := Lib.hid (R10.out.step b18)
          clear R10
          have R10 := R10'
          clear R10'
          have Y0' := Lib.hid (Y0.out.step b18)
          clear Y0
          have Y0 := Y0'
          clear Y0'
          have R11' := Lib.hid (R11.out.step b18)
          clear R11
          have R11 := R11'
          clear R11'
          have Q12' := Lib.hid (Q12.out.step b18)
          clear Q12
          have Q12 := Q12'
          clear Q12'
          have Y1' := Lib.hid (Y1.out.step b18)
          clear Y1
          have Y1 := Y1'
          clear Y1'
          have T18 := step T17 b18
          have Z18 := b18.size
          have R18 := Lib.hid r18.ri
          clear r18 z18
          go_wp2_with fail
          refine (eqIntS_r _ _ _ _ s2 hl2 _ (by first | exact R11.out | exact R11.out.step (below_drew _) | exact R11.out.step (below_alloc _ _) | exact R11.out.step (step (below_alloc _ _) (below_alloc _ _))) (by first | exact R18.out | exact R18.out.step (below_drew _) | exact R18.out.step (below_alloc _ _) | exact R18.out.step (step (below_alloc _ _) (below_alloc _ _)))).mono ?_
          rintro e u19 ⟨rfl, d19⟩
          have b19 : Below u18.heap.size u18 u19 := by first | exact d19 | exact und d19 | exact undN d19 | exact below_new d19 | exact und (below_new d19) | exact below_new (und d19) | exact below_new (below_new d19) | exact step (below_drew _) (und (below_new d19))
          have I0' := Lib.hid (I0.out.step b19)
          clear I0
          have I0 := I0'
          clear I0'
          have F0' := Lib.hid (F0.out.step b19)
          clear F0
          have F0 := F0'
          clear F0'
          have F1' := Lib.hid (F1.out.step b19)
          clear F1
          have F1 := F1'
          clear F1'
          have I2' := Lib.hid (I2.out.step b19)
          clear I2
          have I2 := I2'
          clear I2'
          have I3' := Lib.hid (I3.out.step b19)
          clear I3
          have I3 := I3'
          clear I3'
          have J3' := Lib.hid (J3.out.step b19)
          clear J3
          have J3 := J3'
          clear J3'
          have X0' := Lib.hid (X0.out.step b19)
          clear X0
          have X0 := X0'
          clear X0'
          have X1' := Lib.hid (X1.out.step b19)
          clear X1
          have X1 := X1'
          clear X1'
          have Q9' := Lib.hid (Q9.out.step b19)
          clear Q9
          have Q9 := Q9'
          clear Q9'
          have R10' := Lib.hid (R10.out.step b19)
          clear R10
          have R10 := R10'
          clear R10'
          have Y0' := Lib.hid (Y0.out.step b19)
          clear Y0
          have Y0 := Y0'
          clear Y0'
          have R11' := Lib.hid (R11.out.step b19)
          clear R11
          have R11 := R11'
          clear R11'
          have Q12' := Lib.hid (Q12.out.step b19)
          clear Q12
          have Q12 := Q12'
          clear Q12'
          have Y1' := Lib.hid (Y1.out.step b19)
          clear Y1
          have Y1 := Y1'
          clear Y1'
          have R18' := Lib.hid (R18.out.step b19)
          clear R18
          have R18 := R18'
          clear R18'
          have T19 := step T18 b19
          have Z19 := b19.size
          have ic0 := X1.out.cell 0
          have ic1 := X1.out.cell 1
          simp only [List.getElem?_toArray, List.getElem?_cons_zero, List.getElem?_cons_succ] at ic0 ic1
          have icn := X1.out.lt
          have id0 := Y1.out.cell 0
          have id1 := Y1.out.cell 1
          simp only [List.getElem?_toArray, List.getElem?_cons_zero, List.getElem?_cons_succ] at id0 id1
          have idn := Y1.out.lt
          have tok20 : True := trivial
          have tok21 : True := trivial
          go_wp2_with fail
          go_region_held3 (fun w' => w'.cell? ⟨w.heap.size + 1, 0, none⟩ = some (.slice H3 s3.length x3) ∧ w'.cell? ⟨w.heap.size + 1, 1, none⟩ = some (.slice A3 l3.length c3) ∧ w'.cell? ⟨u12.heap.size, 0, none⟩ = some (.slice (some ⟨u11.heap.size + 3, 0, none⟩) s3.length s3.length) ∧ w'.cell? ⟨u12.heap.size, 1, none⟩ = some (.slice (some ⟨u11.heap.size + 3 + 1, 0, none⟩) l3.length l3.length))
            (first
              | go_keep
              | (go_split_ands; refine ⟨?_, ?_, ?_, ?_⟩ <;> (rw [d20.cell (by (try simp) <;> omega)]; assumption))
              | (go_split_ands; refine ⟨?_, ?_, ?_, ?_⟩ <;> (rw [d21.cell (by (try simp) <;> omega)]; assumption)))
            (first
              | (go_at_call 24
                 clear tok20
                 refine (toBinding_r H3 A3 x3 c3 s3 l3 hs3 hl3 _ (by first | exact I3.out | exact I3.out.step (below_drew _) | exact I3.out.step (below_alloc _ _) | exact I3.out.step (step (below_alloc _ _) (below_alloc _ _))) (by first | exact J3.out | exact J3.out.step (below_drew _) | exact J3.out.step (below_alloc _ _) | exact J3.out.step (step (below_alloc _ _) (below_alloc _ _)))).mono ?_
                 rintro e u20 ⟨rfl, r20, d20, z20⟩
                 have b20 : Below u19.heap.size u19 u20 := by first | exact d20 | exact und d20 | exact undN d20 | exact below_new d20 | exact und (below_new d20) | exact below_new (und d20) | exact below_new (below_new d20) | exact step (below_drew _) (und (below_new d20))
                 have I0' := Lib.hid (I0.out.step b20)
                 clear I0
                 have I0 := I0'
                 clear I0'
                 have F0' := Lib.hid (F0.out.step b20)
                 clear F0
                 have F0 := F0'
                 clear F0'
                 have F1' := Lib.hid (F1.out.step b20)
                 clear F1
                 have F1 := F1'
                 clear F1'
                 have I2' := Lib.hid (I2.out.step b20)
                 clear I2
                 have I2 := I2'
                 clear I2'
                 have I3' := Lib.hid (I3.out.step b20)
                 clear I3
                 have I3 := I3'
                 clear I3'
                 have J3' := Lib.hid (J3.out.step b20)
                 clear J3
                 have J3 := J3'
                 clear J3'
                 have X0' := Lib.hid (X0.out.step b20)
                 clear X0
                 have X0 := X0'
                 clear X0'
                 have X1' := Lib.hid (X1.out.step b20)
                 clear X1
                 have X1 := X1'
                 clear X1'
                 have Q9' := Lib.hid (Q9.out.step b20)
                 clear Q9
                 have Q9 := Q9'
                 clear Q9'
                 have R10' := Lib.hid (R10.out.step b20)
                 clear R10
                 have R10 := R10'
                 clear R10'
                 have Y0' := Lib.hid (Y0.out.step b20)
                 clear Y0
                 have Y0 := Y0'
                 clear Y0'
                 have R11' := Lib.hid (R11.out.step b20)
                 clear R11
                 have R11 := R11'
                 clear R11'
                 have Q12' := Lib.hid (Q12.out.step b20)
                 clear Q12
                 have Q12 := Q12'
                 clear Q12'
                 have Y1' := Lib.hid (Y1.out.step b20)
                 clear Y1
                 have Y1 := Y1'
                 clear Y1'
                 have T20 := step T19 b20
                 have Z20 := b20.size
                 try rw [al_size] at r20
                 have Q20 := Lib.hid r20
                 clear r20 z20)
              | (go_at_call 15
                 clear tok21
                 refine (eqBinding_b _ _ _ _ _ _ _ _ s3 l3 hs3 hl3 _ (by first | exact Q12.out.ri | exact (Q12.out.step (below_drew _)).ri | exact (Q12.out.step (below_alloc _ _)).ri) (by first | exact Q12.out.rv | exact (Q12.out.step (below_drew _)).rv | exact (Q12.out.step (below_alloc _ _)).rv) (by first | exact Q20.out.ri | exact (Q20.out.step (below_drew _)).ri | exact (Q20.out.step (below_alloc _ _)).ri) (by first | exact Q20.out.rv | exact (Q20.out.step (below_drew _)).rv | exact (Q20.out.step (below_alloc _ _)).rv)).mono ?_
                 rintro e u21 ⟨rfl, d21⟩
                 have b21 : Below u20.heap.size u20 u21 := by first | exact d21 | exact und d21 | exact undN d21 | exact below_new d21 | exact und (below_new d21) | exact below_new (und d21) | exact below_new (below_new d21) | exact step (below_drew _) (und (below_new d21))
                 have I0' := Lib.hid (I0.out.step b21)
                 clear I0
                 have I0 := I0'
                 clear I0'
                 have F0' := Lib.hid (F0.out.step b21)
                 clear F0
                 have F0 := F0'
                 clear F0'
                 have F1' := Lib.hid (F1.out.step b21)
                 clear F1
                 have F1 := F1'
                 clear F1'
                 have I2' := Lib.hid (I2.out.step b21)
                 clear I2
                 have I2 := I2'
                 clear I2'
                 have I3' := Lib.hid (I3.out.step b21)
                 clear I3
                 have I3 := I3'
                 clear I3'
                 have J3' := Lib.hid (J3.out.step b21)
                 clear J3
                 have J3 := J3'
                 clear J3'
                 have X0' := Lib.hid (X0.out.step b21)
                 clear X0
                 have X0 := X0'
                 clear X0'
                 have X1' := Lib.hid (X1.out.step b21)
                 clear X1
                 have X1 := X1'
                 clear X1'
                 have Q9' := Lib.hid (Q9.out.step b21)
                 clear Q9
                 have Q9 := Q9'
                 clear Q9'
                 have R10' := Lib.hid (R10.out.step b21)
                 clear R10
                 have R10 := R10'
                 clear R10'
                 have Y0' := Lib.hid (Y0.out.step b21)
                 clear Y0
                 have Y0 := Y0'
                 clear Y0'
                 have R11' := Lib.hid (R11.out.step b21)
                 clear R11
                 have R11 := R11'
                 clear R11'
                 have Q12' := Lib.hid (Q12.out.step b21)
                 clear Q12
                 have Q12 := Q12'
                 clear Q12'
                 have Y1' := Lib.hid (Y1.out.step b21)
                 clear Y1
                 have Y1 := Y1'
                 clear Y1'
                 have Q20' := Lib.hid (Q20.out.step b21)
                 clear Q20
                 have Q20 := Q20'
                 clear Q20'
                 have T21 := step T20 b21
                 have Z21 := b21.size))
          go_wp2
          go_ret
          exact ⟨rfl, by first | exact T21 | exact T21.drew⟩

set_option maxRecDepth 100000 in
theorem lifted (os : Os) (started : os.Started) (H : Type) (enc : TypeId × Value → H) :
    ReturnsInHanded {} Try.checked os 6 .any (Rows.fnExactIsMappingSpec.pre6 enc Try.prog Try.f6 Rows.fnExactIsMappingRow.domain false) (Rows.fnExactIsMappingSpec.post enc Try.prog Try.f6 false true false false) := by
  refine returnsInHanded_of_change (C := Try.checked) own started (by kernel_rfl) Try.func6
    (ChangeSpec.witness6 (enc := enc) (C := Try.checked) false ⟨#[], #[.agg #[.slice none 0 0, .slice none 0 0], .slice none 0 0, .slice none 0 0, .agg #[.slice none 0 0, .slice none 0 0]], []⟩ 8 (by kernel_rfl) (by kernel_rfl) (by kernel_rfl) (by kernel_rfl)) ?_
  intro W base args ds gs before hval0 hW hcnd _
  have hval : ∀ (j : Nat) t v, Try.f6.params[j]? = some t → args[j]? = some v → Value.okWide Try.prog W .any base t v := hval0
  have hpost := fun (W' : World) (hfn : Rows.fnExactIsMappingSpec.fn H (ds ++ gs) = { results := [.lit (.bool true)], args := ds }) (hb : Below W.heap.size W W') => law_post (enc := enc) laidOut (f := Try.f6) (s := Rows.fnExactIsMappingSpec) (args := args) rfl rfl Try.underlying4 (by intro t ht; rw [Try.params6] at ht; simp at ht; rcases ht with rfl | rfl | rfl | rfl <;> exact ⟨by kernel_rfl, of_decide_eq_true (by kernel_rfl)⟩) hW hfn hb
  obtain ⟨p, q, hA0, hV, rfl, hfz, hnd⟩ := hW
  have hA : DataW.TrodAll enc Try.prog W 0 (fun _ => true) true Try.f6.params.toList args.toList ds p := hA0
  rw [Try.params6] at hA hval
  obtain ⟨v0, vs0, d0, ds0, p0, q0, hargs, rfl, rfl, h0, r0⟩ := trodAll_cons hA
  obtain ⟨v1, vs1, d1, ds1, p1, q1, rfl, rfl, rfl, h1, r1⟩ := trodAll_cons r0
  obtain ⟨v2, vs2, d2, ds2, p2, q2, rfl, rfl, rfl, h2, r2⟩ := trodAll_cons r1
  obtain ⟨v3, vs3, d3, ds3, p3, q3, rfl, rfl, rfl, h3, r3⟩ := trodAll_cons r2
  obtain ⟨rfl, rfl, rfl⟩ := trodAll_nil r3
  obtain rfl : args = #[v0, v1, v2, v3] := by cases args; simp_all
  obtain ⟨rfl, rfl⟩ := trodVars_none hV
  obtain ⟨H0, A0, x0, c0, s0, l0, rfl, y0, z0, k0, m0, w0⟩ := open_queryT (hval 0 25 v0 rfl rfl) h0
  obtain ⟨A1, c1, l1, rfl, k1, m1, w1⟩ := open_factsT (hval 1 50 v1 rfl rfl) h1
  obtain ⟨A2, c2, s2, rfl, l2, m2, w2⟩ := open_numsT Try.underlying22 Try.underlying3 (by kernel_rfl) (hval 2 22 v2 rfl rfl) h2
  obtain ⟨H3, A3, x3, c3, s3, l3, rfl, y3, z3, k3, m3, w3⟩ := open_bindingT (hval 3 43 v3 rfl rfl) h3
  refine (walk W H0 A0 x0 c0 s0 l0 y0 z0 k0 m0 w0 A1 c1 l1 k1 m1 w1 A2 c2 s2 l2 m2 w2 H3 A3 x3 c3 s3 l3 y3 z3 k3 m3 w3).mono fun e W' ⟨he, hg⟩ => ?_
  subst he
  exact ⟨_, rfl, hpost W' rfl hg⟩

theorem over : Rows.fnExactIsMappingRow.holds Try.pinned (OpenSpec.ofChange Rows.fnExactIsMappingSpec) :=
  OpenClaim.holds_of_wide 6 Try.f6 rfl rfl rfl rfl rfl rfl rfl ⟨rfl, rfl, rfl, rfl, rfl⟩ rfl rfl rfl rfl rfl (by kernel_rfl) Try.func6 (by kernel_rfl)
    (of_decide_eq_true (by kernel_rfl)) (by unfold Func.isWrapper; first | (rw [if_pos (by decide +kernel)]; kernel_rfl) | (rw [if_neg (by decide +kernel)]; exact ⟨rfl, rfl⟩))
    (fun os started H enc _ => lifted os started H enc)
end Go.Proofs.Ytpdmkdhnidgjoaa.fnExactIsMapping
namespace Go.Proofs.Ytpdmkdhnidgjoaa
theorem fnExactIsMapping_holds : Rows.FnExactIsMappingSaid := fnExactIsMapping.over
#print axioms fnExactIsMapping_holds
end Go.Proofs.Ytpdmkdhnidgjoaa
