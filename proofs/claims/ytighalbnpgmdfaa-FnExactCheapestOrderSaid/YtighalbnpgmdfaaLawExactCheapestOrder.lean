/- impl.CheapestOrder answers as its model at every argument: the law FnExactCheapestOrder returns true. Conditions: none beyond the statement's own. -/
import Derived.Test.YtighalbnpgmdfaaChA
import Derived.Test.YtighalbnpgmdfaaQL
namespace Go.Proofs.Ytighalbnpgmdfaa.fnExactCheapestOrder
open Go.ChangeShapes Go.WideShapes Go.ChangeAt Go.RowKit
open Go.ChangeMaps (open_string shut_string)
set_option linter.unusedVariables false
set_option linter.unusedSimpArgs false
open Go.Proofs.Ytighalbnpgmdfaa.atom
set_option maxRecDepth 100000 in
set_option maxHeartbeats 1000000 in
theorem walk (w : World) (A0 : Option Addr) (c0 : Nat) (s0 : List Int) (l0 : s0.length ≤ c0) (m0 : c0 ≤ maxLen) (w0 : Ints w 0 w.heap.size A0 s0) (A1 : Option Addr) (c1 : Nat) (l1 : ML) (k1 : l1.length ≤ c1) (m1 : c1 ≤ maxLen) (w1 : Meths w 0 w.heap.size A1 l1) (H2 A2 : Option Addr) (x2 c2 : Nat) (s2 : List Int) (l2 : FL) (y2 : s2.length ≤ x2) (z2 : x2 ≤ maxLen) (k2 : l2.length ≤ c2) (m2 : c2 ≤ maxLen) (w2 : Ints w 0 w.heap.size H2 s2 ∧ Facts w 0 w.heap.size A2 l2) :
    Calls Try.prog 6 #[.slice A0 s0.length c0, .slice A1 l1.length c1, .agg #[.slice H2 s2.length x2, .slice A2 l2.length c2]] w fun e w' => e = .returned (.bool true) ∧ Below w.heap.size w w' := by
  unfold maxLen at m0 m1 z2 m2
  have hn1 := szM_nonneg l1
  have hn2 := szF_nonneg l2
  have EQ2 := Lib.hid (show szQ s2 l2 = (s2.length : Int) + szF l2 from rfl)
  have hq2 : 0 ≤ szQ s2 l2 := by rw [EQ2.out]; omega
  by_cases hb0 : (1048576 : Int) < s0.length
  · have I0 := Lib.hid (show RI w A0 s0 from w0)
    have I1 := Lib.hid (show RM w A1 l1 from w1)
    have I2 := Lib.hid (show RI w H2 s2 from w2.1)
    have F2 := Lib.hid (show RF w A2 l2 from w2.2)
    have I0w := Lib.hid w0
    have I1w := Lib.hid w1
    have I2w := Lib.hid w2
    clear w0 w1 w2
    go_enter Try.func6, Try.ntmps6
    go_wp2
    go_ret
    exact ⟨rfl, below_alloc _ _⟩
  · skip
    by_cases hb1 : 1048576 - szM l1 < 0
    · have I0 := Lib.hid (show RI w A0 s0 from w0)
      have I1 := Lib.hid (show RM w A1 l1 from w1)
      have I2 := Lib.hid (show RI w H2 s2 from w2.1)
      have F2 := Lib.hid (show RF w A2 l2 from w2.2)
      have I0w := Lib.hid w0
      have I1w := Lib.hid w1
      have I2w := Lib.hid w2
      clear w0 w1 w2
      go_enter Try.func6, Try.ntmps6
      go_wp2_with fail
      refine (szMethodS_any A1 c1 l1 1048576 (by omega) (by omega) (by omega) _ (by first | exact I1.out | exact I1.out.step (below_drew _) | exact I1.out.step (below_alloc _ _) | exact I1.out.step (step (below_alloc _ _) (below_alloc _ _)))).mono ?_
      rintro e u1 ⟨he, d1⟩
      rw [if_pos hb1] at he
      subst he
      have X2 := Lib.hid (Box.of_new d1)
      have b1 : Below w.heap.size w u1 := by first | exact d1 | exact und d1 | exact undN d1 | exact below_new d1 | exact und (below_new d1) | exact below_new (und d1) | exact below_new (below_new d1) | exact step (below_drew _) (und (below_new d1))
      have I0' := Lib.hid (I0.out.step b1)
      clear I0
      have I0 := I0'
      clear I0'
      have I1' := Lib.hid (I1.out.step b1)
      clear I1
      have I1 := I1'
      clear I1'
      have I2' := Lib.hid (I2.out.step b1)
      clear I2
      have I2 := I2'
      clear I2'
      have F2' := Lib.hid (F2.out.step b1)
      clear F2
      have F2 := F2'
      clear F2'
      have T1 := b1
      have Z1 := b1.size
      have ga0 := X2.out.cell 0
      have ga1 := X2.out.cell 1
      simp only [List.getElem?_toArray, List.getElem?_cons_zero, List.getElem?_cons_succ] at ga0 ga1
      have gan := X2.out.lt
      go_wp2
      go_ret
      exact ⟨rfl, T1⟩
    · skip
      by_cases hb2 : (1048576 - szM l1) - szQ s2 l2 < 0
      · have I0 := Lib.hid (show RI w A0 s0 from w0)
        have I1 := Lib.hid (show RM w A1 l1 from w1)
        have I2 := Lib.hid (show RI w H2 s2 from w2.1)
        have F2 := Lib.hid (show RF w A2 l2 from w2.2)
        have I0w := Lib.hid w0
        have I1w := Lib.hid w1
        have I2w := Lib.hid w2
        clear w0 w1 w2
        go_enter Try.func6, Try.ntmps6
        go_wp2_with fail
        refine (szMethodS_any A1 c1 l1 1048576 (by omega) (by omega) (by omega) _ (by first | exact I1.out | exact I1.out.step (below_drew _) | exact I1.out.step (below_alloc _ _) | exact I1.out.step (step (below_alloc _ _) (below_alloc _ _)))).mono ?_
        rintro e u1 ⟨he, d1⟩
        rw [if_neg (show ¬ (1048576 - szM l1 < 0) by omega)] at he
        subst he
        have X2 := Lib.hid (Box.of_new d1)
        have b1 : Below w.heap.size w u1 := by first | exact d1 | exact und d1 | exact undN d1 | exact below_new d1 | exact und (below_new d1) | exact below_new (und d1) | exact below_new (below_new d1) | exact step (below_drew _) (und (below_new d1))
        have I0' := Lib.hid (I0.out.step b1)
        clear I0
        have I0 := I0'
        clear I0'
        have I1' := Lib.hid (I1.out.step b1)
        clear I1
        have I1 := I1'
        clear I1'
        have I2' := Lib.hid (I2.out.step b1)
        clear I2
        have I2 := I2'
        clear I2'
        have F2' := Lib.hid (F2.out.step b1)
        clear F2
        have F2 := F2'
        clear F2'
        have T1 := b1
        have Z1 := b1.size
        have ga0 := X2.out.cell 0
        have ga1 := X2.out.cell 1
        simp only [List.getElem?_toArray, List.getElem?_cons_zero, List.getElem?_cons_succ] at ga0 ga1
        have gan := X2.out.lt
        go_wp2_with fail
        refine (szQuery_any H2 A2 x2 c2 s2 l2 (1048576 - szM l1) (by omega) (by omega) (by omega) (by omega) _ (by first | exact F2.out | exact F2.out.step (below_drew _) | exact F2.out.step (below_alloc _ _) | exact F2.out.step (step (below_alloc _ _) (below_alloc _ _)))).mono ?_
        rintro e u2 ⟨he, d2⟩
        rw [szR_neg (show (1048576 - szM l1) - szQ s2 l2 < 0 by omega)] at he
        subst he
        have b2 : Below u1.heap.size u1 u2 := by first | exact d2 | exact und d2 | exact undN d2 | exact below_new d2 | exact und (below_new d2) | exact below_new (und d2) | exact below_new (below_new d2) | exact step (below_drew _) (und (below_new d2))
        have I0' := Lib.hid (I0.out.step b2)
        clear I0
        have I0 := I0'
        clear I0'
        have I1' := Lib.hid (I1.out.step b2)
        clear I1
        have I1 := I1'
        clear I1'
        have I2' := Lib.hid (I2.out.step b2)
        clear I2
        have I2 := I2'
        clear I2'
        have F2' := Lib.hid (F2.out.step b2)
        clear F2
        have F2 := F2'
        clear F2'
        have X2' := Lib.hid (X2.out.step b2)
        clear X2
        have X2 := X2'
        clear X2'
        have T2 := step T1 b2
        have Z2 := b2.size
        have gb0 := X2.out.cell 0
        have gb1 := X2.out.cell 1
        simp only [List.getElem?_toArray, List.getElem?_cons_zero, List.getElem?_cons_succ] at gb0 gb1
        have gbn := X2.out.lt
        go_wp2
        go_ret
        exact ⟨rfl, T2⟩
      · skip
        have hl0 : s0.length ≤ 1048576 := by omega
        have hL0 : (s0.length : Int) ≤ 1048576 := by omega
        have hz1 : szM l1 ≤ 1048576 := by omega
        have hl1 : l1.length ≤ 1048576 := szM_len hz1
        have hL1 : (l1.length : Int) ≤ 1048576 := by omega
        have hzq : szQ s2 l2 ≤ 1048576 := by omega
        have hz2 : szF l2 ≤ 1048576 := by have := EQ2.out; omega
        have hl2 : s2.length ≤ 1048576 := by have := EQ2.out; omega
        have hrl : (chS s0 l1 s2 l2).length ≤ 1048576 := CheapestOrder_len s0 l1 s2 l2
        have CS := Lib.hid fun (A0 : Option Addr) (c0 : Nat) (A1 : Option Addr) (c1 : Nat) (H2 A2 : Option Addr) (x2 c2 : Nat) (w : World) (h0 : RI w A0 s0) (h1 : RM w A1 l1) (h2 : RI w H2 s2) (h3 : RF w A2 l2) => (spec_CheapestOrder A0 c0 s0 A1 c1 l1 H2 A2 x2 c2 s2 l2 hl0 hz1 hl2 hz2 w h0 h1 h2 h3).mono fun _ _ h => h.toP
        have CI := Lib.hid fun (A0 : Option Addr) (c0 : Nat) (A1 : Option Addr) (c1 : Nat) (H2 A2 : Option Addr) (x2 c2 : Nat) (w : World) (h0 : RI w A0 s0) (h1 : RM w A1 l1) (h2 : RI w H2 s2) (h3 : RF w A2 l2) => (impl_CheapestOrder A0 c0 s0 A1 c1 l1 H2 A2 x2 c2 s2 l2 hl0 hz1 hl2 hz2 w h0 h1 h2 h3).mono fun _ _ h => h.toP
        generalize chS s0 l1 s2 l2 = res at CS CI hrl
        generalize chN s0 l1 s2 l2 = n at CS CI
        generalize chB s0 l1 s2 l2 = b at CS CI
        have hrL : (res.length : Int) ≤ 1048576 := by omega
        have en1 : (n == n) = true := by simp
        have en2 : (n != n) = false := by simp
        have eb1 : (b == b) = true := by simp
        have eb2 : (b != b) = false := by simp
        have I0 := Lib.hid (show RI w A0 s0 from w0)
        have I1 := Lib.hid (show RM w A1 l1 from w1)
        have I2 := Lib.hid (show RI w H2 s2 from w2.1)
        have F2 := Lib.hid (show RF w A2 l2 from w2.2)
        have I0w := Lib.hid w0
        have I1w := Lib.hid w1
        have I2w := Lib.hid w2
        clear w0 w1 w2
        go_enter Try.func6, Try.ntmps6
        go_wp2_with fail
        refine (szMethodS_any A1 c1 l1 1048576 (by omega) (by omega) (by omega) _ (by first | exact I1.out | exact I1.out.step (below_drew _) | exact I1.out.step (below_alloc _ _) | exact I1.out.step (step (below_alloc _ _) (below_alloc _ _)))).mono ?_
        rintro e u1 ⟨he, d1⟩
        rw [if_neg (show ¬ (1048576 - szM l1 < 0) by omega)] at he
        subst he
        have X2 := Lib.hid (Box.of_new d1)
        have b1 : Below w.heap.size w u1 := by first | exact d1 | exact und d1 | exact undN d1 | exact below_new d1 | exact und (below_new d1) | exact below_new (und d1) | exact below_new (below_new d1) | exact step (below_drew _) (und (below_new d1))
        have I0' := Lib.hid (I0.out.step b1)
        clear I0
        have I0 := I0'
        clear I0'
        have I1' := Lib.hid (I1.out.step b1)
        clear I1
        have I1 := I1'
        clear I1'
        have I2' := Lib.hid (I2.out.step b1)
        clear I2
        have I2 := I2'
        clear I2'
        have F2' := Lib.hid (F2.out.step b1)
        clear F2
        have F2 := F2'
        clear F2'
        have T1 := b1
        have Z1 := b1.size
        have ga0 := X2.out.cell 0
        have ga1 := X2.out.cell 1
        simp only [List.getElem?_toArray, List.getElem?_cons_zero, List.getElem?_cons_succ] at ga0 ga1
        have gan := X2.out.lt
        go_wp2_with fail
        refine (szQuery_any H2 A2 x2 c2 s2 l2 (1048576 - szM l1) (by omega) (by omega) (by omega) (by omega) _ (by first | exact F2.out | exact F2.out.step (below_drew _) | exact F2.out.step (below_alloc _ _) | exact F2.out.step (step (below_alloc _ _) (below_alloc _ _)))).mono ?_
        rintro e u2 ⟨he, d2⟩
        rw [szR_pos (show ¬ ((1048576 - szM l1) - szQ s2 l2 < 0) by omega)] at he
        subst he
        have b2 : Below u1.heap.size u1 u2 := by first | exact d2 | exact und d2 | exact undN d2 | exact below_new d2 | exact und (below_new d2) | exact below_new (und d2) | exact below_new (below_new d2) | exact step (below_drew _) (und (below_new d2))
        have I0' := Lib.hid (I0.out.step b2)
        clear I0
        have I0 := I0'
        clear I0'
        have I1' := Lib.hid (I1.out.step b2)
        clear I1
        have I1 := I1'
        clear I1'
        have I2' := Lib.hid (I2.out.step b2)
        clear I2
        have I2 := I2'
        clear I2'
        have F2' := Lib.hid (F2.out.step b2)
        clear F2
        have F2 := F2'
        clear F2'
        have X2' := Lib.hid (X2.out.step b2)
        clear X2
        have X2 := X2'
        clear X2'
        have T2 := step T1 b2
        have Z2 := b2.size
        have gb0 := X2.out.cell 0
        have gb1 := X2.out.cell 1
        simp only [List.getElem?_toArray, List.getElem?_cons_zero, List.getElem?_cons_succ] at gb0 gb1
        have gbn := X2.out.lt
        have tok3 : True := trivial
        have tok4 : True := trivial
        have tok5 : True := trivial
        have tok6 : True := trivial
        go_wp2_with fail
        go_region_held3 (fun w' => w'.cell? ⟨w.heap.size, 0, none⟩ = some (.slice H2 s2.length x2) ∧ w'.cell? ⟨w.heap.size, 1, none⟩ = some (.slice A2 l2.length c2))
          (first
            | go_keep
            | (go_split_ands; refine ⟨?_, ?_⟩ <;> (rw [d3.cell (by (try simp) <;> omega)]; assumption))
            | (go_split_ands; refine ⟨?_, ?_⟩ <;> (rw [d4.cell (by (try simp) <;> omega)]; assumption))
            | (go_split_ands; refine ⟨?_, ?_⟩ <;> (rw [d5.cell (by (try simp) <;> omega)]; assumption))
            | (go_split_ands; refine ⟨?_, ?_⟩ <;> (rw [d6.cell (by (try simp) <;> omega)]; assumption)))
          (first
            | (go_at_call 15
               clear tok3
               refine (toIntS_r A0 c0 s0 hl0 _ (by first | exact I0.out | exact I0.out.step (below_drew _) | exact I0.out.step (below_alloc _ _) | exact I0.out.step (step (below_alloc _ _) (below_alloc _ _)))).mono ?_
               rintro e u3 ⟨rfl, r3, d3, z3⟩
               have b3 : Below u2.heap.size u2 u3 := by first | exact d3 | exact und d3 | exact undN d3 | exact below_new d3 | exact und (below_new d3) | exact below_new (und d3) | exact below_new (below_new d3) | exact step (below_drew _) (und (below_new d3))
               have I0' := Lib.hid (I0.out.step b3)
               clear I0
               have I0 := I0'
               clear I0'
               have I1' := Lib.hid (I1.out.step b3)
               clear I1
               have I1 := I1'
               clear I1'
               have I2' := Lib.hid (I2.out.step b3)
               clear I2
               have I2 := I2'
               clear I2'
               have F2' := Lib.hid (F2.out.step b3)
               clear F2
               have F2 := F2'
               clear F2'
               have X2' := Lib.hid (X2.out.step b3)
               clear X2
               have X2 := X2'
               clear X2'
               have T3 := step T2 b3
               have Z3 := b3.size
               have R3 := Lib.hid r3.ri
               clear r3 z3)
            | (go_at_call 16
               clear tok4
               refine (toMethodS_r A1 c1 l1 hz1 _ (by first | exact I1.out | exact I1.out.step (below_drew _) | exact I1.out.step (below_alloc _ _) | exact I1.out.step (step (below_alloc _ _) (below_alloc _ _)))).mono ?_
               rintro e u4 ⟨rfl, r4, d4, z4⟩
               have b4 : Below u3.heap.size u3 u4 := by first | exact d4 | exact und d4 | exact undN d4 | exact below_new d4 | exact und (below_new d4) | exact below_new (und d4) | exact below_new (below_new d4) | exact step (below_drew _) (und (below_new d4))
               have I0' := Lib.hid (I0.out.step b4)
               clear I0
               have I0 := I0'
               clear I0'
               have I1' := Lib.hid (I1.out.step b4)
               clear I1
               have I1 := I1'
               clear I1'
               have I2' := Lib.hid (I2.out.step b4)
               clear I2
               have I2 := I2'
               clear I2'
               have F2' := Lib.hid (F2.out.step b4)
               clear F2
               have F2 := F2'
               clear F2'
               have X2' := Lib.hid (X2.out.step b4)
               clear X2
               have X2 := X2'
               clear X2'
               have R3' := Lib.hid (R3.out.step b4)
               clear R3
               have R3 := R3'
               clear R3'
               have T4 := step T3 b4
               have Z4 := b4.size
               have R4 := Lib.hid r4
               clear r4 z4)
            | (go_at_call 17
               clear tok5
               refine (toQuery_r H2 A2 x2 c2 s2 l2 hl2 hz2 _ (by first | exact I2.out | exact I2.out.step (below_drew _) | exact I2.out.step (below_alloc _ _) | exact I2.out.step (step (below_alloc _ _) (below_alloc _ _))) (by first | exact F2.out | exact F2.out.step (below_drew _) | exact F2.out.step (below_alloc _ _) | exact F2.out.step (step (below_alloc _ _) (below_alloc _ _)))).mono ?_
               rintro e u5 ⟨rfl, r5, d5, z5⟩
               have b5 : Below u4.heap.size u4 u5 := by first | exact d5 | exact und d5 | exact undN d5 | exact below_new d5 | exact und (below_new d5) | exact below_new (und d5) | exact below_new (below_new d5) | exact step (below_drew _) (und (below_new d5))
               have I0' := Lib.hid (I0.out.step b5)
               clear I0
               have I0 := I0'
               clear I0'
               have I1' := Lib.hid (I1.out.step b5)
               clear I1
               have I1 := I1'
               clear I1'
               have I2' := Lib.hid (I2.out.step b5)
               clear I2
               have I2 := I2'
               clear I2'
               have F2' := Lib.hid (F2.out.step b5)
               clear F2
               have F2 := F2'
               clear F2'
               have X2' := Lib.hid (X2.out.step b5)
               clear X2
               have X2 := X2'
               clear X2'
               have R3' := Lib.hid (R3.out.step b5)
               clear R3
               have R3 := R3'
               clear R3'
               have R4' := Lib.hid (R4.out.step b5)
               clear R4
               have R4 := R4'
               clear R4'
               have T5 := step T4 b5
               have Z5 := b5.size
               have R5 := Lib.hid r5
               clear r5 z5)
            | (go_at_call 34
               clear tok6
               refine (CS.out _ _ _ _ _ _ _ _ _ (by first | exact R3.out | exact R3.out.step (below_drew _) | exact R3.out.step (below_alloc _ _) | exact R3.out.step (step (below_alloc _ _) (below_alloc _ _))) (by first | exact R4.out | exact R4.out.step (below_drew _) | exact R4.out.step (below_alloc _ _) | exact R4.out.step (step (below_alloc _ _) (below_alloc _ _))) (by first | exact R5.out.ri | exact (R5.out.step (below_drew _)).ri | exact (R5.out.step (below_alloc _ _)).ri) (by first | exact R5.out.rf | exact (R5.out.step (below_drew _)).rf | exact (R5.out.step (below_alloc _ _)).rf)).mono ?_
               rintro e u6 ⟨g6, cp6, rfl, p6, d6⟩
               have b6 : Below u5.heap.size u5 u6 := by first | exact d6 | exact und d6 | exact undN d6 | exact below_new d6 | exact und (below_new d6) | exact below_new (und d6) | exact below_new (below_new d6) | exact step (below_drew _) (und (below_new d6))
               have I0' := Lib.hid (I0.out.step b6)
               clear I0
               have I0 := I0'
               clear I0'
               have I1' := Lib.hid (I1.out.step b6)
               clear I1
               have I1 := I1'
               clear I1'
               have I2' := Lib.hid (I2.out.step b6)
               clear I2
               have I2 := I2'
               clear I2'
               have F2' := Lib.hid (F2.out.step b6)
               clear F2
               have F2 := F2'
               clear F2'
               have X2' := Lib.hid (X2.out.step b6)
               clear X2
               have X2 := X2'
               clear X2'
               have R3' := Lib.hid (R3.out.step b6)
               clear R3
               have R3 := R3'
               clear R3'
               have R4' := Lib.hid (R4.out.step b6)
               clear R4
               have R4 := R4'
               clear R4'
               have R5' := Lib.hid (R5.out.step b6)
               clear R5
               have R5 := R5'
               clear R5'
               have T6 := step T5 b6
               have Z6 := b6.size
               have P6 := Lib.hid (show SV u6 u5.heap.size u6.heap.size g6 res from p6)
               clear p6))
        go_wp2_with fail
        refine (toIntS_r A0 c0 s0 hl0 _ (by first | exact I0.out | exact I0.out.step (below_drew _) | exact I0.out.step (below_alloc _ _) | exact I0.out.step (step (below_alloc _ _) (below_alloc _ _)))).mono ?_
        rintro e u7 ⟨rfl, r7, d7, z7⟩
        have b7 : Below u6.heap.size u6 u7 := by first | exact d7 | exact und d7 | exact undN d7 | exact below_new d7 | exact und (below_new d7) | exact below_new (und d7) | exact below_new (below_new d7) | exact step (below_drew _) (und (below_new d7))
        have I0' := Lib.hid (I0.out.step b7)
        clear I0
        have I0 := I0'
        clear I0'
        have I1' := Lib.hid (I1.out.step b7)
        clear I1
        have I1 := I1'
        clear I1'
        have I2' := Lib.hid (I2.out.step b7)
        clear I2
        have I2 := I2'
        clear I2'
        have F2' := Lib.hid (F2.out.step b7)
        clear F2
        have F2 := F2'
        clear F2'
        have X2' := Lib.hid (X2.out.step b7)
        clear X2
        have X2 := X2'
        clear X2'
        have P6' := Lib.hid (P6.out.step b7)
        clear P6
        have P6 := P6'
        clear P6'
        have T7 := step T6 b7
        have Z7 := b7.size
        have Q7 := Lib.hid r7
        have y7 : u6.heap.size < u7.heap.size := by omega
        clear r7 z7
        go_wp2_with fail
        refine (toMethodS_any A1 c1 l1 hz1 _ (by first | exact I1.out | exact I1.out.step (below_drew _) | exact I1.out.step (below_alloc _ _) | exact I1.out.step (step (below_alloc _ _) (below_alloc _ _)))).mono ?_
        rintro e u8 ⟨rfl, r8, d8, z8⟩
        have b8 : Below u7.heap.size u7 u8 := by first | exact d8 | exact und d8 | exact undN d8 | exact below_new d8 | exact und (below_new d8) | exact below_new (und d8) | exact below_new (below_new d8) | exact step (below_drew _) (und (below_new d8))
        have I0' := Lib.hid (I0.out.step b8)
        clear I0
        have I0 := I0'
        clear I0'
        have I1' := Lib.hid (I1.out.step b8)
        clear I1
        have I1 := I1'
        clear I1'
        have I2' := Lib.hid (I2.out.step b8)
        clear I2
        have I2 := I2'
        clear I2'
        have F2' := Lib.hid (F2.out.step b8)
        clear F2
        have F2 := F2'
        clear F2'
        have X2' := Lib.hid (X2.out.step b8)
        clear X2
        have X2 := X2'
        clear X2'
        have P6' := Lib.hid (P6.out.step b8)
        clear P6
        have P6 := P6'
        clear P6'
        have Q7' := Lib.hid (Q7.out.step b8)
        clear Q7
        have Q7 := Q7'
        clear Q7'
        have T8 := step T7 b8
        have Z8 := b8.size
        have Q8 := Lib.hid (show PM u8 u7.heap.size u8.heap.size u7.heap.size (l1.length * 5) l1 from ⟨r8, Nat.le_refl _, Nat.le_refl _⟩)
        have y8 := z8
        clear r8 z8
        have gc0 := X2.out.cell 0
        have gc1 := X2.out.cell 1
        simp only [List.getElem?_toArray, List.getElem?_cons_zero, List.getElem?_cons_succ] at gc0 gc1
        have gcn := X2.out.lt
        go_wp2_with fail
        refine (toQuery_r H2 A2 x2 c2 s2 l2 hl2 hz2 _ (by first | exact I2.out | exact I2.out.step (below_drew _) | exact I2.out.step (below_alloc _ _) | exact I2.out.step (step (below_alloc _ _) (below_alloc _ _))) (by first | exact F2.out | exact F2.out.step (below_drew _) | exact F2.out.step (below_alloc _ _) | exact F2.out.step (step (below_alloc _ _) (below_alloc _ _)))).mono ?_
        rintro e u9 ⟨rfl, r9, d9, z9⟩
        have b9 : Below u8.heap.size u8 u9 := by first | exact d9 | exact und d9 | exact undN d9 | exact below_new d9 | exact und (below_new d9) | exact below_new (und d9) | exact below_new (below_new d9) | exact step (below_drew _) (und (below_new d9))
        have I0' := Lib.hid (I0.out.step b9)
        clear I0
        have I0 := I0'
        clear I0'
        have I1' := Lib.hid (I1.out.step b9)
        clear I1
        have I1 := I1'
        clear I1'
        have I2' := Lib.hid (I2.out.step b9)
        clear I2
        have I2 := I2'
        clear I2'
        have F2' := Lib.hid (F2.out.step b9)
        clear F2
        have F2 := F2'
        clear F2'
        have X2' := Lib.hid (X2.out.step b9)
        clear X2
        have X2 := X2'
        clear X2'
        have P6' := Lib.hid (P6.out.step b9)
        clear P6
        have P6 := P6'
        clear P6'
        have Q7' := Lib.hid (Q7.out.step b9)
        clear Q7
        have Q7 := Q7'
        clear Q7'
        have Q8' := Lib.hid (Q8.out.step b9)
        clear Q8
        have Q8 := Q8'
        clear Q8'
        have T9 := step T8 b9
        have Z9 := b9.size
        have Q9 := Lib.hid r9
        have y9 := z9
        clear r9 z9
        go_wp2_with fail
        refine (CI.out (some ⟨u6.heap.size, 0, none⟩) s0.length (some ⟨u7.heap.size, 0, none⟩) l1.length _ _ _ _ _ (by first | exact Q7.out.ri | exact (Q7.out.step (below_drew _)).ri | exact (Q7.out.step (below_alloc _ _)).ri) (by first | exact Q8.out.rm | exact (Q8.out.step (below_drew _)).rm | exact (Q8.out.step (below_alloc _ _)).rm) (by first | exact Q9.out.ri | exact (Q9.out.step (below_drew _)).ri | exact (Q9.out.step (below_alloc _ _)).ri) (by first | exact Q9.out.rf | exact (Q9.out.step (below_drew _)).rf | exact (Q9.out.step (below_alloc _ _)).rf)).mono ?_
        rintro e u10 ⟨g10, cp10, rfl, p10, d10⟩
        have Y2 := Lib.hid (Box.of_new d10)
        have b10 : Below u9.heap.size u9 u10 := by first | exact d10 | exact und d10 | exact undN d10 | exact below_new d10 | exact und (below_new d10) | exact below_new (und d10) | exact below_new (below_new d10) | exact step (below_drew _) (und (below_new d10))
        have I0' := Lib.hid (I0.out.step b10)
        clear I0
        have I0 := I0'
        clear I0'
        have I1' := Lib.hid (I1.out.step b10)
        clear I1
        have I1 := I1'
        clear I1'
        have I2' := Lib.hid (I2.out.step b10)
        clear I2
        have I2 := I2'
        clear I2'
        have F2' := Lib.hid (F2.out.step b10)
        clear F2
        have F2 := F2'
        clear F2'
        have X2' := Lib.hid (X2.out.step b10)
        clear X2
        have X2 := X2'
        clear X2'
        have P6' := Lib.hid (P6.out.step b10)
        clear P6
        have P6 := P6'
        clear P6'
        have Q7' := Lib.hid (Q7.out.step b10)
        clear Q7
        have Q7 := Q7'
        clear Q7'
        have Q8' := Lib.hid (Q8.out.step b10)
        clear Q8
        have Q8 := Q8'
        clear Q8'
        have Q9' := Lib.hid (Q9.out.step b10)
        clear Q9
        have Q9 := Q9'
        clear Q9'
        have T10 := step T9 b10
        have Z10 := b10.size
        rw [al_size] at p10
        have P10 := Lib.hid p10
        have y10 : u9.heap.size + 1 ≤ u10.heap.size := by have := d10.size; rw [al_size] at this; exact this
        clear p10
        go_wp2_with fail
        refine (eqStepS_r _ _ _ _ res hrl _ (by first | exact P10.out.rz | exact (P10.out.step (below_drew _)).rz | exact (P10.out.step (below_alloc _ _)).rz) (by first | exact P6.out.rz | exact (P6.out.step (below_drew _)).rz | exact (P6.out.step (below_alloc _ _)).rz)).mono ?_
        rintro e u11 ⟨rfl, d11⟩
        have b11 : Below u10.heap.size u10 u11 := by first | exact d11 | exact und d11 | exact undN d11 | exact below_new d11 | exact und (below_new d11) | exact below_new (und d11) | exact below_new (below_new d11) | exact step (below_drew _) (und (below_new d11))
        have I0' := Lib.hid (I0.out.step b11)
        clear I0
        have I0 := I0'
        clear I0'
        have I1' := Lib.hid (I1.out.step b11)
        clear I1
        have I1 := I1'
        clear I1'
        have I2' := Lib.hid (I2.out.step b11)
        clear I2
        have I2 := I2'
        clear I2'
        have F2' := Lib.hid (F2.out.step b11)
        clear F2
        have F2 := F2'
        clear F2'
        have X2' := Lib.hid (X2.out.step b11)
        clear X2
        have X2 := X2'
        clear X2'
        have P6' := Lib.hid (P6.out.step b11)
        clear P6
        have P6 := P6'
        clear P6'
        have Q7' := Lib.hid (Q7.out.step b11)
        clear Q7
        have Q7 := Q7'
        clear Q7'
        have Q8' := Lib.hid (Q8.out.step b11)
        clear Q8
        have Q8 := Q8'
        clear Q8'
        have Q9' := Lib.hid (Q9.out.step b11)
        clear Q9
        have Q9 := Q9'
        clear Q9'
        have P10' := Lib.hid (P10.out.step b11)
        clear P10
        have P10 := P10'
        clear P10'
        have Y2' := Lib.hid (Y2.out.step b11)
        clear Y2
        have Y2 := Y2'
        clear Y2'
        have T11 := step T10 b11
        have Z11 := b11.size
        go_wp2_with fail
        refine (toIntS_r A0 c0 s0 hl0 _ (by first | exact I0.out | exact I0.out.step (below_drew _) | exact I0.out.step (below_alloc _ _) | exact I0.out.step (step (below_alloc _ _) (below_alloc _ _)))).mono ?_
        rintro e u12 ⟨rfl, r12, d12, z12⟩
        have b12 : Below u11.heap.size u11 u12 := by first | exact d12 | exact und d12 | exact undN d12 | exact below_new d12 | exact und (below_new d12) | exact below_new (und d12) | exact below_new (below_new d12) | exact step (below_drew _) (und (below_new d12))
        have I0' := Lib.hid (I0.out.step b12)
        clear I0
        have I0 := I0'
        clear I0'
        have I1' := Lib.hid (I1.out.step b12)
        clear I1
        have I1 := I1'
        clear I1'
        have I2' := Lib.hid (I2.out.step b12)
        clear I2
        have I2 := I2'
        clear I2'
        have F2' := Lib.hid (F2.out.step b12)
        clear F2
        have F2 := F2'
        clear F2'
        have X2' := Lib.hid (X2.out.step b12)
        clear X2
        have X2 := X2'
        clear X2'
        have P6' := Lib.hid (P6.out.step b12)
        clear P6
        have P6 := P6'
        clear P6'
        have Q7' := Lib.hid (Q7.out.step b12)
        clear Q7
        have Q7 := Q7'
        clear Q7'
        have Q8' := Lib.hid (Q8.out.step b12)
        clear Q8
        have Q8 := Q8'
        clear Q8'
        have Q9' := Lib.hid (Q9.out.step b12)
        clear Q9
        have Q9 := Q9'
        clear Q9'
        have P10' := Lib.hid (P10.out.step b12)
        clear P10
        have P10 := P10'
        clear P10'
        have Y2' := Lib.hid (Y2.out.step b12)
        clear Y2
        have Y2 := Y2'
        clear Y2'
        have T12 := step T11 b12
        have Z12 := b12.size
        have R12 := Lib.hid r12.ri
        clear r12 z12
        go_wp2_with fail
        refine (eqIntS_r _ _ _ _ s0 hl0 _ (by first | exact Q7.out.ri | exact (Q7.out.step (below_drew _)).ri | exact (Q7.out.step (below_alloc _ _)).ri) (by first | exact R12.out | exact R12.out.step (below_drew _) | exact R12.out.step (below_alloc _ _) | exact R12.out.step (step (below_alloc _ _) (below_alloc _ _)))).mono ?_
        rintro e u13 ⟨rfl, d13⟩
        have b13 : Below u12.heap.size u12 u13 := by first | exact d13 | exact und d13 | exact undN d13 | exact below_new d13 | exact und (below_new d13) | exact below_new (und d13) | exact below_new (below_new d13) | exact step (below_drew _) (und (below_new d13))
        have I0' := Lib.hid (I0.out.step b13)
        clear I0
        have I0 := I0'
        clear I0'
        have I1' := Lib.hid (I1.out.step b13)
        clear I1
        have I1 := I1'
        clear I1'
        have I2' := Lib.hid (I2.out.step b13)
        clear I2
        have I2 := I2'
        clear I2'
        have F2' := Lib.hid (F2.out.step b13)
        clear F2
        have F2 := F2'
        clear F2'
        have X2' := Lib.hid (X2.out.step b13)
        clear X2
        have X2 := X2'
        clear X2'
        have P6' := Lib.hid (P6.out.step b13)
        clear P6
        have P6 := P6'
        clear P6'
        have Q7' := Lib.hid (Q7.out.step b13)
        clear Q7
        have Q7 := Q7'
        clear Q7'
        have Q8' := Lib.hid (Q8.out.step b13)
        clear Q8
        have Q8 := Q8'
        clear Q8'
        have Q9' := Lib.hid (Q9.out.step b13)
        clear Q9
        have Q9 := Q9'
        clear Q9'
        have P10' := Lib.hid (P10.out.step b13)
        clear P10
        have P10 := P10'
        clear P10'
        have Y2' := Lib.hid (Y2.out.step b13)
        clear Y2
        have Y2 := Y2'
        clear Y2'
        have R12' := Lib.hid (R12.out.step b13)
        clear R12
        have R12 := R12'
        clear R12'
        have T13 := step T12 b13
        have Z13 := b13.size
        go_wp2_with fail
        refine (toMethodS_r A1 c1 l1 hz1 _ (by first | exact I1.out | exact I1.out.step (below_drew _) | exact I1.out.step (below_alloc _ _) | exact I1.out.step (step (below_alloc _ _) (below_alloc _ _)))).mono ?_
        rintro e u14 ⟨rfl, r14, d14, z14⟩
        have b14 : Below u13.heap.size u13 u14 := by first | exact d14 | exact und d14 | exact undN d14 | exact below_new d14 | exact und (below_new d14) | exact below_new (und d14) | exact below_new (below_new d14) | exact step (below_drew _) (und (below_new d14))
        have I0' := Lib.hid (I0.out.step b14)
        clear I0
        have I0 := I0'
        clear I0'
        have I1' := Lib.hid (I1.out.step b14)
        clear I1
        have I1 := I1'
        clear I1'
        have I2' := Lib.hid (I2.out.step b14)
        clear I2
        have I2 := I2'
        clear I2'
        have F2' := Lib.hid (F2.out.step b14)
        clear F2
        have F2 := F2'
        clear F2'
        have X2' := Lib.hid (X2.out.step b14)
        clear X2
        have X2 := X2'
        clear X2'
        have P6' := Lib.hid (P6.out.step b14)
        clear P6
        have P6 := P6'
        clear P6'
        have Q7' := Lib.hid (Q7.out.step b14)
        clear Q7
        have Q7 := Q7'
        clear Q7'
        have Q8' := Lib.hid (Q8.out.step b14)
        clear Q8
        have Q8 := Q8'
        clear Q8'
        have Q9' := Lib.hid (Q9.out.step b14)
        clear Q9
        have Q9 := Q9'
        clear Q9'
        have P10' := Lib.hid (P10.out.step b14)
        clear P10
        have P10 := P10'
        clear P10'
        have Y2' := Lib.hid (Y2.out.step b14)
        clear Y2
        have Y2 := Y2'
        clear Y2'
        have T14 := step T13 b14
        have Z14 := b14.size
        have R14 := Lib.hid r14
        clear r14 z14
        go_wp2_with fail
        refine (eqMethodS_r _ _ _ _ l1 hz1 _ (by first | exact Q8.out.rm | exact (Q8.out.step (below_drew _)).rm | exact (Q8.out.step (below_alloc _ _)).rm) (by first | exact R14.out | exact R14.out.step (below_drew _) | exact R14.out.step (below_alloc _ _) | exact R14.out.step (step (below_alloc _ _) (below_alloc _ _)))).mono ?_
        rintro e u15 ⟨rfl, d15⟩
        have b15 : Below u14.heap.size u14 u15 := by first | exact d15 | exact und d15 | exact undN d15 | exact below_new d15 | exact und (below_new d15) | exact below_new (und d15) | exact below_new (below_new d15) | exact step (below_drew _) (und (below_new d15))
        have I0' := Lib.hid (I0.out.step b15)
        clear I0
        have I0 := I0'
        clear I0'
        have I1' := Lib.hid (I1.out.step b15)
        clear I1
        have I1 := I1'
        clear I1'
        have I2' := Lib.hid (I2.out.step b15)
        clear I2
        have I2 := I2'
        clear I2'
        have F2' := Lib.hid (F2.out.step b15)
        clear F2
        have F2 := F2'
        clear F2'
        have X2' := Lib.hid (X2.out.step b15)
        clear X2
        have X2 := X2'
        clear X2'
        have P6' := Lib.hid (P6.out.step b15)
        clear P6
        have P6 := P6'
        clear P6'
        have Q7' := Lib.hid (Q7.out.step b15)
        clear Q7
        have Q7 := Q7'
        clear Q7'
        have Q8' := Lib.hid (Q8.out.step b15)
        clear Q8
        have Q8 := Q8'
        clear Q8'
        have Q9' := Lib.hid (Q9.out.step b15)
        clear Q9
        have Q9 := Q9'
        clear Q9'
        have P10' := Lib.hid (P10.out.step b15)
        clear P10
        have P10 := P10'
        clear P10'
        have Y2' := Lib.hid (Y2.out.step b15)
        clear Y2
        have Y2 := Y2'
        clear Y2'
        have R14' := Lib.hid (R14.out.step b15)
        clear R14
        have R14 := R14'
        clear R14'
        have T15 := step T14 b15
        have Z15 := b15.size
        have ge0 := X2.out.cell 0
        have ge1 := X2.out.cell 1
        simp only [List.getElem?_toArray, List.getElem?_cons_zero, List.getElem?_cons_succ] at ge0 ge1
        have gen := X2.out.lt
        have gf0 := Y2.out.cell 0
        have gf1 := Y2.out.cell 1
        simp only [List.getElem?_toArray, List.getElem?_cons_zero, List.getElem?_cons_succ] at gf0 gf1
        have gfn := Y2.out.lt
        have tok16 : True := trivial
        have tok17 : True := trivial
        go_wp2_with fail
        go_region_held3 (fun w' => w'.cell? ⟨w.heap.size, 0, none⟩ = some (.slice H2 s2.length x2) ∧ w'.cell? ⟨w.heap.size, 1, none⟩ = some (.slice A2 l2.length c2) ∧ w'.cell? ⟨u9.heap.size, 0, none⟩ = some (.slice (some ⟨u8.heap.size + 3, 0, none⟩) s2.length s2.length) ∧ w'.cell? ⟨u9.heap.size, 1, none⟩ = some (.slice (some ⟨u8.heap.size + 3 + 1, 0, none⟩) l2.length l2.length))
          (first
            | go_keep
            | (go_split_ands; refine ⟨?_, ?_, ?_, ?_⟩ <;> (rw [d16.cell (by (try simp) <;> omega)]; assumption))
            | (go_split_ands; refine ⟨?_, ?_, ?_, ?_⟩ <;> (rw [d17.cell (by (try simp) <;> omega)]; assumption)))
          (first
            | (go_at_call 17
               clear tok16
               refine (toQuery_r H2 A2 x2 c2 s2 l2 hl2 hz2 _ (by first | exact I2.out | exact I2.out.step (below_drew _) | exact I2.out.step (below_alloc _ _) | exact I2.out.step (step (below_alloc _ _) (below_alloc _ _))) (by first | exact F2.out | exact F2.out.step (below_drew _) | exact F2.out.step (below_alloc _ _) | exact F2.out.step (step (below_alloc _ _) (below_alloc _ _)))).mono ?_
               rintro e u16 ⟨rfl, r16, d16, z16⟩
               have b16 : Below u15.heap.size u15 u16 := by first | exact d16 | exact und d16 | exact undN d16 | exact below_new d16 | exact und (below_new d16) | exact below_new (und d16) | exact below_new (below_new d16) | exact step (below_drew _) (und (below_new d16))
               have I0' := Lib.hid (I0.out.step b16)
               clear I0
               have I0 := I0'
               clear I0'
               have I1' := Lib.hid (I1.out.step b16)
               clear I1
               have I1 := I1'
               clear I1'
               have I2' := Lib.hid (I2.out.step b16)
               clear I2
               have I2 := I2'
               clear I2'
               have F2' := Lib.hid (F2.out.step b16)
               clear F2
               have F2 := F2'
               clear F2'
               have X2' := Lib.hid (X2.out.step b16)
               clear X2
               have X2 := X2'
               clear X2'
               have P6' := Lib.hid (P6.out.step b16)
               clear P6
               have P6 := P6'
               clear P6'
               have Q7' := Lib.hid (Q7.out.step b16)
               clear Q7
               have Q7 := Q7'
               clear Q7'
               have Q8' := Lib.hid (Q8.out.step b16)
               clear Q8
               have Q8 := Q8'
               clear Q8'
               have Q9' := Lib.hid (Q9.out.step b16)
               clear Q9
               have Q9 := Q9'
               clear Q9'
               have P10' := Lib.hid (P10.out.step b16)
               clear P10
               have P10 := P10'
               clear P10'
               have Y2' := Lib.hid (Y2.out.step b16)
               clear Y2
               have Y2 := Y2'
               clear Y2'
               have T16 := step T15 b16
               have Z16 := b16.size
               have R16 := Lib.hid r16
               clear r16 z16)
            | (go_at_call 22
               clear tok17
               refine (eqQuery_b _ _ _ _ _ _ _ _ s2 l2 hl2 (by omega) _ (by first | exact Q9.out.ri | exact (Q9.out.step (below_drew _)).ri | exact (Q9.out.step (below_alloc _ _)).ri) (by first | exact Q9.out.rf | exact (Q9.out.step (below_drew _)).rf | exact (Q9.out.step (below_alloc _ _)).rf) (by first | exact R16.out.ri | exact (R16.out.step (below_drew _)).ri | exact (R16.out.step (below_alloc _ _)).ri) (by first | exact R16.out.rf | exact (R16.out.step (below_drew _)).rf | exact (R16.out.step (below_alloc _ _)).rf)).mono ?_
               rintro e u17 ⟨rfl, d17⟩
               have b17 : Below u16.heap.size u16 u17 := by first | exact d17 | exact und d17 | exact undN d17 | exact below_new d17 | exact und (below_new d17) | exact below_new (und d17) | exact below_new (below_new d17) | exact step (below_drew _) (und (below_new d17))
               have I0' := Lib.hid (I0.out.step b17)
               clear I0
               have I0 := I0'
               clear I0'
               have I1' := Lib.hid (I1.out.step b17)
               clear I1
               have I1 := I1'
               clear I1'
               have I2' := Lib.hid (I2.out.step b17)
               clear I2
               have I2 := I2'
               clear I2'
               have F2' := Lib.hid (F2.out.step b17)
               clear F2
               have F2 := F2'
               clear F2'
               have X2' := Lib.hid (X2.out.step b17)
               clear X2
               have X2 := X2'
               clear X2'
               have P6' := Lib.hid (P6.out.step b17)
               clear P6
               have P6 := P6'
               clear P6'
               have Q7' := Lib.hid (Q7.out.step b17)
               clear Q7
               have Q7 := Q7'
               clear Q7'
               have Q8' := Lib.hid (Q8.out.step b17)
               clear Q8
               have Q8 := Q8'
               clear Q8'
               have Q9' := Lib.hid (Q9.out.step b17)
               clear Q9
               have Q9 := Q9'
               clear Q9'
               have P10' := Lib.hid (P10.out.step b17)
               clear P10
               have P10 := P10'
               clear P10'
               have Y2' := Lib.hid (Y2.out.step b17)
               clear Y2
               have Y2 := Y2'
               clear Y2'
               have R16' := Lib.hid (R16.out.step b17)
               clear R16
               have R16 := R16'
               clear R16'
               have T17 := step T16 b17
               have Z17 := b17.size))
        have wz : w.heap.size ≤ u6.heap.size := by omega
        have ql := Q9.out.lt
        have ple : u9.heap.size + 1 ≤ u10.heap.size := y10
        go_wp2_with fail
        refine (markIntS_any (some ⟨u6.heap.size, 0, none⟩) u6.heap.size s0.length s0.length s0.length 1 _ hl0 (by omega) (by omega) (fun i => .int .i64 (s0.getD i 0)) (fun _ => rfl) (Nat.le_refl _) (fun _ => (by first | exact Q7.out | exact Q7.out.step (below_drew _)))).mono ?_
        rintro e v0 ⟨rfl, W0, _⟩
        have sv0 : v0.heap.size = u17.heap.size := W0.size
        have PSa := Lib.hid (P6.out.keep (w' := v0) (fun b _ h2 => W0.block b (.inl h2)) (by omega))
        have PIa := Lib.hid (P10.out.keep (w' := v0) (fun b h1 _ => W0.block b (.inr (by omega))) (by omega))
        have Qma := Lib.hid (Q8.out.keep (w' := v0) (fun b h1 _ => W0.block b (.inr (by omega))) (by omega))
        have Qqa := Lib.hid (Q9.out.keep (w' := v0) (fun b h1 _ => W0.block b (.inr (by omega))) (by omega))
        have Y2a := Lib.hid (show Box v0 u9.heap.size _ _ from (W0.block _ (.inr (by omega))).trans Y2.out)
        have X2a := Lib.hid (show Box v0 w.heap.size _ _ from (W0.block _ (.inl (by have := X2.out.lt; omega))).trans X2.out)
        have TA := Lib.hid (T17.trans (W0.below.mono wz))
        clear W0 P6 P10 Q8 Q9 Y2 X2 Q7
        go_wp2_with fail
        refine (markMethodS_any u7.heap.size u8.heap.size u7.heap.size (l1.length * 5) _ (1 + (s0.length : Int)) l1 hz1 (by omega) (by omega) (Nat.le_refl _) _ Qma.out.1).mono ?_
        rintro e v1 ⟨rfl, W1⟩
        have sv1 : v1.heap.size = v0.heap.size := W1.size
        have PSb := Lib.hid (PSa.out.keep (w' := v1) (fun b _ h2 => W1.block b (.inl (by omega))) (by omega))
        have PIb := Lib.hid (PIa.out.keep (w' := v1) (fun b h1 _ => W1.block b (.inr (by omega))) (by omega))
        have Qqb := Lib.hid (Qqa.out.keep (w' := v1) (fun b h1 _ => W1.block b (.inr (by omega))) (by omega))
        have Y2b := Lib.hid (show Box v1 u9.heap.size _ _ from (W1.block _ (.inr (by omega))).trans Y2a.out)
        have X2b := Lib.hid (show Box v1 w.heap.size _ _ from (W1.block _ (.inl (by omega))).trans X2a.out)
        have TB := Lib.hid (TA.out.trans (W1.below.mono (by omega)))
        have OM := offM_rng (1 + (s0.length : Int)) l1 l1.length (Nat.le_refl _)
        generalize offM (1 + (s0.length : Int)) l1 l1.length = om at OM
        obtain ⟨om0, om1⟩ := OM
        have gg0 := Y2b.out.cell 0
        have gg1 := Y2b.out.cell 1
        simp only [List.getElem?_toArray, List.getElem?_cons_zero, List.getElem?_cons_succ] at gg0 gg1
        clear W1 PSa PIa Qma Qqa Y2a X2a TA
        go_wp2_with fail
        refine (markQuery_o (u8.heap.size + 3) (u8.heap.size + 3 + 1) u9.heap.size _ _ _ _ s2 l2 om (by omega) (by omega) hzq _ (by first | exact Qqb.out.qo hl2 | exact (Qqb.out.step (below_drew _)).qo hl2)).mono ?_
        rintro e v2 ⟨rfl, M2, _⟩
        have sv2 : v1.heap.size ≤ v2.heap.size := M2.below.size
        have PSc := Lib.hid (PSb.out.keep (w' := v2) (fun b _ h2 => M2.keep (.inl (by omega)) (by omega)) sv2)
        have PIc := Lib.hid (PIb.out.keep (w' := v2) (fun b h1 h2 => M2.keep (.inr (by omega)) (by omega)) sv2)
        have X2c := Lib.hid (show Box v2 w.heap.size _ _ from (M2.keep (.inl (by omega)) X2b.out.lt).trans X2b.out)
        have TC := Lib.hid (TB.out.trans (M2.below.mono (by omega)))
        have hk2 : 0 ≤ om + szQ s2 l2 := by omega
        have hk2' : ¬ (om + szQ s2 l2 < 0) := by omega
        clear M2 PSb PIb Qqb Y2b X2b TB gg0 gg1
        go_wp2_with fail
        refine (eqStepS_r _ _ _ _ res hrl _ PIc.out.rz PSc.out.rz).mono ?_
        rintro e v4 ⟨rfl, D4⟩
        have PSe := Lib.hid (PSc.out.step D4)
        have PIe := Lib.hid (PIc.out.step D4)
        have X2e := Lib.hid (X2c.out.step D4)
        have TE := Lib.hid (step TC.out D4)
        have sv4 := D4.size
        clear D4 PSc PIc X2c TC
        go_wp2_with fail
        refine (markStepS_any (u9.heap.size + 1) u10.heap.size g10 cp10 1 res hrl (by omega) (by omega) _ PIe.out).mono ?_
        rintro e v5 ⟨rfl, W5, O5⟩
        have PSf := Lib.hid (PSe.out.keep (w' := v5) (fun b _ h2 => W5.block b (.inl (by omega))) (by have := W5.size; omega))
        have X2f := Lib.hid (show Box v5 w.heap.size _ _ from (W5.block _ (.inl (by omega))).trans X2e.out)
        have TV := TE.out.trans (W5.below.mono (by omega))
        have HR := Lib.hid O5
        have I0v := Lib.hid ((show RI w A0 s0 from I0w.out).step TV)
        have I1v := Lib.hid ((show RM w A1 l1 from I1w.out).step TV)
        have I2v := Lib.hid ((show RI w H2 s2 from I2w.out.1).step TV)
        have F2v := Lib.hid ((show RF w A2 l2 from I2w.out.2).step TV)
        have hq0 : ¬ (1 + 2 * (res.length : Int) < 0) := by omega
        have hq1 : 0 ≤ 1 + 2 * (res.length : Int) := by omega
        clear W5 O5 PSe PIe X2e TE
        go_wp2_with fail
        refine (heldStepS_any g10 _ res.length 1 hrl (by omega) (by omega) _ HR.out).mono ?_
        rintro e v6 ⟨rfl, rfl⟩
        have gh0 := X2f.out.cell 0
        have gh1 := X2f.out.cell 1
        simp only [List.getElem?_toArray, List.getElem?_cons_zero, List.getElem?_cons_succ] at gh0 gh1
        have ghn := X2f.out.lt
        have tok51 : True := trivial
        have tok52 : True := trivial
        have tok53 : True := trivial
        have tok54 : True := trivial
        go_wp2_with fail
        go_region_held3 (fun w' => w'.cell? ⟨w.heap.size, 0, none⟩ = some (.slice H2 s2.length x2) ∧ w'.cell? ⟨w.heap.size, 1, none⟩ = some (.slice A2 l2.length c2))
          (first
            | go_keep
            | (go_split_ands; refine ⟨?_, ?_⟩ <;> (rw [d51.cell (by (try simp) <;> omega)]; assumption))
            | (go_split_ands; refine ⟨?_, ?_⟩ <;> (rw [d52.cell (by (try simp) <;> omega)]; assumption))
            | (go_split_ands; refine ⟨?_, ?_⟩ <;> (rw [d53.cell (by (try simp) <;> omega)]; assumption))
            | (go_split_ands; refine ⟨?_, ?_⟩ <;> (rw [d54.cell (by (try simp) <;> omega)]; assumption)))
          (first
            | (go_at_call 15
               clear tok51
               refine (toIntS_r A0 c0 s0 hl0 _ (by first | exact I0v.out | exact I0v.out.step (below_drew _) | exact I0v.out.step (below_alloc _ _) | exact I0v.out.step (step (below_alloc _ _) (below_alloc _ _)))).mono ?_
               rintro e u51 ⟨rfl, r51, d51, z51⟩
               have b51 : Below v5.heap.size v5 u51 := by first | exact d51 | exact und d51 | exact undN d51 | exact below_new d51 | exact und (below_new d51) | exact below_new (und d51) | exact below_new (below_new d51) | exact step (below_drew _) (und (below_new d51))
               have I0v' := Lib.hid (I0v.out.step b51)
               clear I0v
               have I0v := I0v'
               clear I0v'
               have I1v' := Lib.hid (I1v.out.step b51)
               clear I1v
               have I1v := I1v'
               clear I1v'
               have I2v' := Lib.hid (I2v.out.step b51)
               clear I2v
               have I2v := I2v'
               clear I2v'
               have F2v' := Lib.hid (F2v.out.step b51)
               clear F2v
               have F2v := F2v'
               clear F2v'
               have X2f' := Lib.hid (X2f.out.step b51)
               clear X2f
               have X2f := X2f'
               clear X2f'
               have PSf' := Lib.hid (PSf.out.step b51)
               clear PSf
               have PSf := PSf'
               clear PSf'
               have HR' := Lib.hid (HR.out.step b51)
               clear HR
               have HR := HR'
               clear HR'
               have T51 := step TV b51
               have Z51 := b51.size
               have R51 := Lib.hid r51.ri
               clear r51 z51)
            | (go_at_call 16
               clear tok52
               refine (toMethodS_r A1 c1 l1 hz1 _ (by first | exact I1v.out | exact I1v.out.step (below_drew _) | exact I1v.out.step (below_alloc _ _) | exact I1v.out.step (step (below_alloc _ _) (below_alloc _ _)))).mono ?_
               rintro e u52 ⟨rfl, r52, d52, z52⟩
               have b52 : Below u51.heap.size u51 u52 := by first | exact d52 | exact und d52 | exact undN d52 | exact below_new d52 | exact und (below_new d52) | exact below_new (und d52) | exact below_new (below_new d52) | exact step (below_drew _) (und (below_new d52))
               have I0v' := Lib.hid (I0v.out.step b52)
               clear I0v
               have I0v := I0v'
               clear I0v'
               have I1v' := Lib.hid (I1v.out.step b52)
               clear I1v
               have I1v := I1v'
               clear I1v'
               have I2v' := Lib.hid (I2v.out.step b52)
               clear I2v
               have I2v := I2v'
               clear I2v'
               have F2v' := Lib.hid (F2v.out.step b52)
               clear F2v
               have F2v := F2v'
               clear F2v'
               have X2f' := Lib.hid (X2f.out.step b52)
               clear X2f
               have X2f := X2f'
               clear X2f'
               have PSf' := Lib.hid (PSf.out.step b52)
               clear PSf
               have PSf := PSf'
               clear PSf'
               have HR' := Lib.hid (HR.out.step b52)
               clear HR
               have HR := HR'
               clear HR'
               have R51' := Lib.hid (R51.out.step b52)
               clear R51
               have R51 := R51'
               clear R51'
               have T52 := step T51 b52
               have Z52 := b52.size
               have R52 := Lib.hid r52
               clear r52 z52)
            | (go_at_call 17
               clear tok53
               refine (toQuery_r H2 A2 x2 c2 s2 l2 hl2 hz2 _ (by first | exact I2v.out | exact I2v.out.step (below_drew _) | exact I2v.out.step (below_alloc _ _) | exact I2v.out.step (step (below_alloc _ _) (below_alloc _ _))) (by first | exact F2v.out | exact F2v.out.step (below_drew _) | exact F2v.out.step (below_alloc _ _) | exact F2v.out.step (step (below_alloc _ _) (below_alloc _ _)))).mono ?_
               rintro e u53 ⟨rfl, r53, d53, z53⟩
               have b53 : Below u52.heap.size u52 u53 := by first | exact d53 | exact und d53 | exact undN d53 | exact below_new d53 | exact und (below_new d53) | exact below_new (und d53) | exact below_new (below_new d53) | exact step (below_drew _) (und (below_new d53))
               have I0v' := Lib.hid (I0v.out.step b53)
               clear I0v
               have I0v := I0v'
               clear I0v'
               have I1v' := Lib.hid (I1v.out.step b53)
               clear I1v
               have I1v := I1v'
               clear I1v'
               have I2v' := Lib.hid (I2v.out.step b53)
               clear I2v
               have I2v := I2v'
               clear I2v'
               have F2v' := Lib.hid (F2v.out.step b53)
               clear F2v
               have F2v := F2v'
               clear F2v'
               have X2f' := Lib.hid (X2f.out.step b53)
               clear X2f
               have X2f := X2f'
               clear X2f'
               have PSf' := Lib.hid (PSf.out.step b53)
               clear PSf
               have PSf := PSf'
               clear PSf'
               have HR' := Lib.hid (HR.out.step b53)
               clear HR
               have HR := HR'
               clear HR'
               have R51' := Lib.hid (R51.out.step b53)
               clear R51
               have R51 := R51'
               clear R51'
               have R52' := Lib.hid (R52.out.step b53)
               clear R52
               have R52 := R52'
               clear R52'
               have T53 := step T52 b53
               have Z53 := b53.size
               have R53 := Lib.hid r53
               clear r53 z53)
            | (go_at_call 35
               clear tok54
               refine (CI.out _ _ _ _ _ _ _ _ _ (by first | exact R51.out | exact R51.out.step (below_drew _) | exact R51.out.step (below_alloc _ _) | exact R51.out.step (step (below_alloc _ _) (below_alloc _ _))) (by first | exact R52.out | exact R52.out.step (below_drew _) | exact R52.out.step (below_alloc _ _) | exact R52.out.step (step (below_alloc _ _) (below_alloc _ _))) (by first | exact R53.out.ri | exact (R53.out.step (below_drew _)).ri | exact (R53.out.step (below_alloc _ _)).ri) (by first | exact R53.out.rf | exact (R53.out.step (below_drew _)).rf | exact (R53.out.step (below_alloc _ _)).rf)).mono ?_
               rintro e u54 ⟨g54, cp54, rfl, p54, d54⟩
               have b54 : Below u53.heap.size u53 u54 := by first | exact d54 | exact und d54 | exact undN d54 | exact below_new d54 | exact und (below_new d54) | exact below_new (und d54) | exact below_new (below_new d54) | exact step (below_drew _) (und (below_new d54))
               have I0v' := Lib.hid (I0v.out.step b54)
               clear I0v
               have I0v := I0v'
               clear I0v'
               have I1v' := Lib.hid (I1v.out.step b54)
               clear I1v
               have I1v := I1v'
               clear I1v'
               have I2v' := Lib.hid (I2v.out.step b54)
               clear I2v
               have I2v := I2v'
               clear I2v'
               have F2v' := Lib.hid (F2v.out.step b54)
               clear F2v
               have F2v := F2v'
               clear F2v'
               have X2f' := Lib.hid (X2f.out.step b54)
               clear X2f
               have X2f := X2f'
               clear X2f'
               have PSf' := Lib.hid (PSf.out.step b54)
               clear PSf
               have PSf := PSf'
               clear PSf'
               have HR' := Lib.hid (HR.out.step b54)
               clear HR
               have HR := HR'
               clear HR'
               have R51' := Lib.hid (R51.out.step b54)
               clear R51
               have R51 := R51'
               clear R51'
               have R52' := Lib.hid (R52.out.step b54)
               clear R52
               have R52 := R52'
               clear R52'
               have R53' := Lib.hid (R53.out.step b54)
               clear R53
               have R53 := R53'
               clear R53'
               have T54 := step T53 b54
               have Z54 := b54.size
               have P54 := Lib.hid (show PZ u54 u53.heap.size u54.heap.size g54 res from p54)
               clear p54))
        go_wp2_with fail
        refine (eqStepS_r _ _ _ _ res hrl _ (by first | exact P54.out.rz | exact (P54.out.step (below_drew _)).rz | exact (P54.out.step (below_alloc _ _)).rz) (by first | exact PSf.out.rz | exact (PSf.out.step (below_drew _)).rz | exact (PSf.out.step (below_alloc _ _)).rz)).mono ?_
        rintro e u55 ⟨rfl, d55⟩
        have b55 : Below u54.heap.size u54 u55 := by first | exact d55 | exact und d55 | exact undN d55 | exact below_new d55 | exact und (below_new d55) | exact below_new (und d55) | exact below_new (below_new d55) | exact step (below_drew _) (und (below_new d55))
        have I0v' := Lib.hid (I0v.out.step b55)
        clear I0v
        have I0v := I0v'
        clear I0v'
        have I1v' := Lib.hid (I1v.out.step b55)
        clear I1v
        have I1v := I1v'
        clear I1v'
        have I2v' := Lib.hid (I2v.out.step b55)
        clear I2v
        have I2v := I2v'
        clear I2v'
        have F2v' := Lib.hid (F2v.out.step b55)
        clear F2v
        have F2v := F2v'
        clear F2v'
        have X2f' := Lib.hid (X2f.out.step b55)
        clear X2f
        have X2f := X2f'
        clear X2f'
        have PSf' := Lib.hid (PSf.out.step b55)
        clear PSf
        have PSf := PSf'
        clear PSf'
        have HR' := Lib.hid (HR.out.step b55)
        clear HR
        have HR := HR'
        clear HR'
        have P54' := Lib.hid (P54.out.step b55)
        clear P54
        have P54 := P54'
        clear P54'
        have T55 := step T54 b55
        have Z55 := b55.size
        go_wp2_with fail
        refine (heldStepS_any g10 _ res.length 1 hrl (by omega) (by omega) _ HR.out).mono ?_
        rintro e v9 ⟨rfl, rfl⟩
        go_wp2
        go_ret
        exact ⟨rfl, T55⟩

set_option maxRecDepth 100000 in
theorem lifted (os : Os) (started : os.Started) (H : Type) (enc : TypeId × Value → H) :
    ReturnsInHanded {} Try.checked os 6 .any (Rows.fnExactCheapestOrderSpec.pre6 enc Try.prog Try.f6 Rows.fnExactCheapestOrderRow.domain false) (Rows.fnExactCheapestOrderSpec.post enc Try.prog Try.f6 false true false false) := by
  refine returnsInHanded_of_change (C := Try.checked) own started (by kernel_rfl) Try.func6
    (ChangeSpec.witness6 (enc := enc) (C := Try.checked) false ⟨#[], #[.slice none 0 0, .slice none 0 0, .agg #[.slice none 0 0, .slice none 0 0]], []⟩ 8 (by kernel_rfl) (by kernel_rfl) (by kernel_rfl) (by kernel_rfl)) ?_
  intro W base args ds gs before hval0 hW hcnd _
  have hval : ∀ (j : Nat) t v, Try.f6.params[j]? = some t → args[j]? = some v → Value.okWide Try.prog W .any base t v := hval0
  have hpost := fun (W' : World) (hfn : Rows.fnExactCheapestOrderSpec.fn H (ds ++ gs) = { results := [.lit (.bool true)], args := ds }) (hb : Below W.heap.size W W') => law_post (enc := enc) laidOut (f := Try.f6) (s := Rows.fnExactCheapestOrderSpec) (args := args) rfl rfl Try.underlying4 (by intro t ht; rw [Try.params6] at ht; simp at ht; rcases ht with rfl | rfl | rfl <;> exact ⟨by kernel_rfl, of_decide_eq_true (by kernel_rfl)⟩) hW hfn hb
  obtain ⟨p, q, hA0, hV, rfl, hfz, hnd⟩ := hW
  have hA : DataW.TrodAll enc Try.prog W 0 (fun _ => true) true Try.f6.params.toList args.toList ds p := hA0
  rw [Try.params6] at hA hval
  obtain ⟨v0, vs0, d0, ds0, p0, q0, hargs, rfl, rfl, h0, r0⟩ := trodAll_cons hA
  obtain ⟨v1, vs1, d1, ds1, p1, q1, rfl, rfl, rfl, h1, r1⟩ := trodAll_cons r0
  obtain ⟨v2, vs2, d2, ds2, p2, q2, rfl, rfl, rfl, h2, r2⟩ := trodAll_cons r1
  obtain ⟨rfl, rfl, rfl⟩ := trodAll_nil r2
  obtain rfl : args = #[v0, v1, v2] := by cases args; simp_all
  obtain ⟨rfl, rfl⟩ := trodVars_none hV
  obtain ⟨A0, c0, s0, rfl, l0, m0, w0⟩ := open_numsT Try.underlying22 Try.underlying3 (by kernel_rfl) (hval 0 22 v0 rfl rfl) h0
  obtain ⟨A1, c1, l1, rfl, k1, m1, w1⟩ := open_methodsT (hval 1 23 v1 rfl rfl) h1
  obtain ⟨H2, A2, x2, c2, s2, l2, rfl, y2, z2, k2, m2, w2⟩ := open_queryT (hval 2 26 v2 rfl rfl) h2
  refine (walk W A0 c0 s0 l0 m0 w0 A1 c1 l1 k1 m1 w1 H2 A2 x2 c2 s2 l2 y2 z2 k2 m2 w2).mono fun e W' ⟨he, hg⟩ => ?_
  subst he
  exact ⟨_, rfl, hpost W' rfl hg⟩

theorem over : Rows.fnExactCheapestOrderRow.holds Try.pinned (OpenSpec.ofChange Rows.fnExactCheapestOrderSpec) :=
  OpenClaim.holds_of_wide 6 Try.f6 rfl rfl rfl rfl rfl rfl rfl ⟨rfl, rfl, rfl, rfl, rfl⟩ rfl rfl rfl rfl rfl (by kernel_rfl) Try.func6 (by kernel_rfl)
    (of_decide_eq_true (by kernel_rfl)) (by unfold Func.isWrapper; first | (rw [if_pos (by decide +kernel)]; kernel_rfl) | (rw [if_neg (by decide +kernel)]; exact ⟨rfl, rfl⟩))
    (fun os started H enc _ => lifted os started H enc)
end Go.Proofs.Ytighalbnpgmdfaa.fnExactCheapestOrder
namespace Go.Proofs.Ytighalbnpgmdfaa
theorem fnExactCheapestOrder_holds : Rows.FnExactCheapestOrderSaid := fnExactCheapestOrder.over
#print axioms fnExactCheapestOrder_holds
end Go.Proofs.Ytighalbnpgmdfaa
