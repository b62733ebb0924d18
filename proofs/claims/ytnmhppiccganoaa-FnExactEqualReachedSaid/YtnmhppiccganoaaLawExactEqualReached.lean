/- impl.EqualReached answers as its model at every argument: the law FnExactEqualReached returns true. Conditions: none beyond the statement's own. -/
import Derived.Test.YtnmhppiccganoaaRchE
namespace Go.Proofs.Ytnmhppiccganoaa.fnExactEqualReached
open Go.ChangeShapes Go.WideShapes Go.ChangeAt Go.RowKit
open Go.ChangeMaps (open_string shut_string)
set_option linter.unusedVariables false
set_option linter.unusedSimpArgs false

set_option maxRecDepth 100000 in
set_option maxHeartbeats 1000000 in
theorem walk (w : World) (A0 V0 L0 : Option Addr) (c0 e0 k0 : Nat) (f0 : FL) (s0 : List Int) (l0 : FL) (n0 : Int) (y0 : f0.length ≤ c0 ∧ s0.length ≤ e0 ∧ l0.length ≤ k0) (z0 : c0 ≤ maxLen ∧ e0 ≤ maxLen ∧ k0 ≤ maxLen) (w0 : RF w A0 f0 ∧ RI w V0 s0 ∧ RF w L0 l0) (A1 V1 L1 : Option Addr) (c1 e1 k1 : Nat) (f1 : FL) (s1 : List Int) (l1 : FL) (n1 : Int) (y1 : f1.length ≤ c1 ∧ s1.length ≤ e1 ∧ l1.length ≤ k1) (z1 : c1 ≤ maxLen ∧ e1 ≤ maxLen ∧ k1 ≤ maxLen) (w1 : RF w A1 f1 ∧ RI w V1 s1 ∧ RF w L1 l1) :
    Calls Try.prog 4 #[.agg #[.slice A0 f0.length c0, .slice V0 s0.length e0, .slice L0 l0.length k0, .int .i64 n0], .agg #[.slice A1 f1.length c1, .slice V1 s1.length e1, .slice L1 l1.length k1, .int .i64 n1]] w fun e w' => e = .returned (.bool true) ∧ Below w.heap.size w w' := by
  unfold maxLen at z0 z1
  obtain ⟨ya0, yb0, yc0⟩ := y0
  obtain ⟨ya1, yb1, yc1⟩ := y1
  obtain ⟨za0, zb0, zc0⟩ := z0
  obtain ⟨za1, zb1, zc1⟩ := z1
  have hn0 := szC_nonneg f0 s0 l0
  have hn1 := szC_nonneg f1 s1 l1
  have hf0 := szF_nonneg f0
  have hf1 := szF_nonneg f1
  have hm0 := szF_nonneg l0
  have hm1 := szF_nonneg l1
  have EQ0 := Lib.hid (show szC f0 s0 l0 = szF f0 + ((s0.length : Int) + szF l0) from rfl)
  have EQ1 := Lib.hid (show szC f1 s1 l1 = szF f1 + ((s1.length : Int) + szF l1) from rfl)
  by_cases hb0 : 1048576 - szC f0 s0 l0 < 0
  · have F0 := Lib.hid (show RF w A0 f0 from w0.1)
    have I0 := Lib.hid (show RI w V0 s0 from w0.2.1)
    have G0 := Lib.hid (show RF w L0 l0 from w0.2.2)
    have F1 := Lib.hid (show RF w A1 f1 from w1.1)
    have I1 := Lib.hid (show RI w V1 s1 from w1.2.1)
    have G1 := Lib.hid (show RF w L1 l1 from w1.2.2)
    clear w0 w1
    go_enter Try.func4, Try.ntmps4
    go_wp2_with fail
    refine (szReached_any A0 V0 L0 c0 e0 k0 f0 s0 l0 n0 1048576 (by omega) (by omega) (by omega) (by omega) (by omega) _ (by first | exact F0.out | exact F0.out.step (below_drew _) | exact F0.out.step (below_alloc _ _) | exact F0.out.step (step (below_alloc _ _) (below_alloc _ _))) (by first | exact G0.out | exact G0.out.step (below_drew _) | exact G0.out.step (below_alloc _ _) | exact G0.out.step (step (below_alloc _ _) (below_alloc _ _)))).mono ?_
    rintro e u1 ⟨he, d1⟩
    rw [szR_neg hb0] at he
    subst he
    have X0 := Lib.hid (Box.of_new2 d1).1
    have X1 := Lib.hid (Box.of_new2 d1).2
    have b1 : Below w.heap.size w u1 := by first | exact d1 | exact und d1 | exact undN d1 | exact below_new d1 | exact und (below_new d1) | exact below_new (und d1) | exact below_new (below_new d1) | exact step (below_drew _) (und (below_new d1))
    have F0' := Lib.hid (F0.out.step b1)
    clear F0
    have F0 := F0'
    clear F0'
    have I0' := Lib.hid (I0.out.step b1)
    clear I0
    have I0 := I0'
    clear I0'
    have G0' := Lib.hid (G0.out.step b1)
    clear G0
    have G0 := G0'
    clear G0'
    have F1' := Lib.hid (F1.out.step b1)
    clear F1
    have F1 := F1'
    clear F1'
    have I1' := Lib.hid (I1.out.step b1)
    clear I1
    have I1 := I1'
    clear I1'
    have G1' := Lib.hid (G1.out.step b1)
    clear G1
    have G1 := G1'
    clear G1'
    have T1 := b1
    have Z1 := b1.size
    have ga0 := X0.out.cell 0
    have ga1 := X0.out.cell 1
    have ga2 := X0.out.cell 2
    have ga3 := X0.out.cell 3
    simp only [List.getElem?_toArray, List.getElem?_cons_zero, List.getElem?_cons_succ] at ga0 ga1 ga2 ga3
    have gan := X0.out.lt
    have gb0 := X1.out.cell 0
    have gb1 := X1.out.cell 1
    have gb2 := X1.out.cell 2
    have gb3 := X1.out.cell 3
    simp only [List.getElem?_toArray, List.getElem?_cons_zero, List.getElem?_cons_succ] at gb0 gb1 gb2 gb3
    have gbn := X1.out.lt
    go_wp2
    go_ret
    exact ⟨rfl, T1⟩
  · have hb0' : 0 ≤ 1048576 - szC f0 s0 l0 := by omega
    by_cases hb1 : 1048576 - szC f0 s0 l0 - szC f1 s1 l1 < 0
    · have F0 := Lib.hid (show RF w A0 f0 from w0.1)
      have I0 := Lib.hid (show RI w V0 s0 from w0.2.1)
      have G0 := Lib.hid (show RF w L0 l0 from w0.2.2)
      have F1 := Lib.hid (show RF w A1 f1 from w1.1)
      have I1 := Lib.hid (show RI w V1 s1 from w1.2.1)
      have G1 := Lib.hid (show RF w L1 l1 from w1.2.2)
      clear w0 w1
      go_enter Try.func4, Try.ntmps4
      go_wp2_with fail
      refine (szReached_any A0 V0 L0 c0 e0 k0 f0 s0 l0 n0 1048576 (by omega) (by omega) (by omega) (by omega) (by omega) _ (by first | exact F0.out | exact F0.out.step (below_drew _) | exact F0.out.step (below_alloc _ _) | exact F0.out.step (step (below_alloc _ _) (below_alloc _ _))) (by first | exact G0.out | exact G0.out.step (below_drew _) | exact G0.out.step (below_alloc _ _) | exact G0.out.step (step (below_alloc _ _) (below_alloc _ _)))).mono ?_
      rintro e u1 ⟨he, d1⟩
      rw [szR_pos (show ¬ (1048576 - szC f0 s0 l0 < 0) by omega)] at he
      subst he
      have X0 := Lib.hid (Box.of_new2 d1).1
      have X1 := Lib.hid (Box.of_new2 d1).2
      have b1 : Below w.heap.size w u1 := by first | exact d1 | exact und d1 | exact undN d1 | exact below_new d1 | exact und (below_new d1) | exact below_new (und d1) | exact below_new (below_new d1) | exact step (below_drew _) (und (below_new d1))
      have F0' := Lib.hid (F0.out.step b1)
      clear F0
      have F0 := F0'
      clear F0'
      have I0' := Lib.hid (I0.out.step b1)
      clear I0
      have I0 := I0'
      clear I0'
      have G0' := Lib.hid (G0.out.step b1)
      clear G0
      have G0 := G0'
      clear G0'
      have F1' := Lib.hid (F1.out.step b1)
      clear F1
      have F1 := F1'
      clear F1'
      have I1' := Lib.hid (I1.out.step b1)
      clear I1
      have I1 := I1'
      clear I1'
      have G1' := Lib.hid (G1.out.step b1)
      clear G1
      have G1 := G1'
      clear G1'
      have T1 := b1
      have Z1 := b1.size
      have ga0 := X0.out.cell 0
      have ga1 := X0.out.cell 1
      have ga2 := X0.out.cell 2
      have ga3 := X0.out.cell 3
      simp only [List.getElem?_toArray, List.getElem?_cons_zero, List.getElem?_cons_succ] at ga0 ga1 ga2 ga3
      have gan := X0.out.lt
      have gb0 := X1.out.cell 0
      have gb1 := X1.out.cell 1
      have gb2 := X1.out.cell 2
      have gb3 := X1.out.cell 3
      simp only [List.getElem?_toArray, List.getElem?_cons_zero, List.getElem?_cons_succ] at gb0 gb1 gb2 gb3
      have gbn := X1.out.lt
      go_wp2_with fail
      refine (szReached_any A1 V1 L1 c1 e1 k1 f1 s1 l1 n1 (1048576 - szC f0 s0 l0) (by omega) (by omega) (by omega) (by omega) (by omega) _ (by first | exact F1.out | exact F1.out.step (below_drew _) | exact F1.out.step (below_alloc _ _) | exact F1.out.step (step (below_alloc _ _) (below_alloc _ _))) (by first | exact G1.out | exact G1.out.step (below_drew _) | exact G1.out.step (below_alloc _ _) | exact G1.out.step (step (below_alloc _ _) (below_alloc _ _)))).mono ?_
      rintro e u2 ⟨he, d2⟩
      rw [szR_neg hb1] at he
      subst he
      have b2 : Below u1.heap.size u1 u2 := by first | exact d2 | exact und d2 | exact undN d2 | exact below_new d2 | exact und (below_new d2) | exact below_new (und d2) | exact below_new (below_new d2) | exact step (below_drew _) (und (below_new d2))
      have F0' := Lib.hid (F0.out.step b2)
      clear F0
      have F0 := F0'
      clear F0'
      have I0' := Lib.hid (I0.out.step b2)
      clear I0
      have I0 := I0'
      clear I0'
      have G0' := Lib.hid (G0.out.step b2)
      clear G0
      have G0 := G0'
      clear G0'
      have F1' := Lib.hid (F1.out.step b2)
      clear F1
      have F1 := F1'
      clear F1'
      have I1' := Lib.hid (I1.out.step b2)
      clear I1
      have I1 := I1'
      clear I1'
      have G1' := Lib.hid (G1.out.step b2)
      clear G1
      have G1 := G1'
      clear G1'
      have X0' := Lib.hid (X0.out.step b2)
      clear X0
      have X0 := X0'
      clear X0'
      have X1' := Lib.hid (X1.out.step b2)
      clear X1
      have X1 := X1'
      clear X1'
      have T2 := step T1 b2
      have Z2 := b2.size
      have gc0 := X0.out.cell 0
      have gc1 := X0.out.cell 1
      have gc2 := X0.out.cell 2
      have gc3 := X0.out.cell 3
      simp only [List.getElem?_toArray, List.getElem?_cons_zero, List.getElem?_cons_succ] at gc0 gc1 gc2 gc3
      have gcn := X0.out.lt
      have gd0 := X1.out.cell 0
      have gd1 := X1.out.cell 1
      have gd2 := X1.out.cell 2
      have gd3 := X1.out.cell 3
      simp only [List.getElem?_toArray, List.getElem?_cons_zero, List.getElem?_cons_succ] at gd0 gd1 gd2 gd3
      have gdn := X1.out.lt
      go_wp2
      go_ret
      exact ⟨rfl, T2⟩
    · skip
      have hz0 : szF f0 ≤ 1048576 := by have := EQ0.out; omega
      have hy0 : szF l0 ≤ 1048576 := by have := EQ0.out; omega
      have hl0 : s0.length ≤ 1048576 := by have := EQ0.out; omega
      have hz1 : szF f1 ≤ 1048576 := by have := EQ1.out; omega
      have hy1 : szF l1 ≤ 1048576 := by have := EQ1.out; omega
      have hl1 : s1.length ≤ 1048576 := by have := EQ1.out; omega
      have hb1' : 0 ≤ 1048576 - szC f0 s0 l0 - szC f1 s1 l1 := by omega
      have CS := Lib.hid fun (A V L A' V' L' : Option Addr) (c d k c' d' k' : Nat) (w : World) (h1 : RF w A f0) (h2 : RI w V s0) (h3 : RF w L l0) (h4 : RF w A' f1) (h5 : RI w V' s1) (h6 : RF w L' l1) => spec_EqualReached A V L A' V' L' c d k c' d' k' f0 s0 l0 n0 f1 s1 l1 n1 hz0 hl0 hy0 hz1 hl1 hy1 w h1 h2 h3 h4 h5 h6
      have CI := Lib.hid fun (A V L A' V' L' : Option Addr) (c d k c' d' k' : Nat) (w : World) (h1 : RF w A f0) (h2 : RI w V s0) (h3 : RF w L l0) (h4 : RF w A' f1) (h5 : RI w V' s1) (h6 : RF w L' l1) => impl_EqualReached A V L A' V' L' c d k c' d' k' f0 s0 l0 n0 f1 s1 l1 n1 hz0 hl0 hy0 hz1 hl1 hy1 w h1 h2 h3 h4 h5 h6
      generalize eqC f0 s0 l0 n0 f1 s1 l1 n1 = res at CS CI
      have F0 := Lib.hid (show RF w A0 f0 from w0.1)
      have I0 := Lib.hid (show RI w V0 s0 from w0.2.1)
      have G0 := Lib.hid (show RF w L0 l0 from w0.2.2)
      have F1 := Lib.hid (show RF w A1 f1 from w1.1)
      have I1 := Lib.hid (show RI w V1 s1 from w1.2.1)
      have G1 := Lib.hid (show RF w L1 l1 from w1.2.2)
      clear w0 w1
      go_enter Try.func4, Try.ntmps4
      go_wp2_with fail
      refine (szReached_any A0 V0 L0 c0 e0 k0 f0 s0 l0 n0 1048576 (by omega) (by omega) (by omega) (by omega) (by omega) _ (by first | exact F0.out | exact F0.out.step (below_drew _) | exact F0.out.step (below_alloc _ _) | exact F0.out.step (step (below_alloc _ _) (below_alloc _ _))) (by first | exact G0.out | exact G0.out.step (below_drew _) | exact G0.out.step (below_alloc _ _) | exact G0.out.step (step (below_alloc _ _) (below_alloc _ _)))).mono ?_
      rintro e u1 ⟨he, d1⟩
      rw [szR_pos (show ¬ (1048576 - szC f0 s0 l0 < 0) by omega)] at he
      subst he
      have X0 := Lib.hid (Box.of_new2 d1).1
      have X1 := Lib.hid (Box.of_new2 d1).2
      have b1 : Below w.heap.size w u1 := by first | exact d1 | exact und d1 | exact undN d1 | exact below_new d1 | exact und (below_new d1) | exact below_new (und d1) | exact below_new (below_new d1) | exact step (below_drew _) (und (below_new d1))
      have F0' := Lib.hid (F0.out.step b1)
      clear F0
      have F0 := F0'
      clear F0'
      have I0' := Lib.hid (I0.out.step b1)
      clear I0
      have I0 := I0'
      clear I0'
      have G0' := Lib.hid (G0.out.step b1)
      clear G0
      have G0 := G0'
      clear G0'
      have F1' := Lib.hid (F1.out.step b1)
      clear F1
      have F1 := F1'
      clear F1'
      have I1' := Lib.hid (I1.out.step b1)
      clear I1
      have I1 := I1'
      clear I1'
      have G1' := Lib.hid (G1.out.step b1)
      clear G1
      have G1 := G1'
      clear G1'
      have T1 := b1
      have Z1 := b1.size
      have ga0 := X0.out.cell 0
      have ga1 := X0.out.cell 1
      have ga2 := X0.out.cell 2
      have ga3 := X0.out.cell 3
      simp only [List.getElem?_toArray, List.getElem?_cons_zero, List.getElem?_cons_succ] at ga0 ga1 ga2 ga3
      have gan := X0.out.lt
      have gb0 := X1.out.cell 0
      have gb1 := X1.out.cell 1
      have gb2 := X1.out.cell 2
      have gb3 := X1.out.cell 3
      simp only [List.getElem?_toArray, List.getElem?_cons_zero, List.getElem?_cons_succ] at gb0 gb1 gb2 gb3
      have gbn := X1.out.lt
      go_wp2_with fail
      refine (szReached_any A1 V1 L1 c1 e1 k1 f1 s1 l1 n1 (1048576 - szC f0 s0 l0) (by omega) (by omega) (by omega) (by omega) (by omega) _ (by first | exact F1.out | exact F1.out.step (below_drew _) | exact F1.out.step (below_alloc _ _) | exact F1.out.step (step (below_alloc _ _) (below_alloc _ _))) (by first | exact G1.out | exact G1.out.step (below_drew _) | exact G1.out.step (below_alloc _ _) | exact G1.out.step (step (below_alloc _ _) (below_alloc _ _)))).mono ?_
      rintro e u2 ⟨he, d2⟩
      rw [szR_pos (show ¬ (1048576 - szC f0 s0 l0 - szC f1 s1 l1 < 0) by omega)] at he
      subst he
      have b2 : Below u1.heap.size u1 u2 := by first | exact d2 | exact und d2 | exact undN d2 | exact below_new d2 | exact und (below_new d2) | exact below_new (und d2) | exact below_new (below_new d2) | exact step (below_drew _) (und (below_new d2))
      have F0' := Lib.hid (F0.out.step b2)
      clear F0
      have F0 := F0'
      clear F0'
      have I0' := Lib.hid (I0.out.step b2)
      clear I0
      have I0 := I0'
      clear I0'
      have G0' := Lib.hid (G0.out.step b2)
      clear G0
      have G0 := G0'
      clear G0'
      have F1' := Lib.hid (F1.out.step b2)
      clear F1
      have F1 := F1'
      clear F1'
      have I1' := Lib.hid (I1.out.step b2)
      clear I1
      have I1 := I1'
      clear I1'
      have G1' := Lib.hid (G1.out.step b2)
      clear G1
      have G1 := G1'
      clear G1'
      have X0' := Lib.hid (X0.out.step b2)
      clear X0
      have X0 := X0'
      clear X0'
      have X1' := Lib.hid (X1.out.step b2)
      clear X1
      have X1 := X1'
      clear X1'
      have T2 := step T1 b2
      have Z2 := b2.size
      have gc0 := X0.out.cell 0
      have gc1 := X0.out.cell 1
      have gc2 := X0.out.cell 2
      have gc3 := X0.out.cell 3
      simp only [List.getElem?_toArray, List.getElem?_cons_zero, List.getElem?_cons_succ] at gc0 gc1 gc2 gc3
      have gcn := X0.out.lt
      have gd0 := X1.out.cell 0
      have gd1 := X1.out.cell 1
      have gd2 := X1.out.cell 2
      have gd3 := X1.out.cell 3
      simp only [List.getElem?_toArray, List.getElem?_cons_zero, List.getElem?_cons_succ] at gd0 gd1 gd2 gd3
      have gdn := X1.out.lt
      have tok3 : True := trivial
      have tok4 : True := trivial
      have tok5 : True := trivial
      go_wp2_with fail
      go_region_held3 (fun w' => w'.cell? ⟨w.heap.size, 0, none⟩ = some (.slice A0 f0.length c0) ∧ w'.cell? ⟨w.heap.size, 1, none⟩ = some (.slice V0 s0.length e0) ∧ w'.cell? ⟨w.heap.size, 2, none⟩ = some (.slice L0 l0.length k0) ∧ w'.cell? ⟨w.heap.size, 3, none⟩ = some (.int .i64 n0) ∧ w'.cell? ⟨w.heap.size + 1, 0, none⟩ = some (.slice A1 f1.length c1) ∧ w'.cell? ⟨w.heap.size + 1, 1, none⟩ = some (.slice V1 s1.length e1) ∧ w'.cell? ⟨w.heap.size + 1, 2, none⟩ = some (.slice L1 l1.length k1) ∧ w'.cell? ⟨w.heap.size + 1, 3, none⟩ = some (.int .i64 n1))
        (first
          | go_keep
          | (go_split_ands; refine ⟨?_, ?_, ?_, ?_, ?_, ?_, ?_, ?_⟩ <;> (rw [d3.cell (by (try simp) <;> omega)]; assumption))
          | (go_split_ands; refine ⟨?_, ?_, ?_, ?_, ?_, ?_, ?_, ?_⟩ <;> (rw [d4.cell (by (try simp) <;> omega)]; assumption))
          | (go_split_ands; refine ⟨?_, ?_, ?_, ?_, ?_, ?_, ?_, ?_⟩ <;> (rw [d5.cell (by (try simp) <;> omega)]; assumption)))
        (first
          | (go_at_call 15
             clear tok3
             refine (toReached_r A0 V0 L0 c0 e0 k0 f0 s0 l0 n0 hz0 hl0 hy0 _ (by first | exact F0.out | exact F0.out.step (below_drew _) | exact F0.out.step (below_alloc _ _) | exact F0.out.step (step (below_alloc _ _) (below_alloc _ _))) (by first | exact I0.out | exact I0.out.step (below_drew _) | exact I0.out.step (below_alloc _ _) | exact I0.out.step (step (below_alloc _ _) (below_alloc _ _))) (by first | exact G0.out | exact G0.out.step (below_drew _) | exact G0.out.step (below_alloc _ _) | exact G0.out.step (step (below_alloc _ _) (below_alloc _ _)))).mono ?_
             rintro e u3 ⟨t3, rfl, r3, d3, z3⟩
             have b3 : Below u2.heap.size u2 u3 := by first | exact d3 | exact und d3 | exact undN d3 | exact below_new d3 | exact und (below_new d3) | exact below_new (und d3) | exact below_new (below_new d3) | exact step (below_drew _) (und (below_new d3))
             have F0' := Lib.hid (F0.out.step b3)
             clear F0
             have F0 := F0'
             clear F0'
             have I0' := Lib.hid (I0.out.step b3)
             clear I0
             have I0 := I0'
             clear I0'
             have G0' := Lib.hid (G0.out.step b3)
             clear G0
             have G0 := G0'
             clear G0'
             have F1' := Lib.hid (F1.out.step b3)
             clear F1
             have F1 := F1'
             clear F1'
             have I1' := Lib.hid (I1.out.step b3)
             clear I1
             have I1 := I1'
             clear I1'
             have G1' := Lib.hid (G1.out.step b3)
             clear G1
             have G1 := G1'
             clear G1'
             have X0' := Lib.hid (X0.out.step b3)
             clear X0
             have X0 := X0'
             clear X0'
             have X1' := Lib.hid (X1.out.step b3)
             clear X1
             have X1 := X1'
             clear X1'
             have T3 := step T2 b3
             have Z3 := b3.size
             try rw [al_size] at r3
             have Q3 := Lib.hid r3
             clear r3 z3)
          | (go_at_call 15
             clear tok4
             refine (toReached_r A1 V1 L1 c1 e1 k1 f1 s1 l1 n1 hz1 hl1 hy1 _ (by first | exact F1.out | exact F1.out.step (below_drew _) | exact F1.out.step (below_alloc _ _) | exact F1.out.step (step (below_alloc _ _) (below_alloc _ _))) (by first | exact I1.out | exact I1.out.step (below_drew _) | exact I1.out.step (below_alloc _ _) | exact I1.out.step (step (below_alloc _ _) (below_alloc _ _))) (by first | exact G1.out | exact G1.out.step (below_drew _) | exact G1.out.step (below_alloc _ _) | exact G1.out.step (step (below_alloc _ _) (below_alloc _ _)))).mono ?_
             rintro e u4 ⟨t4, rfl, r4, d4, z4⟩
             have b4 : Below u3.heap.size u3 u4 := by first | exact d4 | exact und d4 | exact undN d4 | exact below_new d4 | exact und (below_new d4) | exact below_new (und d4) | exact below_new (below_new d4) | exact step (below_drew _) (und (below_new d4))
             have F0' := Lib.hid (F0.out.step b4)
             clear F0
             have F0 := F0'
             clear F0'
             have I0' := Lib.hid (I0.out.step b4)
             clear I0
             have I0 := I0'
             clear I0'
             have G0' := Lib.hid (G0.out.step b4)
             clear G0
             have G0 := G0'
             clear G0'
             have F1' := Lib.hid (F1.out.step b4)
             clear F1
             have F1 := F1'
             clear F1'
             have I1' := Lib.hid (I1.out.step b4)
             clear I1
             have I1 := I1'
             clear I1'
             have G1' := Lib.hid (G1.out.step b4)
             clear G1
             have G1 := G1'
             clear G1'
             have X0' := Lib.hid (X0.out.step b4)
             clear X0
             have X0 := X0'
             clear X0'
             have X1' := Lib.hid (X1.out.step b4)
             clear X1
             have X1 := X1'
             clear X1'
             have Q3' := Lib.hid (Q3.out.step b4)
             clear Q3
             have Q3 := Q3'
             clear Q3'
             have T4 := step T3 b4
             have Z4 := b4.size
             try rw [al_size] at r4
             have Q4 := Lib.hid r4
             clear r4 z4)
          | (go_at_call 14
             clear tok5
             refine (CS.out _ _ _ _ _ _ _ _ _ _ _ _ _ (by first | exact Q3.out.rf | exact (Q3.out.step (below_drew _)).rf | exact (Q3.out.step (below_alloc _ _)).rf) (by first | exact Q3.out.ri | exact (Q3.out.step (below_drew _)).ri | exact (Q3.out.step (below_alloc _ _)).ri) (by first | exact Q3.out.rl | exact (Q3.out.step (below_drew _)).rl | exact (Q3.out.step (below_alloc _ _)).rl) (by first | exact Q4.out.rf | exact (Q4.out.step (below_drew _)).rf | exact (Q4.out.step (below_alloc _ _)).rf) (by first | exact Q4.out.ri | exact (Q4.out.step (below_drew _)).ri | exact (Q4.out.step (below_alloc _ _)).ri) (by first | exact Q4.out.rl | exact (Q4.out.step (below_drew _)).rl | exact (Q4.out.step (below_alloc _ _)).rl)).mono ?_
             rintro e u5 ⟨rfl, d5⟩
             have b5 : Below u4.heap.size u4 u5 := by first | exact d5 | exact und d5 | exact undN d5 | exact below_new d5 | exact und (below_new d5) | exact below_new (und d5) | exact below_new (below_new d5) | exact step (below_drew _) (und (below_new d5))
             have F0' := Lib.hid (F0.out.step b5)
             clear F0
             have F0 := F0'
             clear F0'
             have I0' := Lib.hid (I0.out.step b5)
             clear I0
             have I0 := I0'
             clear I0'
             have G0' := Lib.hid (G0.out.step b5)
             clear G0
             have G0 := G0'
             clear G0'
             have F1' := Lib.hid (F1.out.step b5)
             clear F1
             have F1 := F1'
             clear F1'
             have I1' := Lib.hid (I1.out.step b5)
             clear I1
             have I1 := I1'
             clear I1'
             have G1' := Lib.hid (G1.out.step b5)
             clear G1
             have G1 := G1'
             clear G1'
             have X0' := Lib.hid (X0.out.step b5)
             clear X0
             have X0 := X0'
             clear X0'
             have X1' := Lib.hid (X1.out.step b5)
             clear X1
             have X1 := X1'
             clear X1'
             have Q3' := Lib.hid (Q3.out.step b5)
             clear Q3
             have Q3 := Q3'
             clear Q3'
             have Q4' := Lib.hid (Q4.out.step b5)
             clear Q4
             have Q4 := Q4'
             clear Q4'
             have T5 := step T4 b5
             have Z5 := b5.size))
      have ge0 := X0.out.cell 0
      have ge1 := X0.out.cell 1
      have ge2 := X0.out.cell 2
      have ge3 := X0.out.cell 3
      simp only [List.getElem?_toArray, List.getElem?_cons_zero, List.getElem?_cons_succ] at ge0 ge1 ge2 ge3
      have gen := X0.out.lt
      have gf0 := X1.out.cell 0
      have gf1 := X1.out.cell 1
      have gf2 := X1.out.cell 2
      have gf3 := X1.out.cell 3
      simp only [List.getElem?_toArray, List.getElem?_cons_zero, List.getElem?_cons_succ] at gf0 gf1 gf2 gf3
      have gfn := X1.out.lt
      go_wp2_with fail
      refine (toReached_r A0 V0 L0 c0 e0 k0 f0 s0 l0 n0 hz0 hl0 hy0 _ (by first | exact F0.out | exact F0.out.step (below_drew _) | exact F0.out.step (below_alloc _ _) | exact F0.out.step (step (below_alloc _ _) (below_alloc _ _))) (by first | exact I0.out | exact I0.out.step (below_drew _) | exact I0.out.step (below_alloc _ _) | exact I0.out.step (step (below_alloc _ _) (below_alloc _ _))) (by first | exact G0.out | exact G0.out.step (below_drew _) | exact G0.out.step (below_alloc _ _) | exact G0.out.step (step (below_alloc _ _) (below_alloc _ _)))).mono ?_
      rintro e u6 ⟨t6, rfl, r6, d6, z6⟩
      have b6 : Below u5.heap.size u5 u6 := by first | exact d6 | exact und d6 | exact undN d6 | exact below_new d6 | exact und (below_new d6) | exact below_new (und d6) | exact below_new (below_new d6) | exact step (below_drew _) (und (below_new d6))
      have F0' := Lib.hid (F0.out.step b6)
      clear F0
      have F0 := F0'
      clear F0'
      have I0' := Lib.hid (I0.out.step b6)
      clear I0
      have I0 := I0'
      clear I0'
      have G0' := Lib.hid (G0.out.step b6)
      clear G0
      have G0 := G0'
      clear G0'
      have F1' := Lib.hid (F1.out.step b6)
      clear F1
      have F1 := F1'
      clear F1'
      have I1' := Lib.hid (I1.out.step b6)
      clear I1
      have I1 := I1'
      clear I1'
      have G1' := Lib.hid (G1.out.step b6)
      clear G1
      have G1 := G1'
      clear G1'
      have X0' := Lib.hid (X0.out.step b6)
      clear X0
      have X0 := X0'
      clear X0'
      have X1' := Lib.hid (X1.out.step b6)
      clear X1
      have X1 := X1'
      clear X1'
      have T6 := step T5 b6
      have Z6 := b6.size
      try rw [al_size] at r6
      have Q6 := Lib.hid r6
      clear r6 z6
      have gg0 := X0.out.cell 0
      have gg1 := X0.out.cell 1
      have gg2 := X0.out.cell 2
      have gg3 := X0.out.cell 3
      simp only [List.getElem?_toArray, List.getElem?_cons_zero, List.getElem?_cons_succ] at gg0 gg1 gg2 gg3
      have ggn := X0.out.lt
      have gh0 := X1.out.cell 0
      have gh1 := X1.out.cell 1
      have gh2 := X1.out.cell 2
      have gh3 := X1.out.cell 3
      simp only [List.getElem?_toArray, List.getElem?_cons_zero, List.getElem?_cons_succ] at gh0 gh1 gh2 gh3
      have ghn := X1.out.lt
      go_wp2_with fail
      refine (toReached_r A1 V1 L1 c1 e1 k1 f1 s1 l1 n1 hz1 hl1 hy1 _ (by first | exact F1.out | exact F1.out.step (below_drew _) | exact F1.out.step (below_alloc _ _) | exact F1.out.step (step (below_alloc _ _) (below_alloc _ _))) (by first | exact I1.out | exact I1.out.step (below_drew _) | exact I1.out.step (below_alloc _ _) | exact I1.out.step (step (below_alloc _ _) (below_alloc _ _))) (by first | exact G1.out | exact G1.out.step (below_drew _) | exact G1.out.step (below_alloc _ _) | exact G1.out.step (step (below_alloc _ _) (below_alloc _ _)))).mono ?_
      rintro e u7 ⟨t7, rfl, r7, d7, z7⟩
      have Y0 := Lib.hid (Box.of_new d7)
      have b7 : Below u6.heap.size u6 u7 := by first | exact d7 | exact und d7 | exact undN d7 | exact below_new d7 | exact und (below_new d7) | exact below_new (und d7) | exact below_new (below_new d7) | exact step (below_drew _) (und (below_new d7))
      have F0' := Lib.hid (F0.out.step b7)
      clear F0
      have F0 := F0'
      clear F0'
      have I0' := Lib.hid (I0.out.step b7)
      clear I0
      have I0 := I0'
      clear I0'
      have G0' := Lib.hid (G0.out.step b7)
      clear G0
      have G0 := G0'
      clear G0'
      have F1' := Lib.hid (F1.out.step b7)
      clear F1
      have F1 := F1'
      clear F1'
      have I1' := Lib.hid (I1.out.step b7)
      clear I1
      have I1 := I1'
      clear I1'
      have G1' := Lib.hid (G1.out.step b7)
      clear G1
      have G1 := G1'
      clear G1'
      have X0' := Lib.hid (X0.out.step b7)
      clear X0
      have X0 := X0'
      clear X0'
      have X1' := Lib.hid (X1.out.step b7)
      clear X1
      have X1 := X1'
      clear X1'
      have Q6' := Lib.hid (Q6.out.step b7)
      clear Q6
      have Q6 := Q6'
      clear Q6'
      have T7 := step T6 b7
      have Z7 := b7.size
      try rw [al_size] at r7
      have Q7 := Lib.hid r7
      clear r7 z7
      have gi0 := Y0.out.cell 0
      have gi1 := Y0.out.cell 1
      have gi2 := Y0.out.cell 2
      have gi3 := Y0.out.cell 3
      simp only [List.getElem?_toArray, List.getElem?_cons_zero, List.getElem?_cons_succ] at gi0 gi1 gi2 gi3
      have gin := Y0.out.lt
      go_wp2_with fail
      refine (CI.out _ _ _ _ _ _ _ _ _ _ _ _ _ (by first | exact Q6.out.rf | exact (Q6.out.step (below_drew _)).rf | exact (Q6.out.step (below_alloc _ _)).rf) (by first | exact Q6.out.ri | exact (Q6.out.step (below_drew _)).ri | exact (Q6.out.step (below_alloc _ _)).ri) (by first | exact Q6.out.rl | exact (Q6.out.step (below_drew _)).rl | exact (Q6.out.step (below_alloc _ _)).rl) (by first | exact Q7.out.rf | exact (Q7.out.step (below_drew _)).rf | exact (Q7.out.step (below_alloc _ _)).rf) (by first | exact Q7.out.ri | exact (Q7.out.step (below_drew _)).ri | exact (Q7.out.step (below_alloc _ _)).ri) (by first | exact Q7.out.rl | exact (Q7.out.step (below_drew _)).rl | exact (Q7.out.step (below_alloc _ _)).rl)).mono ?_
      rintro e u8 ⟨rfl, d8⟩
      have Y1 := Lib.hid (Box.of_new d8)
      have b8 : Below u7.heap.size u7 u8 := by first | exact d8 | exact und d8 | exact undN d8 | exact below_new d8 | exact und (below_new d8) | exact below_new (und d8) | exact below_new (below_new d8) | exact step (below_drew _) (und (below_new d8))
      have F0' := Lib.hid (F0.out.step b8)
      clear F0
      have F0 := F0'
      clear F0'
      have I0' := Lib.hid (I0.out.step b8)
      clear I0
      have I0 := I0'
      clear I0'
      have G0' := Lib.hid (G0.out.step b8)
      clear G0
      have G0 := G0'
      clear G0'
      have F1' := Lib.hid (F1.out.step b8)
      clear F1
      have F1 := F1'
      clear F1'
      have I1' := Lib.hid (I1.out.step b8)
      clear I1
      have I1 := I1'
      clear I1'
      have G1' := Lib.hid (G1.out.step b8)
      clear G1
      have G1 := G1'
      clear G1'
      have X0' := Lib.hid (X0.out.step b8)
      clear X0
      have X0 := X0'
      clear X0'
      have X1' := Lib.hid (X1.out.step b8)
      clear X1
      have X1 := X1'
      clear X1'
      have Q6' := Lib.hid (Q6.out.step b8)
      clear Q6
      have Q6 := Q6'
      clear Q6'
      have Q7' := Lib.hid (Q7.out.step b8)
      clear Q7
      have Q7 := Q7'
      clear Q7'
      have Y0' := Lib.hid (Y0.out.step b8)
      clear Y0
      have Y0 := Y0'
      clear Y0'
      have T8 := step T7 b8
      have Z8 := b8.size
      have gj0 := X0.out.cell 0
      have gj1 := X0.out.cell 1
      have gj2 := X0.out.cell 2
      have gj3 := X0.out.cell 3
      simp only [List.getElem?_toArray, List.getElem?_cons_zero, List.getElem?_cons_succ] at gj0 gj1 gj2 gj3
      have gjn := X0.out.lt
      have gk0 := X1.out.cell 0
      have gk1 := X1.out.cell 1
      have gk2 := X1.out.cell 2
      have gk3 := X1.out.cell 3
      simp only [List.getElem?_toArray, List.getElem?_cons_zero, List.getElem?_cons_succ] at gk0 gk1 gk2 gk3
      have gkn := X1.out.lt
      have gl0 := Y0.out.cell 0
      have gl1 := Y0.out.cell 1
      have gl2 := Y0.out.cell 2
      have gl3 := Y0.out.cell 3
      simp only [List.getElem?_toArray, List.getElem?_cons_zero, List.getElem?_cons_succ] at gl0 gl1 gl2 gl3
      have gln := Y0.out.lt
      have gm0 := Y1.out.cell 0
      have gm1 := Y1.out.cell 1
      have gm2 := Y1.out.cell 2
      have gm3 := Y1.out.cell 3
      simp only [List.getElem?_toArray, List.getElem?_cons_zero, List.getElem?_cons_succ] at gm0 gm1 gm2 gm3
      have gmn := Y1.out.lt
      have tok9 : True := trivial
      have tok10 : True := trivial
      go_wp2_with fail
      go_region_held3 (fun w' => w'.cell? ⟨w.heap.size, 0, none⟩ = some (.slice A0 f0.length c0) ∧ w'.cell? ⟨w.heap.size, 1, none⟩ = some (.slice V0 s0.length e0) ∧ w'.cell? ⟨w.heap.size, 2, none⟩ = some (.slice L0 l0.length k0) ∧ w'.cell? ⟨w.heap.size, 3, none⟩ = some (.int .i64 n0) ∧ w'.cell? ⟨u6.heap.size, 0, none⟩ = some (.slice (some ⟨u5.heap.size + 3, 0, none⟩) f0.length f0.length) ∧ w'.cell? ⟨u6.heap.size, 1, none⟩ = some (.slice (some ⟨t6, 0, none⟩) s0.length s0.length) ∧ w'.cell? ⟨u6.heap.size, 2, none⟩ = some (.slice (some ⟨t6 + 1, 0, none⟩) l0.length l0.length) ∧ w'.cell? ⟨u6.heap.size, 3, none⟩ = some (.int .i64 n0))
        (first
          | go_keep
          | (go_split_ands; refine ⟨?_, ?_, ?_, ?_, ?_, ?_, ?_, ?_⟩ <;> (rw [d9.cell (by (try simp) <;> omega)]; assumption))
          | (go_split_ands; refine ⟨?_, ?_, ?_, ?_, ?_, ?_, ?_, ?_⟩ <;> (rw [d10.cell (by (try simp) <;> omega)]; assumption)))
        (first
          | (go_at_call 15
             clear tok9
             refine (toReached_r A0 V0 L0 c0 e0 k0 f0 s0 l0 n0 hz0 hl0 hy0 _ (by first | exact F0.out | exact F0.out.step (below_drew _) | exact F0.out.step (below_alloc _ _) | exact F0.out.step (step (below_alloc _ _) (below_alloc _ _))) (by first | exact I0.out | exact I0.out.step (below_drew _) | exact I0.out.step (below_alloc _ _) | exact I0.out.step (step (below_alloc _ _) (below_alloc _ _))) (by first | exact G0.out | exact G0.out.step (below_drew _) | exact G0.out.step (below_alloc _ _) | exact G0.out.step (step (below_alloc _ _) (below_alloc _ _)))).mono ?_
             rintro e u9 ⟨t9, rfl, r9, d9, z9⟩
             have b9 : Below u8.heap.size u8 u9 := by first | exact d9 | exact und d9 | exact undN d9 | exact below_new d9 | exact und (below_new d9) | exact below_new (und d9) | exact below_new (below_new d9) | exact step (below_drew _) (und (below_new d9))
             have F0' := Lib.hid (F0.out.step b9)
             clear F0
             have F0 := F0'
             clear F0'
             have I0' := Lib.hid (I0.out.step b9)
             clear I0
             have I0 := I0'
             clear I0'
             have G0' := Lib.hid (G0.out.step b9)
             clear G0
             have G0 := G0'
             clear G0'
             have F1' := Lib.hid (F1.out.step b9)
             clear F1
             have F1 := F1'
             clear F1'
             have I1' := Lib.hid (I1.out.step b9)
             clear I1
             have I1 := I1'
             clear I1'
             have G1' := Lib.hid (G1.out.step b9)
             clear G1
             have G1 := G1'
             clear G1'
             have X0' := Lib.hid (X0.out.step b9)
             clear X0
             have X0 := X0'
             clear X0'
             have X1' := Lib.hid (X1.out.step b9)
             clear X1
             have X1 := X1'
             clear X1'
             have Q6' := Lib.hid (Q6.out.step b9)
             clear Q6
             have Q6 := Q6'
             clear Q6'
             have Q7' := Lib.hid (Q7.out.step b9)
             clear Q7
             have Q7 := Q7'
             clear Q7'
             have Y0' := Lib.hid (Y0.out.step b9)
             clear Y0
             have Y0 := Y0'
             clear Y0'
             have Y1' := Lib.hid (Y1.out.step b9)
             clear Y1
             have Y1 := Y1'
             clear Y1'
             have T9 := step T8 b9
             have Z9 := b9.size
             try rw [al_size] at r9
             have Q9 := Lib.hid r9
             clear r9 z9)
          | (go_at_call 8
             clear tok10
             refine (eqReached_r _ _ _ _ _ _ _ _ _ _ _ _ f0 s0 l0 n0 hz0 hl0 hy0 _ (by first | exact Q6.out.rf | exact (Q6.out.step (below_drew _)).rf | exact (Q6.out.step (below_alloc _ _)).rf) (by first | exact Q6.out.ri | exact (Q6.out.step (below_drew _)).ri | exact (Q6.out.step (below_alloc _ _)).ri) (by first | exact Q6.out.rl | exact (Q6.out.step (below_drew _)).rl | exact (Q6.out.step (below_alloc _ _)).rl) (by first | exact Q9.out.rf | exact (Q9.out.step (below_drew _)).rf | exact (Q9.out.step (below_alloc _ _)).rf) (by first | exact Q9.out.ri | exact (Q9.out.step (below_drew _)).ri | exact (Q9.out.step (below_alloc _ _)).ri) (by first | exact Q9.out.rl | exact (Q9.out.step (below_drew _)).rl | exact (Q9.out.step (below_alloc _ _)).rl)).mono ?_
             rintro e u10 ⟨rfl, d10⟩
             have b10 : Below u9.heap.size u9 u10 := by first | exact d10 | exact und d10 | exact undN d10 | exact below_new d10 | exact und (below_new d10) | exact below_new (und d10) | exact below_new (below_new d10) | exact step (below_drew _) (und (below_new d10))
             have F0' := Lib.hid (F0.out.step b10)
             clear F0
             have F0 := F0'
             clear F0'
             have I0' := Lib.hid (I0.out.step b10)
             clear I0
             have I0 := I0'
             clear I0'
             have G0' := Lib.hid (G0.out.step b10)
             clear G0
             have G0 := G0'
             clear G0'
             have F1' := Lib.hid (F1.out.step b10)
             clear F1
             have F1 := F1'
             clear F1'
             have I1' := Lib.hid (I1.out.step b10)
             clear I1
             have I1 := I1'
             clear I1'
             have G1' := Lib.hid (G1.out.step b10)
             clear G1
             have G1 := G1'
             clear G1'
             have X0' := Lib.hid (X0.out.step b10)
             clear X0
             have X0 := X0'
             clear X0'
             have X1' := Lib.hid (X1.out.step b10)
             clear X1
             have X1 := X1'
             clear X1'
             have Q6' := Lib.hid (Q6.out.step b10)
             clear Q6
             have Q6 := Q6'
             clear Q6'
             have Q7' := Lib.hid (Q7.out.step b10)
             clear Q7
             have Q7 := Q7'
             clear Q7'
             have Y0' := Lib.hid (Y0.out.step b10)
             clear Y0
             have Y0 := Y0'
             clear Y0'
             have Y1' := Lib.hid (Y1.out.step b10)
             clear Y1
             have Y1 := Y1'
             clear Y1'
             have Q9' := Lib.hid (Q9.out.step b10)
             clear Q9
             have Q9 := Q9'
             clear Q9'
             have T10 := step T9 b10
             have Z10 := b10.size))
      have gn0 := X1.out.cell 0
      have gn1 := X1.out.cell 1
      have gn2 := X1.out.cell 2
      have gn3 := X1.out.cell 3
      simp only [List.getElem?_toArray, List.getElem?_cons_zero, List.getElem?_cons_succ] at gn0 gn1 gn2 gn3
      have gnn := X1.out.lt
      have go0 := Y1.out.cell 0
      have go1 := Y1.out.cell 1
      have go2 := Y1.out.cell 2
      have go3 := Y1.out.cell 3
      simp only [List.getElem?_toArray, List.getElem?_cons_zero, List.getElem?_cons_succ] at go0 go1 go2 go3
      have gon := Y1.out.lt
      have tok11 : True := trivial
      have tok12 : True := trivial
      go_wp2_with fail
      go_region_held3 (fun w' => w'.cell? ⟨w.heap.size + 1, 0, none⟩ = some (.slice A1 f1.length c1) ∧ w'.cell? ⟨w.heap.size + 1, 1, none⟩ = some (.slice V1 s1.length e1) ∧ w'.cell? ⟨w.heap.size + 1, 2, none⟩ = some (.slice L1 l1.length k1) ∧ w'.cell? ⟨w.heap.size + 1, 3, none⟩ = some (.int .i64 n1) ∧ w'.cell? ⟨u7.heap.size, 0, none⟩ = some (.slice (some ⟨u6.heap.size + 1 + 3, 0, none⟩) f1.length f1.length) ∧ w'.cell? ⟨u7.heap.size, 1, none⟩ = some (.slice (some ⟨t7, 0, none⟩) s1.length s1.length) ∧ w'.cell? ⟨u7.heap.size, 2, none⟩ = some (.slice (some ⟨t7 + 1, 0, none⟩) l1.length l1.length) ∧ w'.cell? ⟨u7.heap.size, 3, none⟩ = some (.int .i64 n1))
        (first
          | go_keep
          | (go_split_ands; refine ⟨?_, ?_, ?_, ?_, ?_, ?_, ?_, ?_⟩ <;> (rw [d11.cell (by (try simp) <;> omega)]; assumption))
          | (go_split_ands; refine ⟨?_, ?_, ?_, ?_, ?_, ?_, ?_, ?_⟩ <;> (rw [d12.cell (by (try simp) <;> omega)]; assumption)))
        (first
          | (go_at_call 15
             clear tok11
             refine (toReached_r A1 V1 L1 c1 e1 k1 f1 s1 l1 n1 hz1 hl1 hy1 _ (by first | exact F1.out | exact F1.out.step (below_drew _) | exact F1.out.step (below_alloc _ _) | exact F1.out.step (step (below_alloc _ _) (below_alloc _ _))) (by first | exact I1.out | exact I1.out.step (below_drew _) | exact I1.out.step (below_alloc _ _) | exact I1.out.step (step (below_alloc _ _) (below_alloc _ _))) (by first | exact G1.out | exact G1.out.step (below_drew _) | exact G1.out.step (below_alloc _ _) | exact G1.out.step (step (below_alloc _ _) (below_alloc _ _)))).mono ?_
             rintro e u11 ⟨t11, rfl, r11, d11, z11⟩
             have b11 : Below u10.heap.size u10 u11 := by first | exact d11 | exact und d11 | exact undN d11 | exact below_new d11 | exact und (below_new d11) | exact below_new (und d11) | exact below_new (below_new d11) | exact step (below_drew _) (und (below_new d11))
             have F0' := Lib.hid (F0.out.step b11)
             clear F0
             have F0 := F0'
             clear F0'
             have I0' := Lib.hid (I0.out.step b11)
             clear I0
             have I0 := I0'
             clear I0'
             have G0' := Lib.hid (G0.out.step b11)
             clear G0
             have G0 := G0'
             clear G0'
             have F1' := Lib.hid (F1.out.step b11)
             clear F1
             have F1 := F1'
             clear F1'
             have I1' := Lib.hid (I1.out.step b11)
             clear I1
             have I1 := I1'
             clear I1'
             have G1' := Lib.hid (G1.out.step b11)
             clear G1
             have G1 := G1'
             clear G1'
             have X0' := Lib.hid (X0.out.step b11)
             clear X0
             have X0 := X0'
             clear X0'
             have X1' := Lib.hid (X1.out.step b11)
             clear X1
             have X1 := X1'
             clear X1'
             have Q6' := Lib.hid (Q6.out.step b11)
             clear Q6
             have Q6 := Q6'
             clear Q6'
             have Q7' := Lib.hid (Q7.out.step b11)
             clear Q7
             have Q7 := Q7'
             clear Q7'
             have Y0' := Lib.hid (Y0.out.step b11)
             clear Y0
             have Y0 := Y0'
             clear Y0'
             have Y1' := Lib.hid (Y1.out.step b11)
             clear Y1
             have Y1 := Y1'
             clear Y1'
             have T11 := step T10 b11
             have Z11 := b11.size
             try rw [al_size] at r11
             have Q11 := Lib.hid r11
             clear r11 z11)
          | (go_at_call 8
             clear tok12
             refine (eqReached_r _ _ _ _ _ _ _ _ _ _ _ _ f1 s1 l1 n1 hz1 hl1 hy1 _ (by first | exact Q7.out.rf | exact (Q7.out.step (below_drew _)).rf | exact (Q7.out.step (below_alloc _ _)).rf) (by first | exact Q7.out.ri | exact (Q7.out.step (below_drew _)).ri | exact (Q7.out.step (below_alloc _ _)).ri) (by first | exact Q7.out.rl | exact (Q7.out.step (below_drew _)).rl | exact (Q7.out.step (below_alloc _ _)).rl) (by first | exact Q11.out.rf | exact (Q11.out.step (below_drew _)).rf | exact (Q11.out.step (below_alloc _ _)).rf) (by first | exact Q11.out.ri | exact (Q11.out.step (below_drew _)).ri | exact (Q11.out.step (below_alloc _ _)).ri) (by first | exact Q11.out.rl | exact (Q11.out.step (below_drew _)).rl | exact (Q11.out.step (below_alloc _ _)).rl)).mono ?_
             rintro e u12 ⟨rfl, d12⟩
             have b12 : Below u11.heap.size u11 u12 := by first | exact d12 | exact und d12 | exact undN d12 | exact below_new d12 | exact und (below_new d12) | exact below_new (und d12) | exact below_new (below_new d12) | exact step (below_drew _) (und (below_new d12))
             have F0' := Lib.hid (F0.out.step b12)
             clear F0
             have F0 := F0'
             clear F0'
             have I0' := Lib.hid (I0.out.step b12)
             clear I0
             have I0 := I0'
             clear I0'
             have G0' := Lib.hid (G0.out.step b12)
             clear G0
             have G0 := G0'
             clear G0'
             have F1' := Lib.hid (F1.out.step b12)
             clear F1
             have F1 := F1'
             clear F1'
             have I1' := Lib.hid (I1.out.step b12)
             clear I1
             have I1 := I1'
             clear I1'
             have G1' := Lib.hid (G1.out.step b12)
             clear G1
             have G1 := G1'
             clear G1'
             have X0' := Lib.hid (X0.out.step b12)
             clear X0
             have X0 := X0'
             clear X0'
             have X1' := Lib.hid (X1.out.step b12)
             clear X1
             have X1 := X1'
             clear X1'
             have Q6' := Lib.hid (Q6.out.step b12)
             clear Q6
             have Q6 := Q6'
             clear Q6'
             have Q7' := Lib.hid (Q7.out.step b12)
             clear Q7
             have Q7 := Q7'
             clear Q7'
             have Y0' := Lib.hid (Y0.out.step b12)
             clear Y0
             have Y0 := Y0'
             clear Y0'
             have Y1' := Lib.hid (Y1.out.step b12)
             clear Y1
             have Y1 := Y1'
             clear Y1'
             have Q11' := Lib.hid (Q11.out.step b12)
             clear Q11
             have Q11 := Q11'
             clear Q11'
             have T12 := step T11 b12
             have Z12 := b12.size))
      go_wp2
      go_ret
      exact ⟨rfl, by first | exact T12 | exact T12.drew⟩

set_option maxRecDepth 100000 in
theorem lifted (os : Os) (started : os.Started) (H : Type) (enc : TypeId × Value → H) :
    ReturnsInHanded {} Try.checked os 4 .any (Rows.fnExactEqualReachedSpec.pre6 enc Try.prog Try.f4 Rows.fnExactEqualReachedRow.domain false) (Rows.fnExactEqualReachedSpec.post enc Try.prog Try.f4 false true false false) := by
  refine returnsInHanded_of_change (C := Try.checked) own started (by kernel_rfl) Try.func4
    (ChangeSpec.witness6 (enc := enc) (C := Try.checked) false ⟨#[], #[.agg #[.slice none 0 0, .slice none 0 0, .slice none 0 0, .int .i64 0], .agg #[.slice none 0 0, .slice none 0 0, .slice none 0 0, .int .i64 0]], []⟩ 8 (by kernel_rfl) (by kernel_rfl) (by kernel_rfl) (by kernel_rfl)) ?_
  intro W base args ds gs before hval0 hW hcnd _
  have hval : ∀ (j : Nat) t v, Try.f4.params[j]? = some t → args[j]? = some v → Value.okWide Try.prog W .any base t v := hval0
  have hpost := fun (W' : World) (hfn : Rows.fnExactEqualReachedSpec.fn H (ds ++ gs) = { results := [.lit (.bool true)], args := ds }) (hb : Below W.heap.size W W') => law_post (enc := enc) laidOut (f := Try.f4) (s := Rows.fnExactEqualReachedSpec) (args := args) rfl rfl Try.underlying4 (by intro t ht; rw [Try.params4] at ht; simp at ht; rcases ht with rfl | rfl <;> exact ⟨by kernel_rfl, of_decide_eq_true (by kernel_rfl)⟩) hW hfn hb
  obtain ⟨p, q, hA0, hV, rfl, hfz, hnd⟩ := hW
  have hA : DataW.TrodAll enc Try.prog W 0 (fun _ => true) true Try.f4.params.toList args.toList ds p := hA0
  rw [Try.params4] at hA hval
  obtain ⟨v0, vs0, d0, ds0, p0, q0, hargs, rfl, rfl, h0, r0⟩ := trodAll_cons hA
  obtain ⟨v1, vs1, d1, ds1, p1, q1, rfl, rfl, rfl, h1, r1⟩ := trodAll_cons r0
  obtain ⟨rfl, rfl, rfl⟩ := trodAll_nil r1
  obtain rfl : args = #[v0, v1] := by cases args; simp_all
  obtain ⟨rfl, rfl⟩ := trodVars_none hV
  obtain ⟨A0, V0, L0, c0, e0, k0, f0, s0, l0, n0, rfl, y0, z0, w0⟩ := open_reachedT (hval 0 37 v0 rfl rfl) h0
  obtain ⟨A1, V1, L1, c1, e1, k1, f1, s1, l1, n1, rfl, y1, z1, w1⟩ := open_reachedT (hval 1 37 v1 rfl rfl) h1
  refine (walk W A0 V0 L0 c0 e0 k0 f0 s0 l0 n0 y0 z0 w0 A1 V1 L1 c1 e1 k1 f1 s1 l1 n1 y1 z1 w1).mono fun e W' ⟨he, hg⟩ => ?_
  subst he
  exact ⟨_, rfl, hpost W' rfl hg⟩

theorem over : Rows.fnExactEqualReachedRow.holds Try.pinned (OpenSpec.ofChange Rows.fnExactEqualReachedSpec) :=
  OpenClaim.holds_of_wide 4 Try.f4 rfl rfl rfl rfl rfl rfl rfl ⟨rfl, rfl, rfl, rfl, rfl⟩ rfl rfl rfl rfl rfl (by kernel_rfl) Try.func4 (by kernel_rfl)
    (of_decide_eq_true (by kernel_rfl)) (by unfold Func.isWrapper; first | (rw [if_pos (by decide +kernel)]; kernel_rfl) | (rw [if_neg (by decide +kernel)]; exact ⟨rfl, rfl⟩))
    (fun os started H enc _ => lifted os started H enc)
end Go.Proofs.Ytnmhppiccganoaa.fnExactEqualReached
namespace Go.Proofs.Ytnmhppiccganoaa
theorem fnExactEqualReached_holds : Rows.FnExactEqualReachedSaid := fnExactEqualReached.over
#print axioms fnExactEqualReached_holds
end Go.Proofs.Ytnmhppiccganoaa
