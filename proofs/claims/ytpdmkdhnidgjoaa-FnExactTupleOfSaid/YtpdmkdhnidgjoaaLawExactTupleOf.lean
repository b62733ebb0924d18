/- impl.TupleOf answers as its model at every argument: the law FnExactTupleOf returns true. Conditions: none beyond the statement's own. -/
import Derived.Test.YtpdmkdhnidgjoaaTuV
import Derived.Test.YtpdmkdhnidgjoaaMatL
import Derived.Test.YtpdmkdhnidgjoaaQL
namespace Go.Proofs.Ytpdmkdhnidgjoaa.fnExactTupleOf
open Go.ChangeShapes Go.WideShapes Go.ChangeAt Go.RowKit
open Go.ChangeMaps (open_string shut_string)
set_option linter.unusedVariables false
set_option linter.unusedSimpArgs false
open Go.Proofs.Ytpdmkdhnidgjoaa.atom
set_option maxRecDepth 100000 in
set_option maxHeartbeats 1000000 in
theorem walk (w : World) (H0 A0 : Option Addr) (x0 c0 : Nat) (s0 : List Int) (l0 : FL) (y0 : s0.length ≤ x0) (z0 : x0 ≤ maxLen) (k0 : l0.length ≤ c0) (m0 : c0 ≤ maxLen) (w0 : Ints w 0 w.heap.size H0 s0 ∧ Facts w 0 w.heap.size A0 l0) (H1 A1 : Option Addr) (x1 c1 : Nat) (s1 l1 : List Int) (y1 : s1.length ≤ x1) (z1 : x1 ≤ maxLen) (k1 : l1.length ≤ c1) (m1 : c1 ≤ maxLen) (w1 : Ints w 0 w.heap.size H1 s1 ∧ Ints w 0 w.heap.size A1 l1) :
    Calls Try.prog 4 #[.agg #[.slice H0 s0.length x0, .slice A0 l0.length c0], .agg #[.slice H1 s1.length x1, .slice A1 l1.length c1]] w fun e w' => e = .returned (.bool true) ∧ Below w.heap.size w w' := by
  unfold maxLen at z0 m0 z1 m1
  have hn := szF_nonneg l0
  have EQ := Lib.hid (show szQ s0 l0 = (s0.length : Int) + szF l0 from rfl)
  have EB := Lib.hid (show szB s1 l1 = (s1.length : Int) + (l1.length : Int) from rfl)
  have hnq : 0 ≤ szQ s0 l0 := by rw [EQ.out]; omega
  have hnb : 0 ≤ szB s1 l1 := by rw [EB.out]; omega
  by_cases hb0 : 1048576 - szQ s0 l0 < 0
  · have I0 := Lib.hid (show RI w H0 s0 from w0.1)
    have F0 := Lib.hid (show RF w A0 l0 from w0.2)
    have I1 := Lib.hid (show RI w H1 s1 from w1.1)
    have J1 := Lib.hid (show RI w A1 l1 from w1.2)
    have W0 := Lib.hid w0
    have W1 := Lib.hid w1
    clear w0 w1
    go_enter Try.func4, Try.ntmps4
    go_wp2_with fail
    refine (szQuery_any H0 A0 x0 c0 s0 l0 1048576 (by omega) (by omega) (by omega) (by omega) _ (by first | exact F0.out | exact F0.out.step (below_drew _) | exact F0.out.step (below_alloc _ _) | exact F0.out.step (step (below_alloc _ _) (below_alloc _ _)))).mono ?_
    rintro e u1 ⟨he, d1⟩
    rw [szR_neg hb0] at he
    subst he
    have X0 := Lib.hid (Box.of_new2 d1).1
    have X1 := Lib.hid (Box.of_new2 d1).2
    have b1 : Below w.heap.size w u1 := by first | exact d1 | exact und d1 | exact undN d1 | exact below_new d1 | exact und (below_new d1) | exact below_new (und d1) | exact below_new (below_new d1) | exact step (below_drew _) (und (below_new d1))
    have I0' := Lib.hid (I0.out.step b1)
    clear I0
    have I0 := I0'
    clear I0'
    have F0' := Lib.hid (F0.out.step b1)
    clear F0
    have F0 := F0'
    clear F0'
    have I1' := Lib.hid (I1.out.step b1)
    clear I1
    have I1 := I1'
    clear I1'
    have J1' := Lib.hid (J1.out.step b1)
    clear J1
    have J1 := J1'
    clear J1'
    have T1 := b1
    have Z1 := b1.size
    have ga0 := X0.out.cell 0
    have ga1 := X0.out.cell 1
    simp only [List.getElem?_toArray, List.getElem?_cons_zero, List.getElem?_cons_succ] at ga0 ga1
    have gan := X0.out.lt
    have gb0 := X1.out.cell 0
    have gb1 := X1.out.cell 1
    simp only [List.getElem?_toArray, List.getElem?_cons_zero, List.getElem?_cons_succ] at gb0 gb1
    have gbn := X1.out.lt
    go_wp2
    go_ret
    exact ⟨rfl, T1⟩
  · skip
    by_cases hb1 : (1048576 - szQ s0 l0) - szB s1 l1 < 0
    · have I0 := Lib.hid (show RI w H0 s0 from w0.1)
      have F0 := Lib.hid (show RF w A0 l0 from w0.2)
      have I1 := Lib.hid (show RI w H1 s1 from w1.1)
      have J1 := Lib.hid (show RI w A1 l1 from w1.2)
      have W0 := Lib.hid w0
      have W1 := Lib.hid w1
      clear w0 w1
      go_enter Try.func4, Try.ntmps4
      go_wp2_with fail
      refine (szQuery_any H0 A0 x0 c0 s0 l0 1048576 (by omega) (by omega) (by omega) (by omega) _ (by first | exact F0.out | exact F0.out.step (below_drew _) | exact F0.out.step (below_alloc _ _) | exact F0.out.step (step (below_alloc _ _) (below_alloc _ _)))).mono ?_
      rintro e u1 ⟨he, d1⟩
      rw [szR_pos (show ¬ (1048576 - szQ s0 l0 < 0) by omega)] at he
      subst he
      have X0 := Lib.hid (Box.of_new2 d1).1
      have X1 := Lib.hid (Box.of_new2 d1).2
      have b1 : Below w.heap.size w u1 := by first | exact d1 | exact und d1 | exact undN d1 | exact below_new d1 | exact und (below_new d1) | exact below_new (und d1) | exact below_new (below_new d1) | exact step (below_drew _) (und (below_new d1))
      have I0' := Lib.hid (I0.out.step b1)
      clear I0
      have I0 := I0'
      clear I0'
      have F0' := Lib.hid (F0.out.step b1)
      clear F0
      have F0 := F0'
      clear F0'
      have I1' := Lib.hid (I1.out.step b1)
      clear I1
      have I1 := I1'
      clear I1'
      have J1' := Lib.hid (J1.out.step b1)
      clear J1
      have J1 := J1'
      clear J1'
      have T1 := b1
      have Z1 := b1.size
      have ga0 := X0.out.cell 0
      have ga1 := X0.out.cell 1
      simp only [List.getElem?_toArray, List.getElem?_cons_zero, List.getElem?_cons_succ] at ga0 ga1
      have gan := X0.out.lt
      have gb0 := X1.out.cell 0
      have gb1 := X1.out.cell 1
      simp only [List.getElem?_toArray, List.getElem?_cons_zero, List.getElem?_cons_succ] at gb0 gb1
      have gbn := X1.out.lt
      go_wp2_with fail
      refine (szBinding_any H1 A1 x1 c1 s1 l1 (1048576 - szQ s0 l0) (by omega) (by omega) (by omega) (by omega) _).mono ?_
      rintro e u2 ⟨he, d2⟩
      rw [szR_neg hb1] at he
      subst he
      have b2 : Below u1.heap.size u1 u2 := by first | exact d2 | exact und d2 | exact undN d2 | exact below_new d2 | exact und (below_new d2) | exact below_new (und d2) | exact below_new (below_new d2) | exact step (below_drew _) (und (below_new d2))
      have I0' := Lib.hid (I0.out.step b2)
      clear I0
      have I0 := I0'
      clear I0'
      have F0' := Lib.hid (F0.out.step b2)
      clear F0
      have F0 := F0'
      clear F0'
      have I1' := Lib.hid (I1.out.step b2)
      clear I1
      have I1 := I1'
      clear I1'
      have J1' := Lib.hid (J1.out.step b2)
      clear J1
      have J1 := J1'
      clear J1'
      have X0' := Lib.hid (X0.out.step b2)
      clear X0
      have X0 := X0'
      clear X0'
      have X1' := Lib.hid (X1.out.step b2)
      clear X1
      have X1 := X1'
      clear X1'
      have T2 := step T1 b2
      have Z2 := b2.size
      have gc0 := X0.out.cell 0
      have gc1 := X0.out.cell 1
      simp only [List.getElem?_toArray, List.getElem?_cons_zero, List.getElem?_cons_succ] at gc0 gc1
      have gcn := X0.out.lt
      have gd0 := X1.out.cell 0
      have gd1 := X1.out.cell 1
      simp only [List.getElem?_toArray, List.getElem?_cons_zero, List.getElem?_cons_succ] at gd0 gd1
      have gdn := X1.out.lt
      go_wp2
      go_ret
      exact ⟨rfl, T2⟩
    · skip
      have hz : szQ s0 l0 ≤ 1048576 := by omega
      have hzb : szB s1 l1 ≤ 1048576 := by omega
      have hz0 : szF l0 ≤ 1048576 := by rw [EQ.out] at hz; omega
      have hl0 : s0.length ≤ 1048576 := by rw [EQ.out] at hz; omega
      have hs1 : s1.length ≤ 1048576 := by rw [EB.out] at hzb; omega
      have hl1 : l1.length ≤ 1048576 := by rw [EB.out] at hzb; omega
      have hv : (tupV s1 l1 s0).length ≤ 1048576 := by rw [tupV_len]; exact hl0
      have CS := Lib.hid fun (H Q U V : Option Addr) (ch c cu cv : Nat) (w : World) (h : RI w H s0) (h1 : RI w U s1) (h2 : RI w V l1) => (spec_TupleOf H Q U V ch c cu cv s0 l0 s1 l1 hl0 hs1 hl1 w h h1 h2).mono fun _ _ h => h.toG
      have CI := Lib.hid fun (H Q U V : Option Addr) (ch c cu cv : Nat) (w : World) (h : RI w H s0) (h1 : RI w U s1) (h2 : RI w V l1) => (impl_TupleOf H Q U V ch c cu cv s0 l0 s1 l1 hl0 hs1 hl1 w h h1 h2).mono fun _ _ h => h.toG
      generalize tupV s1 l1 s0 = vs at CS CI hv
      have hv2 : (vs.length : Int) ≤ 1048576 := by omega
      have hq2 : 0 ≤ 1048576 - szQ s0 l0 := by omega
      have hq3 : 0 ≤ (1048576 - szQ s0 l0) - szB s1 l1 := by omega
      have I0 := Lib.hid (show RI w H0 s0 from w0.1)
      have F0 := Lib.hid (show RF w A0 l0 from w0.2)
      have I1 := Lib.hid (show RI w H1 s1 from w1.1)
      have J1 := Lib.hid (show RI w A1 l1 from w1.2)
      have W0 := Lib.hid w0
      have W1 := Lib.hid w1
      clear w0 w1
      go_enter Try.func4, Try.ntmps4
      go_wp2_with fail
      refine (szQuery_any H0 A0 x0 c0 s0 l0 1048576 (by omega) (by omega) (by omega) (by omega) _ (by first | exact F0.out | exact F0.out.step (below_drew _) | exact F0.out.step (below_alloc _ _) | exact F0.out.step (step (below_alloc _ _) (below_alloc _ _)))).mono ?_
      rintro e u1 ⟨he, d1⟩
      rw [szR_pos (show ¬ (1048576 - szQ s0 l0 < 0) by omega)] at he
      subst he
      have X0 := Lib.hid (Box.of_new2 d1).1
      have X1 := Lib.hid (Box.of_new2 d1).2
      have b1 : Below w.heap.size w u1 := by first | exact d1 | exact und d1 | exact undN d1 | exact below_new d1 | exact und (below_new d1) | exact below_new (und d1) | exact below_new (below_new d1) | exact step (below_drew _) (und (below_new d1))
      have I0' := Lib.hid (I0.out.step b1)
      clear I0
      have I0 := I0'
      clear I0'
      have F0' := Lib.hid (F0.out.step b1)
      clear F0
      have F0 := F0'
      clear F0'
      have I1' := Lib.hid (I1.out.step b1)
      clear I1
      have I1 := I1'
      clear I1'
      have J1' := Lib.hid (J1.out.step b1)
      clear J1
      have J1 := J1'
      clear J1'
      have T1 := b1
      have Z1 := b1.size
      have ga0 := X0.out.cell 0
      have ga1 := X0.out.cell 1
      simp only [List.getElem?_toArray, List.getElem?_cons_zero, List.getElem?_cons_succ] at ga0 ga1
      have gan := X0.out.lt
      have gb0 := X1.out.cell 0
      have gb1 := X1.out.cell 1
      simp only [List.getElem?_toArray, List.getElem?_cons_zero, List.getElem?_cons_succ] at gb0 gb1
      have gbn := X1.out.lt
      go_wp2_with fail
      refine (szBinding_any H1 A1 x1 c1 s1 l1 (1048576 - szQ s0 l0) (by omega) (by omega) (by omega) (by omega) _).mono ?_
      rintro e u2 ⟨he, d2⟩
      rw [szR_pos (show ¬ ((1048576 - szQ s0 l0) - szB s1 l1 < 0) by omega)] at he
      subst he
      have b2 : Below u1.heap.size u1 u2 := by first | exact d2 | exact und d2 | exact undN d2 | exact below_new d2 | exact und (below_new d2) | exact below_new (und d2) | exact below_new (below_new d2) | exact step (below_drew _) (und (below_new d2))
      have I0' := Lib.hid (I0.out.step b2)
      clear I0
      have I0 := I0'
      clear I0'
      have F0' := Lib.hid (F0.out.step b2)
      clear F0
      have F0 := F0'
      clear F0'
      have I1' := Lib.hid (I1.out.step b2)
      clear I1
      have I1 := I1'
      clear I1'
      have J1' := Lib.hid (J1.out.step b2)
      clear J1
      have J1 := J1'
      clear J1'
      have X0' := Lib.hid (X0.out.step b2)
      clear X0
      have X0 := X0'
      clear X0'
      have X1' := Lib.hid (X1.out.step b2)
      clear X1
      have X1 := X1'
      clear X1'
      have T2 := step T1 b2
      have Z2 := b2.size
      have gc0 := X0.out.cell 0
      have gc1 := X0.out.cell 1
      simp only [List.getElem?_toArray, List.getElem?_cons_zero, List.getElem?_cons_succ] at gc0 gc1
      have gcn := X0.out.lt
      have gd0 := X1.out.cell 0
      have gd1 := X1.out.cell 1
      simp only [List.getElem?_toArray, List.getElem?_cons_zero, List.getElem?_cons_succ] at gd0 gd1
      have gdn := X1.out.lt
      have tok3 : True := trivial
      have tok4 : True := trivial
      have tok5 : True := trivial
      go_wp2_with fail
      go_region_held3 (fun w' => w'.cell? ⟨w.heap.size, 0, none⟩ = some (.slice H0 s0.length x0) ∧ w'.cell? ⟨w.heap.size, 1, none⟩ = some (.slice A0 l0.length c0) ∧ w'.cell? ⟨w.heap.size + 1, 0, none⟩ = some (.slice H1 s1.length x1) ∧ w'.cell? ⟨w.heap.size + 1, 1, none⟩ = some (.slice A1 l1.length c1))
        (first
          | go_keep
          | (go_split_ands; refine ⟨?_, ?_, ?_, ?_⟩ <;> (rw [d3.cell (by (try simp) <;> omega)]; assumption))
          | (go_split_ands; refine ⟨?_, ?_, ?_, ?_⟩ <;> (rw [d4.cell (by (try simp) <;> omega)]; assumption))
          | (go_split_ands; refine ⟨?_, ?_, ?_, ?_⟩ <;> (rw [d5.cell (by (try simp) <;> omega)]; assumption)))
        (first
          | (go_at_call 12
             clear tok3
             refine (toQuery_r H0 A0 x0 c0 s0 l0 hl0 hz0 _ (by first | exact I0.out | exact I0.out.step (below_drew _) | exact I0.out.step (below_alloc _ _) | exact I0.out.step (step (below_alloc _ _) (below_alloc _ _))) (by first | exact F0.out | exact F0.out.step (below_drew _) | exact F0.out.step (below_alloc _ _) | exact F0.out.step (step (below_alloc _ _) (below_alloc _ _)))).mono ?_
             rintro e u3 ⟨rfl, r3, d3, z3⟩
             have b3 : Below u2.heap.size u2 u3 := by first | exact d3 | exact und d3 | exact undN d3 | exact below_new d3 | exact und (below_new d3) | exact below_new (und d3) | exact below_new (below_new d3) | exact step (below_drew _) (und (below_new d3))
             have I0' := Lib.hid (I0.out.step b3)
             clear I0
             have I0 := I0'
             clear I0'
             have F0' := Lib.hid (F0.out.step b3)
             clear F0
             have F0 := F0'
             clear F0'
             have I1' := Lib.hid (I1.out.step b3)
             clear I1
             have I1 := I1'
             clear I1'
             have J1' := Lib.hid (J1.out.step b3)
             clear J1
             have J1 := J1'
             clear J1'
             have X0' := Lib.hid (X0.out.step b3)
             clear X0
             have X0 := X0'
             clear X0'
             have X1' := Lib.hid (X1.out.step b3)
             clear X1
             have X1 := X1'
             clear X1'
             have T3 := step T2 b3
             have Z3 := b3.size
             try rw [al_size] at r3
             have Q3 := Lib.hid r3
             clear r3 z3)
          | (go_at_call 24
             clear tok4
             refine (toBinding_r H1 A1 x1 c1 s1 l1 hs1 hl1 _ (by first | exact I1.out | exact I1.out.step (below_drew _) | exact I1.out.step (below_alloc _ _) | exact I1.out.step (step (below_alloc _ _) (below_alloc _ _))) (by first | exact J1.out | exact J1.out.step (below_drew _) | exact J1.out.step (below_alloc _ _) | exact J1.out.step (step (below_alloc _ _) (below_alloc _ _)))).mono ?_
             rintro e u4 ⟨rfl, r4, d4, z4⟩
             have b4 : Below u3.heap.size u3 u4 := by first | exact d4 | exact und d4 | exact undN d4 | exact below_new d4 | exact und (below_new d4) | exact below_new (und d4) | exact below_new (below_new d4) | exact step (below_drew _) (und (below_new d4))
             have I0' := Lib.hid (I0.out.step b4)
             clear I0
             have I0 := I0'
             clear I0'
             have F0' := Lib.hid (F0.out.step b4)
             clear F0
             have F0 := F0'
             clear F0'
             have I1' := Lib.hid (I1.out.step b4)
             clear I1
             have I1 := I1'
             clear I1'
             have J1' := Lib.hid (J1.out.step b4)
             clear J1
             have J1 := J1'
             clear J1'
             have X0' := Lib.hid (X0.out.step b4)
             clear X0
             have X0 := X0'
             clear X0'
             have X1' := Lib.hid (X1.out.step b4)
             clear X1
             have X1 := X1'
             clear X1'
             have Q3' := Lib.hid (Q3.out.step b4)
             clear Q3
             have Q3 := Q3'
             clear Q3'
             have T4 := step T3 b4
             have Z4 := b4.size
             try rw [al_size] at r4
             have Q4 := Lib.hid r4
             clear r4 z4)
          | (go_at_call 23
             clear tok5
             refine (CS.out _ _ _ _ _ _ _ _ _ (by first | exact Q3.out.ri | exact (Q3.out.step (below_drew _)).ri | exact (Q3.out.step (below_alloc _ _)).ri) (by first | exact Q4.out.ri | exact (Q4.out.step (below_drew _)).ri | exact (Q4.out.step (below_alloc _ _)).ri) (by first | exact Q4.out.rv | exact (Q4.out.step (below_drew _)).rv | exact (Q4.out.step (below_alloc _ _)).rv)).mono ?_
             rintro e u5 ⟨A5, c5, rfl, r5, d5⟩
             have b5 : Below u4.heap.size u4 u5 := by first | exact d5 | exact und d5 | exact undN d5 | exact below_new d5 | exact und (below_new d5) | exact below_new (und d5) | exact below_new (below_new d5) | exact step (below_drew _) (und (below_new d5))
             have I0' := Lib.hid (I0.out.step b5)
             clear I0
             have I0 := I0'
             clear I0'
             have F0' := Lib.hid (F0.out.step b5)
             clear F0
             have F0 := F0'
             clear F0'
             have I1' := Lib.hid (I1.out.step b5)
             clear I1
             have I1 := I1'
             clear I1'
             have J1' := Lib.hid (J1.out.step b5)
             clear J1
             have J1 := J1'
             clear J1'
             have X0' := Lib.hid (X0.out.step b5)
             clear X0
             have X0 := X0'
             clear X0'
             have X1' := Lib.hid (X1.out.step b5)
             clear X1
             have X1 := X1'
             clear X1'
             have Q3' := Lib.hid (Q3.out.step b5)
             clear Q3
             have Q3 := Q3'
             clear Q3'
             have Q4' := Lib.hid (Q4.out.step b5)
             clear Q4
             have Q4 := Q4'
             clear Q4'
             have T5 := step T4 b5
             have Z5 := b5.size
             have G5 := Lib.hid r5
             clear r5))
      have ha0 := X0.out.cell 0
      have ha1 := X0.out.cell 1
      simp only [List.getElem?_toArray, List.getElem?_cons_zero, List.getElem?_cons_succ] at ha0 ha1
      have han := X0.out.lt
      have hb0 := X1.out.cell 0
      have hb1 := X1.out.cell 1
      simp only [List.getElem?_toArray, List.getElem?_cons_zero, List.getElem?_cons_succ] at hb0 hb1
      have hbn := X1.out.lt
      go_wp2_with fail
      refine (toQuery_r H0 A0 x0 c0 s0 l0 hl0 hz0 _ (by first | exact I0.out | exact I0.out.step (below_drew _) | exact I0.out.step (below_alloc _ _) | exact I0.out.step (step (below_alloc _ _) (below_alloc _ _))) (by first | exact F0.out | exact F0.out.step (below_drew _) | exact F0.out.step (below_alloc _ _) | exact F0.out.step (step (below_alloc _ _) (below_alloc _ _)))).mono ?_
      rintro e u6 ⟨rfl, r6, d6, z6⟩
      have b6 : Below u5.heap.size u5 u6 := by first | exact d6 | exact und d6 | exact undN d6 | exact below_new d6 | exact und (below_new d6) | exact below_new (und d6) | exact below_new (below_new d6) | exact step (below_drew _) (und (below_new d6))
      have I0' := Lib.hid (I0.out.step b6)
      clear I0
      have I0 := I0'
      clear I0'
      have F0' := Lib.hid (F0.out.step b6)
      clear F0
      have F0 := F0'
      clear F0'
      have I1' := Lib.hid (I1.out.step b6)
      clear I1
      have I1 := I1'
      clear I1'
      have J1' := Lib.hid (J1.out.step b6)
      clear J1
      have J1 := J1'
      clear J1'
      have X0' := Lib.hid (X0.out.step b6)
      clear X0
      have X0 := X0'
      clear X0'
      have X1' := Lib.hid (X1.out.step b6)
      clear X1
      have X1 := X1'
      clear X1'
      have G5' := Lib.hid (G5.out.step b6)
      clear G5
      have G5 := G5'
      clear G5'
      have T6 := step T5 b6
      have Z6 := b6.size
      try rw [al_size] at r6
      have Q6 := Lib.hid r6
      have y6 := z6
      clear r6 z6
      have hc0 := X1.out.cell 0
      have hc1 := X1.out.cell 1
      simp only [List.getElem?_toArray, List.getElem?_cons_zero, List.getElem?_cons_succ] at hc0 hc1
      have hcn := X1.out.lt
      go_wp2_with fail
      refine (toBinding_r H1 A1 x1 c1 s1 l1 hs1 hl1 _ (by first | exact I1.out | exact I1.out.step (below_drew _) | exact I1.out.step (below_alloc _ _) | exact I1.out.step (step (below_alloc _ _) (below_alloc _ _))) (by first | exact J1.out | exact J1.out.step (below_drew _) | exact J1.out.step (below_alloc _ _) | exact J1.out.step (step (below_alloc _ _) (below_alloc _ _)))).mono ?_
      rintro e u7 ⟨rfl, r7, d7, z7⟩
      have Y0 := Lib.hid (Box.of_new d7)
      have b7 : Below u6.heap.size u6 u7 := by first | exact d7 | exact und d7 | exact undN d7 | exact below_new d7 | exact und (below_new d7) | exact below_new (und d7) | exact below_new (below_new d7) | exact step (below_drew _) (und (below_new d7))
      have I0' := Lib.hid (I0.out.step b7)
      clear I0
      have I0 := I0'
      clear I0'
      have F0' := Lib.hid (F0.out.step b7)
      clear F0
      have F0 := F0'
      clear F0'
      have I1' := Lib.hid (I1.out.step b7)
      clear I1
      have I1 := I1'
      clear I1'
      have J1' := Lib.hid (J1.out.step b7)
      clear J1
      have J1 := J1'
      clear J1'
      have X0' := Lib.hid (X0.out.step b7)
      clear X0
      have X0 := X0'
      clear X0'
      have X1' := Lib.hid (X1.out.step b7)
      clear X1
      have X1 := X1'
      clear X1'
      have G5' := Lib.hid (G5.out.step b7)
      clear G5
      have G5 := G5'
      clear G5'
      have Q6' := Lib.hid (Q6.out.step b7)
      clear Q6
      have Q6 := Q6'
      clear Q6'
      have T7 := step T6 b7
      have Z7 := b7.size
      rw [al_size] at r7
      have Q7 := Lib.hid r7
      have y7 : u6.heap.size + 5 < u7.heap.size := by have := z7; rw [al_size] at this; omega
      clear r7 z7
      have hd0 := Y0.out.cell 0
      have hd1 := Y0.out.cell 1
      simp only [List.getElem?_toArray, List.getElem?_cons_zero, List.getElem?_cons_succ] at hd0 hd1
      have hdn := Y0.out.lt
      go_wp2_with fail
      refine (CI.out _ _ _ _ _ _ _ _ _ (by first | exact Q6.out.ri | exact (Q6.out.step (below_drew _)).ri | exact (Q6.out.step (below_alloc _ _)).ri) (by first | exact Q7.out.ri | exact (Q7.out.step (below_drew _)).ri | exact (Q7.out.step (below_alloc _ _)).ri) (by first | exact Q7.out.rv | exact (Q7.out.step (below_drew _)).rv | exact (Q7.out.step (below_alloc _ _)).rv)).mono ?_
      rintro e u8 ⟨A8, c8, rfl, r8, d8⟩
      have Y1 := Lib.hid (Box.of_new d8)
      have b8 : Below u7.heap.size u7 u8 := by first | exact d8 | exact und d8 | exact undN d8 | exact below_new d8 | exact und (below_new d8) | exact below_new (und d8) | exact below_new (below_new d8) | exact step (below_drew _) (und (below_new d8))
      have I0' := Lib.hid (I0.out.step b8)
      clear I0
      have I0 := I0'
      clear I0'
      have F0' := Lib.hid (F0.out.step b8)
      clear F0
      have F0 := F0'
      clear F0'
      have I1' := Lib.hid (I1.out.step b8)
      clear I1
      have I1 := I1'
      clear I1'
      have J1' := Lib.hid (J1.out.step b8)
      clear J1
      have J1 := J1'
      clear J1'
      have X0' := Lib.hid (X0.out.step b8)
      clear X0
      have X0 := X0'
      clear X0'
      have X1' := Lib.hid (X1.out.step b8)
      clear X1
      have X1 := X1'
      clear X1'
      have G5' := Lib.hid (G5.out.step b8)
      clear G5
      have G5 := G5'
      clear G5'
      have Q6' := Lib.hid (Q6.out.step b8)
      clear Q6
      have Q6 := Q6'
      clear Q6'
      have Q7' := Lib.hid (Q7.out.step b8)
      clear Q7
      have Q7 := Q7'
      clear Q7'
      have Y0' := Lib.hid (Y0.out.step b8)
      clear Y0
      have Y0 := Y0'
      clear Y0'
      have T8 := step T7 b8
      have Z8 := b8.size
      rw [al_size] at r8
      have G8 := Lib.hid r8
      clear r8
      go_wp2_with fail
      refine (eqIntS_r _ _ _ _ vs hv _ (by first | exact G8.out.ri | exact (G8.out.step (below_drew _)).ri | exact (G8.out.step (below_alloc _ _)).ri) (by first | exact G5.out.ri | exact (G5.out.step (below_drew _)).ri | exact (G5.out.step (below_alloc _ _)).ri)).mono ?_
      rintro e u9 ⟨rfl, d9⟩
      have b9 : Below u8.heap.size u8 u9 := by first | exact d9 | exact und d9 | exact undN d9 | exact below_new d9 | exact und (below_new d9) | exact below_new (und d9) | exact below_new (below_new d9) | exact step (below_drew _) (und (below_new d9))
      have I0' := Lib.hid (I0.out.step b9)
      clear I0
      have I0 := I0'
      clear I0'
      have F0' := Lib.hid (F0.out.step b9)
      clear F0
      have F0 := F0'
      clear F0'
      have I1' := Lib.hid (I1.out.step b9)
      clear I1
      have I1 := I1'
      clear I1'
      have J1' := Lib.hid (J1.out.step b9)
      clear J1
      have J1 := J1'
      clear J1'
      have X0' := Lib.hid (X0.out.step b9)
      clear X0
      have X0 := X0'
      clear X0'
      have X1' := Lib.hid (X1.out.step b9)
      clear X1
      have X1 := X1'
      clear X1'
      have G5' := Lib.hid (G5.out.step b9)
      clear G5
      have G5 := G5'
      clear G5'
      have Q6' := Lib.hid (Q6.out.step b9)
      clear Q6
      have Q6 := Q6'
      clear Q6'
      have Q7' := Lib.hid (Q7.out.step b9)
      clear Q7
      have Q7 := Q7'
      clear Q7'
      have Y0' := Lib.hid (Y0.out.step b9)
      clear Y0
      have Y0 := Y0'
      clear Y0'
      have G8' := Lib.hid (G8.out.step b9)
      clear G8
      have G8 := G8'
      clear G8'
      have Y1' := Lib.hid (Y1.out.step b9)
      clear Y1
      have Y1 := Y1'
      clear Y1'
      have T9 := step T8 b9
      have Z9 := b9.size
      have ia0 := X0.out.cell 0
      have ia1 := X0.out.cell 1
      simp only [List.getElem?_toArray, List.getElem?_cons_zero, List.getElem?_cons_succ] at ia0 ia1
      have ian := X0.out.lt
      have ib0 := Y0.out.cell 0
      have ib1 := Y0.out.cell 1
      simp only [List.getElem?_toArray, List.getElem?_cons_zero, List.getElem?_cons_succ] at ib0 ib1
      have ibn := Y0.out.lt
      have tok10 : True := trivial
      have tok11 : True := trivial
      go_wp2_with fail
      go_region_held3 (fun w' => w'.cell? ⟨w.heap.size, 0, none⟩ = some (.slice H0 s0.length x0) ∧ w'.cell? ⟨w.heap.size, 1, none⟩ = some (.slice A0 l0.length c0) ∧ w'.cell? ⟨u6.heap.size, 0, none⟩ = some (.slice (some ⟨u5.heap.size + 3, 0, none⟩) s0.length s0.length) ∧ w'.cell? ⟨u6.heap.size, 1, none⟩ = some (.slice (some ⟨u5.heap.size + 3 + 1, 0, none⟩) l0.length l0.length))
        (first
          | go_keep
          | (go_split_ands; refine ⟨?_, ?_, ?_, ?_⟩ <;> (rw [d10.cell (by (try simp) <;> omega)]; assumption))
          | (go_split_ands; refine ⟨?_, ?_, ?_, ?_⟩ <;> (rw [d11.cell (by (try simp) <;> omega)]; assumption)))
        (first
          | (go_at_call 12
             clear tok10
             refine (toQuery_r H0 A0 x0 c0 s0 l0 hl0 hz0 _ (by first | exact I0.out | exact I0.out.step (below_drew _) | exact I0.out.step (below_alloc _ _) | exact I0.out.step (step (below_alloc _ _) (below_alloc _ _))) (by first | exact F0.out | exact F0.out.step (below_drew _) | exact F0.out.step (below_alloc _ _) | exact F0.out.step (step (below_alloc _ _) (below_alloc _ _)))).mono ?_
             rintro e u10 ⟨rfl, r10, d10, z10⟩
             have b10 : Below u9.heap.size u9 u10 := by first | exact d10 | exact und d10 | exact undN d10 | exact below_new d10 | exact und (below_new d10) | exact below_new (und d10) | exact below_new (below_new d10) | exact step (below_drew _) (und (below_new d10))
             have I0' := Lib.hid (I0.out.step b10)
             clear I0
             have I0 := I0'
             clear I0'
             have F0' := Lib.hid (F0.out.step b10)
             clear F0
             have F0 := F0'
             clear F0'
             have I1' := Lib.hid (I1.out.step b10)
             clear I1
             have I1 := I1'
             clear I1'
             have J1' := Lib.hid (J1.out.step b10)
             clear J1
             have J1 := J1'
             clear J1'
             have X0' := Lib.hid (X0.out.step b10)
             clear X0
             have X0 := X0'
             clear X0'
             have X1' := Lib.hid (X1.out.step b10)
             clear X1
             have X1 := X1'
             clear X1'
             have G5' := Lib.hid (G5.out.step b10)
             clear G5
             have G5 := G5'
             clear G5'
             have Q6' := Lib.hid (Q6.out.step b10)
             clear Q6
             have Q6 := Q6'
             clear Q6'
             have Q7' := Lib.hid (Q7.out.step b10)
             clear Q7
             have Q7 := Q7'
             clear Q7'
             have Y0' := Lib.hid (Y0.out.step b10)
             clear Y0
             have Y0 := Y0'
             clear Y0'
             have G8' := Lib.hid (G8.out.step b10)
             clear G8
             have G8 := G8'
             clear G8'
             have Y1' := Lib.hid (Y1.out.step b10)
             clear Y1
             have Y1 := Y1'
             clear Y1'
             have T10 := step T9 b10
             have Z10 := b10.size
             try rw [al_size] at r10
             have Q10 := Lib.hid r10
             clear r10 z10)
          | (go_at_call 16
             clear tok11
             refine (eqQuery_b _ _ _ _ _ _ _ _ s0 l0 hl0 (by omega) _ (by first | exact Q6.out.ri | exact (Q6.out.step (below_drew _)).ri | exact (Q6.out.step (below_alloc _ _)).ri) (by first | exact Q6.out.rf | exact (Q6.out.step (below_drew _)).rf | exact (Q6.out.step (below_alloc _ _)).rf) (by first | exact Q10.out.ri | exact (Q10.out.step (below_drew _)).ri | exact (Q10.out.step (below_alloc _ _)).ri) (by first | exact Q10.out.rf | exact (Q10.out.step (below_drew _)).rf | exact (Q10.out.step (below_alloc _ _)).rf)).mono ?_
             rintro e u11 ⟨rfl, d11⟩
             have b11 : Below u10.heap.size u10 u11 := by first | exact d11 | exact und d11 | exact undN d11 | exact below_new d11 | exact und (below_new d11) | exact below_new (und d11) | exact below_new (below_new d11) | exact step (below_drew _) (und (below_new d11))
             have I0' := Lib.hid (I0.out.step b11)
             clear I0
             have I0 := I0'
             clear I0'
             have F0' := Lib.hid (F0.out.step b11)
             clear F0
             have F0 := F0'
             clear F0'
             have I1' := Lib.hid (I1.out.step b11)
             clear I1
             have I1 := I1'
             clear I1'
             have J1' := Lib.hid (J1.out.step b11)
             clear J1
             have J1 := J1'
             clear J1'
             have X0' := Lib.hid (X0.out.step b11)
             clear X0
             have X0 := X0'
             clear X0'
             have X1' := Lib.hid (X1.out.step b11)
             clear X1
             have X1 := X1'
             clear X1'
             have G5' := Lib.hid (G5.out.step b11)
             clear G5
             have G5 := G5'
             clear G5'
             have Q6' := Lib.hid (Q6.out.step b11)
             clear Q6
             have Q6 := Q6'
             clear Q6'
             have Q7' := Lib.hid (Q7.out.step b11)
             clear Q7
             have Q7 := Q7'
             clear Q7'
             have Y0' := Lib.hid (Y0.out.step b11)
             clear Y0
             have Y0 := Y0'
             clear Y0'
             have G8' := Lib.hid (G8.out.step b11)
             clear G8
             have G8 := G8'
             clear G8'
             have Y1' := Lib.hid (Y1.out.step b11)
             clear Y1
             have Y1 := Y1'
             clear Y1'
             have Q10' := Lib.hid (Q10.out.step b11)
             clear Q10
             have Q10 := Q10'
             clear Q10'
             have T11 := step T10 b11
             have Z11 := b11.size))
      have ic0 := X1.out.cell 0
      have ic1 := X1.out.cell 1
      simp only [List.getElem?_toArray, List.getElem?_cons_zero, List.getElem?_cons_succ] at ic0 ic1
      have icn := X1.out.lt
      have id0 := Y1.out.cell 0
      have id1 := Y1.out.cell 1
      simp only [List.getElem?_toArray, List.getElem?_cons_zero, List.getElem?_cons_succ] at id0 id1
      have idn := Y1.out.lt
      have tok12 : True := trivial
      have tok13 : True := trivial
      go_wp2_with fail
      go_region_held3 (fun w' => w'.cell? ⟨w.heap.size + 1, 0, none⟩ = some (.slice H1 s1.length x1) ∧ w'.cell? ⟨w.heap.size + 1, 1, none⟩ = some (.slice A1 l1.length c1) ∧ w'.cell? ⟨u7.heap.size, 0, none⟩ = some (.slice (some ⟨u6.heap.size + 1 + 3, 0, none⟩) s1.length s1.length) ∧ w'.cell? ⟨u7.heap.size, 1, none⟩ = some (.slice (some ⟨u6.heap.size + 1 + 3 + 1, 0, none⟩) l1.length l1.length))
        (first
          | go_keep
          | (go_split_ands; refine ⟨?_, ?_, ?_, ?_⟩ <;> (rw [d12.cell (by (try simp) <;> omega)]; assumption))
          | (go_split_ands; refine ⟨?_, ?_, ?_, ?_⟩ <;> (rw [d13.cell (by (try simp) <;> omega)]; assumption)))
        (first
          | (go_at_call 24
             clear tok12
             refine (toBinding_r H1 A1 x1 c1 s1 l1 hs1 hl1 _ (by first | exact I1.out | exact I1.out.step (below_drew _) | exact I1.out.step (below_alloc _ _) | exact I1.out.step (step (below_alloc _ _) (below_alloc _ _))) (by first | exact J1.out | exact J1.out.step (below_drew _) | exact J1.out.step (below_alloc _ _) | exact J1.out.step (step (below_alloc _ _) (below_alloc _ _)))).mono ?_
             rintro e u12 ⟨rfl, r12, d12, z12⟩
             have b12 : Below u11.heap.size u11 u12 := by first | exact d12 | exact und d12 | exact undN d12 | exact below_new d12 | exact und (below_new d12) | exact below_new (und d12) | exact below_new (below_new d12) | exact step (below_drew _) (und (below_new d12))
             have I0' := Lib.hid (I0.out.step b12)
             clear I0
             have I0 := I0'
             clear I0'
             have F0' := Lib.hid (F0.out.step b12)
             clear F0
             have F0 := F0'
             clear F0'
             have I1' := Lib.hid (I1.out.step b12)
             clear I1
             have I1 := I1'
             clear I1'
             have J1' := Lib.hid (J1.out.step b12)
             clear J1
             have J1 := J1'
             clear J1'
             have X0' := Lib.hid (X0.out.step b12)
             clear X0
             have X0 := X0'
             clear X0'
             have X1' := Lib.hid (X1.out.step b12)
             clear X1
             have X1 := X1'
             clear X1'
             have G5' := Lib.hid (G5.out.step b12)
             clear G5
             have G5 := G5'
             clear G5'
             have Q6' := Lib.hid (Q6.out.step b12)
             clear Q6
             have Q6 := Q6'
             clear Q6'
             have Q7' := Lib.hid (Q7.out.step b12)
             clear Q7
             have Q7 := Q7'
             clear Q7'
             have Y0' := Lib.hid (Y0.out.step b12)
             clear Y0
             have Y0 := Y0'
             clear Y0'
             have G8' := Lib.hid (G8.out.step b12)
             clear G8
             have G8 := G8'
             clear G8'
             have Y1' := Lib.hid (Y1.out.step b12)
             clear Y1
             have Y1 := Y1'
             clear Y1'
             have T12 := step T11 b12
             have Z12 := b12.size
             try rw [al_size] at r12
             have Q12 := Lib.hid r12
             clear r12 z12)
          | (go_at_call 15
             clear tok13
             refine (eqBinding_b _ _ _ _ _ _ _ _ s1 l1 hs1 hl1 _ (by first | exact Q7.out.ri | exact (Q7.out.step (below_drew _)).ri | exact (Q7.out.step (below_alloc _ _)).ri) (by first | exact Q7.out.rv | exact (Q7.out.step (below_drew _)).rv | exact (Q7.out.step (below_alloc _ _)).rv) (by first | exact Q12.out.ri | exact (Q12.out.step (below_drew _)).ri | exact (Q12.out.step (below_alloc _ _)).ri) (by first | exact Q12.out.rv | exact (Q12.out.step (below_drew _)).rv | exact (Q12.out.step (below_alloc _ _)).rv)).mono ?_
             rintro e u13 ⟨rfl, d13⟩
             have b13 : Below u12.heap.size u12 u13 := by first | exact d13 | exact und d13 | exact undN d13 | exact below_new d13 | exact und (below_new d13) | exact below_new (und d13) | exact below_new (below_new d13) | exact step (below_drew _) (und (below_new d13))
             have I0' := Lib.hid (I0.out.step b13)
             clear I0
             have I0 := I0'
             clear I0'
             have F0' := Lib.hid (F0.out.step b13)
             clear F0
             have F0 := F0'
             clear F0'
             have I1' := Lib.hid (I1.out.step b13)
             clear I1
             have I1 := I1'
             clear I1'
             have J1' := Lib.hid (J1.out.step b13)
             clear J1
             have J1 := J1'
             clear J1'
             have X0' := Lib.hid (X0.out.step b13)
             clear X0
             have X0 := X0'
             clear X0'
             have X1' := Lib.hid (X1.out.step b13)
             clear X1
             have X1 := X1'
             clear X1'
             have G5' := Lib.hid (G5.out.step b13)
             clear G5
             have G5 := G5'
             clear G5'
             have Q6' := Lib.hid (Q6.out.step b13)
             clear Q6
             have Q6 := Q6'
             clear Q6'
             have Q7' := Lib.hid (Q7.out.step b13)
             clear Q7
             have Q7 := Q7'
             clear Q7'
             have Y0' := Lib.hid (Y0.out.step b13)
             clear Y0
             have Y0 := Y0'
             clear Y0'
             have G8' := Lib.hid (G8.out.step b13)
             clear G8
             have G8 := G8'
             clear G8'
             have Y1' := Lib.hid (Y1.out.step b13)
             clear Y1
             have Y1 := Y1'
             clear Y1'
             have Q12' := Lib.hid (Q12.out.step b13)
             clear Q12
             have Q12 := Q12'
             clear Q12'
             have T13 := step T12 b13
             have Z13 := b13.size))
      have ja0 := Y0.out.cell 0
      have ja1 := Y0.out.cell 1
      simp only [List.getElem?_toArray, List.getElem?_cons_zero, List.getElem?_cons_succ] at ja0 ja1
      have jan := Y0.out.lt
      have jb0 := Y1.out.cell 0
      have jb1 := Y1.out.cell 1
      simp only [List.getElem?_toArray, List.getElem?_cons_zero, List.getElem?_cons_succ] at jb0 jb1
      have jbn := Y1.out.lt
      have q6 := Q6.out.lt
      have x1h := X1.out.lt
      have y1h := Y1.out.lt
      have g8h := G8.out.2
      have g5h := G5.out.2
      go_wp2_with fail
      refine (markQuery_o (u5.heap.size + 3) (u5.heap.size + 3 + 1) u6.heap.size _ _ _ _ s0 l0 1 (by omega) (by omega) hz _ (by first | exact Q6.out.qo hl0 | exact (Q6.out.step (below_drew _)).qo hl0)).mono ?_
      rintro e v1 ⟨rfl, M1, _⟩
      have sv1 : u13.heap.size ≤ v1.heap.size := M1.below.size
      have G5a := Lib.hid (G5.out.keep (w' := v1) (fun b _ h2 => M1.keep (.inl (by omega)) (by omega)) sv1)
      have G8a := Lib.hid (G8.out.keep (w' := v1) (fun b h1 h2 => M1.keep (.inr (by omega)) (by omega)) sv1)
      have Q7a := Lib.hid ((Q7.out.br hs1 hl1).keep (w' := v1) (fun b h1 h2 => M1.keep (.inr (by omega)) (by omega)) sv1)
      have Y1a := Lib.hid (show Box v1 u7.heap.size _ _ from (M1.keep (.inr (by omega)) Y1.out.lt).trans Y1.out)
      have X0a := Lib.hid (show Box v1 w.heap.size _ _ from (M1.keep (.inl (by omega)) X0.out.lt).trans X0.out)
      have X1a := Lib.hid (show Box v1 (w.heap.size + 1) _ _ from (M1.keep (.inl (by omega)) X1.out.lt).trans X1.out)
      have TA := Lib.hid (T13.trans (M1.below.mono (by omega)))
      clear M1 G5 G8 X0 X1 Q6 Q7 Y0 Y1 ja0 ja1 jb0 jb1
      have jc0 := Y1a.out.cell 0
      have jc1 := Y1a.out.cell 1
      simp only [List.getElem?_toArray, List.getElem?_cons_zero, List.getElem?_cons_succ] at jc0 jc1
      have hk1 : 0 ≤ 1 + szQ s0 l0 := by omega
      go_wp2_with fail
      refine (markBinding_o (u6.heap.size + 1 + 3) (u6.heap.size + 1 + 3 + 2) s1.length l1.length _ _ (s1, l1) (1 + szQ s0 l0) hs1 hl1 hk1 (by omega) _ Q7a.out).mono ?_
      rintro e v2 ⟨rfl, M2, _⟩
      have sv2 : v1.heap.size ≤ v2.heap.size := M2.size
      have G5b := Lib.hid (G5a.out.keep (w' := v2) (fun b _ h2 => M2.block b (.inl (by omega)) (by omega)) sv2)
      have G8b := Lib.hid (G8a.out.keep (w' := v2) (fun b h1 h2 => M2.block b (.inr (by omega)) (by omega)) sv2)
      have X0b := Lib.hid (show Box v2 w.heap.size _ _ from (M2.block _ (.inl (by omega)) X0a.out.lt).trans X0a.out)
      have X1b := Lib.hid (show Box v2 (w.heap.size + 1) _ _ from (M2.block _ (.inl (by omega)) X1a.out.lt).trans X1a.out)
      have TB := Lib.hid (TA.out.trans (M2.below.mono (by omega)))
      have hk2 : ¬ (1 + szQ s0 l0 + (s1.length : Int) + (l1.length : Int) < 0) := by omega
      have hk3 : 0 ≤ 1 + szQ s0 l0 + (s1.length : Int) + (l1.length : Int) := by omega
      clear M2 G5a G8a X0a X1a Q7a Y1a TA jc0 jc1
      go_wp2_with fail
      refine (eqIntS_r _ _ _ _ vs hv _ G8b.out.ri G5b.out.ri).mono ?_
      rintro e v3 ⟨rfl, D3⟩
      have sv3 := D3.size
      have G5c := Lib.hid (G5b.out.step D3)
      have G8c := Lib.hid (G8b.out.step D3)
      have X0c := Lib.hid (X0b.out.step D3)
      have X1c := Lib.hid (X1b.out.step D3)
      have TC := Lib.hid (step TB.out D3)
      clear D3 G5b G8b X0b X1b TB
      go_wp2_with fail
      refine (markIntS_g (u7.heap.size + 1) u8.heap.size _ _ vs hv _ G8c.out).mono ?_
      rintro e v4 ⟨rfl, W4, N4⟩
      have sv4 : v3.heap.size ≤ v4.heap.size := by rw [W4.size]; exact Nat.le_refl _
      have G5d := Lib.hid (G5c.out.keep (w' := v4) (fun b _ h2 => W4.block b (.inl (by omega))) sv4)
      have X0d := Lib.hid (show Box v4 w.heap.size _ _ from (W4.block _ (.inl (by omega))).trans X0c.out)
      have X1d := Lib.hid (show Box v4 (w.heap.size + 1) _ _ from (W4.block _ (.inl (by omega))).trans X1c.out)
      have N4c := Lib.hid N4
      have TV := TC.out.trans (W4.below.mono (by omega))
      have I0v := Lib.hid ((show RI w H0 s0 from W0.out.1).step TV)
      have F0v := Lib.hid ((show RF w A0 l0 from W0.out.2).step TV)
      have I1v := Lib.hid ((show RI w H1 s1 from W1.out.1).step TV)
      have J1v := Lib.hid ((show RI w A1 l1 from W1.out.2).step TV)
      have hm2 : 0 ≤ 1 + (vs.length : Int) := by omega
      clear W4 N4 G5c G8c X0c X1c TC
      go_wp2_with fail
      refine (heldIntS_g (u7.heap.size + 1) u8.heap.size _ _ vs.length hv _ N4c.out).mono ?_
      rintro e v5 ⟨rfl, rfl⟩
      have ka0 := X0d.out.cell 0
      have ka1 := X0d.out.cell 1
      simp only [List.getElem?_toArray, List.getElem?_cons_zero, List.getElem?_cons_succ] at ka0 ka1
      have kan := X0d.out.lt
      have kb0 := X1d.out.cell 0
      have kb1 := X1d.out.cell 1
      simp only [List.getElem?_toArray, List.getElem?_cons_zero, List.getElem?_cons_succ] at kb0 kb1
      have kbn := X1d.out.lt
      have tok31 : True := trivial
      have tok32 : True := trivial
      have tok33 : True := trivial
      go_wp2_with fail
      go_region_held3 (fun w' => w'.cell? ⟨w.heap.size, 0, none⟩ = some (.slice H0 s0.length x0) ∧ w'.cell? ⟨w.heap.size, 1, none⟩ = some (.slice A0 l0.length c0) ∧ w'.cell? ⟨w.heap.size + 1, 0, none⟩ = some (.slice H1 s1.length x1) ∧ w'.cell? ⟨w.heap.size + 1, 1, none⟩ = some (.slice A1 l1.length c1))
        (first
          | go_keep
          | (go_split_ands; refine ⟨?_, ?_, ?_, ?_⟩ <;> (rw [d31.cell (by (try simp) <;> omega)]; assumption))
          | (go_split_ands; refine ⟨?_, ?_, ?_, ?_⟩ <;> (rw [d32.cell (by (try simp) <;> omega)]; assumption))
          | (go_split_ands; refine ⟨?_, ?_, ?_, ?_⟩ <;> (rw [d33.cell (by (try simp) <;> omega)]; assumption)))
        (first
          | (go_at_call 12
             clear tok31
             refine (toQuery_r H0 A0 x0 c0 s0 l0 hl0 hz0 _ (by first | exact I0v.out | exact I0v.out.step (below_drew _) | exact I0v.out.step (below_alloc _ _) | exact I0v.out.step (step (below_alloc _ _) (below_alloc _ _))) (by first | exact F0v.out | exact F0v.out.step (below_drew _) | exact F0v.out.step (below_alloc _ _) | exact F0v.out.step (step (below_alloc _ _) (below_alloc _ _)))).mono ?_
             rintro e u31 ⟨rfl, r31, d31, z31⟩
             have b31 : Below v4.heap.size v4 u31 := by first | exact d31 | exact und d31 | exact undN d31 | exact below_new d31 | exact und (below_new d31) | exact below_new (und d31) | exact below_new (below_new d31) | exact step (below_drew _) (und (below_new d31))
             have I0v' := Lib.hid (I0v.out.step b31)
             clear I0v
             have I0v := I0v'
             clear I0v'
             have F0v' := Lib.hid (F0v.out.step b31)
             clear F0v
             have F0v := F0v'
             clear F0v'
             have I1v' := Lib.hid (I1v.out.step b31)
             clear I1v
             have I1v := I1v'
             clear I1v'
             have J1v' := Lib.hid (J1v.out.step b31)
             clear J1v
             have J1v := J1v'
             clear J1v'
             have X0d' := Lib.hid (X0d.out.step b31)
             clear X0d
             have X0d := X0d'
             clear X0d'
             have X1d' := Lib.hid (X1d.out.step b31)
             clear X1d
             have X1d := X1d'
             clear X1d'
             have G5d' := Lib.hid (G5d.out.step b31)
             clear G5d
             have G5d := G5d'
             clear G5d'
             have N4c' := Lib.hid (N4c.out.step b31)
             clear N4c
             have N4c := N4c'
             clear N4c'
             have T31 := step TV b31
             have Z31 := b31.size
             try rw [al_size] at r31
             have Q31 := Lib.hid r31
             clear r31 z31)
          | (go_at_call 24
             clear tok32
             refine (toBinding_r H1 A1 x1 c1 s1 l1 hs1 hl1 _ (by first | exact I1v.out | exact I1v.out.step (below_drew _) | exact I1v.out.step (below_alloc _ _) | exact I1v.out.step (step (below_alloc _ _) (below_alloc _ _))) (by first | exact J1v.out | exact J1v.out.step (below_drew _) | exact J1v.out.step (below_alloc _ _) | exact J1v.out.step (step (below_alloc _ _) (below_alloc _ _)))).mono ?_
             rintro e u32 ⟨rfl, r32, d32, z32⟩
             have b32 : Below u31.heap.size u31 u32 := by first | exact d32 | exact und d32 | exact undN d32 | exact below_new d32 | exact und (below_new d32) | exact below_new (und d32) | exact below_new (below_new d32) | exact step (below_drew _) (und (below_new d32))
             have I0v' := Lib.hid (I0v.out.step b32)
             clear I0v
             have I0v := I0v'
             clear I0v'
             have F0v' := Lib.hid (F0v.out.step b32)
             clear F0v
             have F0v := F0v'
             clear F0v'
             have I1v' := Lib.hid (I1v.out.step b32)
             clear I1v
             have I1v := I1v'
             clear I1v'
             have J1v' := Lib.hid (J1v.out.step b32)
             clear J1v
             have J1v := J1v'
             clear J1v'
             have X0d' := Lib.hid (X0d.out.step b32)
             clear X0d
             have X0d := X0d'
             clear X0d'
             have X1d' := Lib.hid (X1d.out.step b32)
             clear X1d
             have X1d := X1d'
             clear X1d'
             have G5d' := Lib.hid (G5d.out.step b32)
             clear G5d
             have G5d := G5d'
             clear G5d'
             have N4c' := Lib.hid (N4c.out.step b32)
             clear N4c
             have N4c := N4c'
             clear N4c'
             have Q31' := Lib.hid (Q31.out.step b32)
             clear Q31
             have Q31 := Q31'
             clear Q31'
             have T32 := step T31 b32
             have Z32 := b32.size
             try rw [al_size] at r32
             have Q32 := Lib.hid r32
             clear r32 z32)
          | (go_at_call 25
             clear tok33
             refine (CI.out _ _ _ _ _ _ _ _ _ (by first | exact Q31.out.ri | exact (Q31.out.step (below_drew _)).ri | exact (Q31.out.step (below_alloc _ _)).ri) (by first | exact Q32.out.ri | exact (Q32.out.step (below_drew _)).ri | exact (Q32.out.step (below_alloc _ _)).ri) (by first | exact Q32.out.rv | exact (Q32.out.step (below_drew _)).rv | exact (Q32.out.step (below_alloc _ _)).rv)).mono ?_
             rintro e u33 ⟨A33, c33, rfl, r33, d33⟩
             have b33 : Below u32.heap.size u32 u33 := by first | exact d33 | exact und d33 | exact undN d33 | exact below_new d33 | exact und (below_new d33) | exact below_new (und d33) | exact below_new (below_new d33) | exact step (below_drew _) (und (below_new d33))
             have I0v' := Lib.hid (I0v.out.step b33)
             clear I0v
             have I0v := I0v'
             clear I0v'
             have F0v' := Lib.hid (F0v.out.step b33)
             clear F0v
             have F0v := F0v'
             clear F0v'
             have I1v' := Lib.hid (I1v.out.step b33)
             clear I1v
             have I1v := I1v'
             clear I1v'
             have J1v' := Lib.hid (J1v.out.step b33)
             clear J1v
             have J1v := J1v'
             clear J1v'
             have X0d' := Lib.hid (X0d.out.step b33)
             clear X0d
             have X0d := X0d'
             clear X0d'
             have X1d' := Lib.hid (X1d.out.step b33)
             clear X1d
             have X1d := X1d'
             clear X1d'
             have G5d' := Lib.hid (G5d.out.step b33)
             clear G5d
             have G5d := G5d'
             clear G5d'
             have N4c' := Lib.hid (N4c.out.step b33)
             clear N4c
             have N4c := N4c'
             clear N4c'
             have Q31' := Lib.hid (Q31.out.step b33)
             clear Q31
             have Q31 := Q31'
             clear Q31'
             have Q32' := Lib.hid (Q32.out.step b33)
             clear Q32
             have Q32 := Q32'
             clear Q32'
             have T33 := step T32 b33
             have Z33 := b33.size
             have G33 := Lib.hid r33
             clear r33))
      go_wp2_with fail
      refine (eqIntS_r _ _ _ _ vs hv _ (by first | exact G33.out.ri | exact (G33.out.step (below_drew _)).ri | exact (G33.out.step (below_alloc _ _)).ri) (by first | exact G5d.out.ri | exact (G5d.out.step (below_drew _)).ri | exact (G5d.out.step (below_alloc _ _)).ri)).mono ?_
      rintro e u34 ⟨rfl, d34⟩
      have b34 : Below u33.heap.size u33 u34 := by first | exact d34 | exact und d34 | exact undN d34 | exact below_new d34 | exact und (below_new d34) | exact below_new (und d34) | exact below_new (below_new d34) | exact step (below_drew _) (und (below_new d34))
      have I0v' := Lib.hid (I0v.out.step b34)
      clear I0v
      have I0v := I0v'
      clear I0v'
      have F0v' := Lib.hid (F0v.out.step b34)
      clear F0v
      have F0v := F0v'
      clear F0v'
      have I1v' := Lib.hid (I1v.out.step b34)
      clear I1v
      have I1v := I1v'
      clear I1v'
      have J1v' := Lib.hid (J1v.out.step b34)
      clear J1v
      have J1v := J1v'
      clear J1v'
      have X0d' := Lib.hid (X0d.out.step b34)
      clear X0d
      have X0d := X0d'
      clear X0d'
      have X1d' := Lib.hid (X1d.out.step b34)
      clear X1d
      have X1d := X1d'
      clear X1d'
      have G5d' := Lib.hid (G5d.out.step b34)
      clear G5d
      have G5d := G5d'
      clear G5d'
      have N4c' := Lib.hid (N4c.out.step b34)
      clear N4c
      have N4c := N4c'
      clear N4c'
      have G33' := Lib.hid (G33.out.step b34)
      clear G33
      have G33 := G33'
      clear G33'
      have T34 := step T33 b34
      have Z34 := b34.size
      go_wp2_with fail
      refine (heldIntS_g (u7.heap.size + 1) u8.heap.size _ _ vs.length hv _ N4c.out).mono ?_
      rintro e v9 ⟨rfl, rfl⟩
      go_wp2
      go_ret
      exact ⟨rfl, T34⟩

set_option maxRecDepth 100000 in
theorem lifted (os : Os) (started : os.Started) (H : Type) (enc : TypeId × Value → H) :
    ReturnsInHanded {} Try.checked os 4 .any (Rows.fnExactTupleOfSpec.pre6 enc Try.prog Try.f4 Rows.fnExactTupleOfRow.domain false) (Rows.fnExactTupleOfSpec.post enc Try.prog Try.f4 false true false false) := by
  refine returnsInHanded_of_change (C := Try.checked) own started (by kernel_rfl) Try.func4
    (ChangeSpec.witness6 (enc := enc) (C := Try.checked) false ⟨#[], #[.agg #[.slice none 0 0, .slice none 0 0], .agg #[.slice none 0 0, .slice none 0 0]], []⟩ 8 (by kernel_rfl) (by kernel_rfl) (by kernel_rfl) (by kernel_rfl)) ?_
  intro W base args ds gs before hval0 hW hcnd _
  have hval : ∀ (j : Nat) t v, Try.f4.params[j]? = some t → args[j]? = some v → Value.okWide Try.prog W .any base t v := hval0
  have hpost := fun (W' : World) (hfn : Rows.fnExactTupleOfSpec.fn H (ds ++ gs) = { results := [.lit (.bool true)], args := ds }) (hb : Below W.heap.size W W') => law_post (enc := enc) laidOut (f := Try.f4) (s := Rows.fnExactTupleOfSpec) (args := args) rfl rfl Try.underlying4 (by intro t ht; rw [Try.params4] at ht; simp at ht; rcases ht with rfl | rfl <;> exact ⟨by kernel_rfl, of_decide_eq_true (by kernel_rfl)⟩) hW hfn hb
  obtain ⟨p, q, hA0, hV, rfl, hfz, hnd⟩ := hW
  have hA : DataW.TrodAll enc Try.prog W 0 (fun _ => true) true Try.f4.params.toList args.toList ds p := hA0
  rw [Try.params4] at hA hval
  obtain ⟨v0, vs0, d0, ds0, p0, q0, hargs, rfl, rfl, h0, r0⟩ := trodAll_cons hA
  obtain ⟨v1, vs1, d1, ds1, p1, q1, rfl, rfl, rfl, h1, r1⟩ := trodAll_cons r0
  obtain ⟨rfl, rfl, rfl⟩ := trodAll_nil r1
  obtain rfl : args = #[v0, v1] := by cases args; simp_all
  obtain ⟨rfl, rfl⟩ := trodVars_none hV
  obtain ⟨H0, A0, x0, c0, s0, l0, rfl, y0, z0, k0, m0, w0⟩ := open_queryT (hval 0 25 v0 rfl rfl) h0
  obtain ⟨H1, A1, x1, c1, s1, l1, rfl, y1, z1, k1, m1, w1⟩ := open_bindingT (hval 1 43 v1 rfl rfl) h1
  refine (walk W H0 A0 x0 c0 s0 l0 y0 z0 k0 m0 w0 H1 A1 x1 c1 s1 l1 y1 z1 k1 m1 w1).mono fun e W' ⟨he, hg⟩ => ?_
  subst he
  exact ⟨_, rfl, hpost W' rfl hg⟩

theorem over : Rows.fnExactTupleOfRow.holds Try.pinned (OpenSpec.ofChange Rows.fnExactTupleOfSpec) :=
  OpenClaim.holds_of_wide 4 Try.f4 rfl rfl rfl rfl rfl rfl rfl ⟨rfl, rfl, rfl, rfl, rfl⟩ rfl rfl rfl rfl rfl (by kernel_rfl) Try.func4 (by kernel_rfl)
    (of_decide_eq_true (by kernel_rfl)) (by unfold Func.isWrapper; first | (rw [if_pos (by decide +kernel)]; kernel_rfl) | (rw [if_neg (by decide +kernel)]; exact ⟨rfl, rfl⟩))
    (fun os started H enc _ => lifted os started H enc)
end Go.Proofs.Ytpdmkdhnidgjoaa.fnExactTupleOf
namespace Go.Proofs.Ytpdmkdhnidgjoaa
theorem fnExactTupleOf_holds : Rows.FnExactTupleOfSaid := fnExactTupleOf.over
#print axioms fnExactTupleOf_holds
end Go.Proofs.Ytpdmkdhnidgjoaa
