/- impl.FreezeQuery answers as its model at every argument: the law FnExactFreezeQuery returns true. Conditions: none beyond the statement's own. -/
import Derived.Test.YtpdmkdhnidgjoaaFz14
import Derived.Test.YtpdmkdhnidgjoaaFz15
import Derived.Test.YtpdmkdhnidgjoaaFz12
import Derived.Test.YtpdmkdhnidgjoaaFz3

namespace Go.Proofs.Ytpdmkdhnidgjoaa.fnExactFreezeQuery
open Go.ChangeShapes Go.WideShapes Go.ChangeAt Go.RowKit
open Go.ChangeMaps (open_string shut_string)
set_option linter.unusedVariables false
set_option linter.unusedSimpArgs false
open Go.Proofs.Ytpdmkdhnidgjoaa.atom
set_option maxRecDepth 100000 in
set_option maxHeartbeats 1000000 in
theorem walk (w : World) (H0 A0 : Option Addr) (x0 c0 : Nat) (s0 : List Int) (l0 : FL) (y0 : s0.length ≤ x0) (z0 : x0 ≤ maxLen) (k0 : l0.length ≤ c0) (m0 : c0 ≤ maxLen) (w0 : Ints w 0 w.heap.size H0 s0 ∧ Facts w 0 w.heap.size A0 l0) :
    Calls Try.prog 3 #[.agg #[.slice H0 s0.length x0, .slice A0 l0.length c0]] w fun e w' => e = .returned (.bool true) ∧ Below w.heap.size w w' := by
  unfold maxLen at z0 m0
  have hn := szF_nonneg l0
  have EQ := Lib.hid (show szQ s0 l0 = (s0.length : Int) + szF l0 from rfl)
  by_cases hb : 1048576 - szQ s0 l0 < 0
  · have I0 := Lib.hid (show RI w H0 s0 from w0.1)
    have F0 := Lib.hid (show RF w A0 l0 from w0.2)
    have W0 := Lib.hid w0
    clear w0
    go_enter Try.func3, Try.ntmps3
    go_wp2_with fail
    refine (szQuery_any H0 A0 x0 c0 s0 l0 1048576 (by omega) (by omega) (by omega) (by omega) _ (by first | exact F0.out | exact F0.out.step (below_drew _) | exact F0.out.step (below_alloc _ _) | exact F0.out.step (step (below_alloc _ _) (below_alloc _ _)))).mono ?_
    rintro e u1 ⟨he, d1⟩
    rw [szR_neg hb] at he
    subst he
    have X0 := Lib.hid (Box.of_new d1)
    have b1 : Below w.heap.size w u1 := by first | exact d1 | exact und d1 | exact undN d1 | exact below_new d1 | exact und (below_new d1) | exact below_new (und d1) | exact below_new (below_new d1) | exact step (below_drew _) (und (below_new d1))
    have I0' := Lib.hid (I0.out.step b1)
    clear I0
    have I0 := I0'
    clear I0'
    have F0' := Lib.hid (F0.out.step b1)
    clear F0
    have F0 := F0'
    clear F0'
    have T1 := b1
    have Z1 := b1.size
    have ga0 := X0.out.cell 0
    have ga1 := X0.out.cell 1
    simp only [List.getElem?_toArray, List.getElem?_cons_zero, List.getElem?_cons_succ] at ga0 ga1
    have gan := X0.out.lt
    go_wp2
    go_ret
    exact ⟨rfl, T1⟩
  · skip
    have hz : szQ s0 l0 ≤ 1048576 := by omega
    have hz0 : szF l0 ≤ 1048576 := by rw [EQ.out] at hz; omega
    have hl0 : s0.length ≤ 1048576 := by rw [EQ.out] at hz; omega
    have CS := Lib.hid fun (H A : Option Addr) (ch c : Nat) (w : World) (h' : RF w A l0) => (spec_FreezeQuery H A ch c s0 l0 hl0 hz0 w h').mono fun _ _ h => h.toZ
    have CI := Lib.hid fun (H A : Option Addr) (ch c : Nat) (w : World) (h' : RF w A l0) => (impl_FreezeQuery H A ch c s0 l0 hl0 hz0 w h').mono fun _ _ h => show ∃ _, _ from h
    have hF := szF_frzR (wl 0 9 (terms l0)) (wl 10 17 (terms l0)) l0 hz0
    have hF0 := szF_nonneg (frzR (wl 0 9 (terms l0)) (wl 10 17 (terms l0)) l0)
    have hU := frzL_len (wl 0 9 (terms l0)) (wl 10 17 (terms l0))
    have hV := frzV_len (wl 0 9 (terms l0)) (wl 10 17 (terms l0))
    generalize frzR (wl 0 9 (terms l0)) (wl 10 17 (terms l0)) l0 = F at CS CI hF hF0
    generalize frzL (wl 0 9 (terms l0)) (wl 10 17 (terms l0)) = us at CS CI hU
    generalize frzV (wl 0 9 (terms l0)) (wl 10 17 (terms l0)) = vs at CS CI hV
    generalize frzO (wl 0 9 (terms l0)) (wl 10 17 (terms l0)) = ok at CS CI
    have hF7 : szF F ≤ 1048577 := by omega
    have hu6 : us.length ≤ 1048576 := by omega
    have hv6 : vs.length ≤ 1048576 := by omega
    have hnq : 0 ≤ szQ s0 l0 := by rw [EQ.out]; omega
    have hq2 : 0 ≤ 1048576 - szQ s0 l0 := by omega
    have I0 := Lib.hid (show RI w H0 s0 from w0.1)
    have F0 := Lib.hid (show RF w A0 l0 from w0.2)
    have W0 := Lib.hid w0
    clear w0
    go_enter Try.func3, Try.ntmps3
    go_wp2_with fail
    refine (szQuery_any H0 A0 x0 c0 s0 l0 1048576 (by omega) (by omega) (by omega) (by omega) _ (by first | exact F0.out | exact F0.out.step (below_drew _) | exact F0.out.step (below_alloc _ _) | exact F0.out.step (step (below_alloc _ _) (below_alloc _ _)))).mono ?_
    rintro e u1 ⟨he, d1⟩
    rw [szR_pos (show ¬ (1048576 - szQ s0 l0 < 0) by omega)] at he
    subst he
    have X0 := Lib.hid (Box.of_new d1)
    have b1 : Below w.heap.size w u1 := by first | exact d1 | exact und d1 | exact undN d1 | exact below_new d1 | exact und (below_new d1) | exact below_new (und d1) | exact below_new (below_new d1) | exact step (below_drew _) (und (below_new d1))
    have I0' := Lib.hid (I0.out.step b1)
    clear I0
    have I0 := I0'
    clear I0'
    have F0' := Lib.hid (F0.out.step b1)
    clear F0
    have F0 := F0'
    clear F0'
    have T1 := b1
    have Z1 := b1.size
    have ga0 := X0.out.cell 0
    have ga1 := X0.out.cell 1
    simp only [List.getElem?_toArray, List.getElem?_cons_zero, List.getElem?_cons_succ] at ga0 ga1
    have gan := X0.out.lt
    go_wp2_with fail
    refine (toQuery_r H0 A0 x0 c0 s0 l0 hl0 hz0 _ (by first | exact I0.out | exact I0.out.step (below_drew _) | exact I0.out.step (below_alloc _ _) | exact I0.out.step (step (below_alloc _ _) (below_alloc _ _))) (by first | exact F0.out | exact F0.out.step (below_drew _) | exact F0.out.step (below_alloc _ _) | exact F0.out.step (step (below_alloc _ _) (below_alloc _ _)))).mono ?_
    rintro e u2 ⟨rfl, r2, d2, z2⟩
    have b2 : Below u1.heap.size u1 u2 := by first | exact d2 | exact und d2 | exact undN d2 | exact below_new d2 | exact und (below_new d2) | exact below_new (und d2) | exact below_new (below_new d2) | exact step (below_drew _) (und (below_new d2))
    have I0' := Lib.hid (I0.out.step b2)
    clear I0
    have I0 := I0'
    clear I0'
    have F0' := Lib.hid (F0.out.step b2)
    clear F0
    have F0 := F0'
    clear F0'
    have X0' := Lib.hid (X0.out.step b2)
    clear X0
    have X0 := X0'
    clear X0'
    have T2 := step T1 b2
    have Z2 := b2.size
    try rw [al_size] at r2
    have Q2 := Lib.hid r2
    clear r2 z2
    go_wp2_with fail
    refine (CS.out _ _ _ _ _ (by first | exact Q2.out.rf | exact (Q2.out.step (below_drew _)).rf | exact (Q2.out.step (below_alloc _ _)).rf)).mono ?_
    rintro e u3 ⟨A3, c3, X3, x3, Y3, y3, rfl, r3, d3⟩
    have b3 : Below u2.heap.size u2 u3 := by first | exact d3 | exact und d3 | exact undN d3 | exact below_new d3 | exact und (below_new d3) | exact below_new (und d3) | exact below_new (below_new d3) | exact step (below_drew _) (und (below_new d3))
    have I0' := Lib.hid (I0.out.step b3)
    clear I0
    have I0 := I0'
    clear I0'
    have F0' := Lib.hid (F0.out.step b3)
    clear F0
    have F0 := F0'
    clear F0'
    have X0' := Lib.hid (X0.out.step b3)
    clear X0
    have X0 := X0'
    clear X0'
    have Q2' := Lib.hid (Q2.out.step b3)
    clear Q2
    have Q2 := Q2'
    clear Q2'
    have T3 := step T2 b3
    have Z3 := b3.size
    have V3 := Lib.hid r3
    clear r3
    have gb0 := X0.out.cell 0
    have gb1 := X0.out.cell 1
    simp only [List.getElem?_toArray, List.getElem?_cons_zero, List.getElem?_cons_succ] at gb0 gb1
    have gbn := X0.out.lt
    go_wp2_with fail
    refine (toQuery_r H0 A0 x0 c0 s0 l0 hl0 hz0 _ (by first | exact I0.out | exact I0.out.step (below_drew _) | exact I0.out.step (below_alloc _ _) | exact I0.out.step (step (below_alloc _ _) (below_alloc _ _))) (by first | exact F0.out | exact F0.out.step (below_drew _) | exact F0.out.step (below_alloc _ _) | exact F0.out.step (step (below_alloc _ _) (below_alloc _ _)))).mono ?_
    rintro e u4 ⟨rfl, r4, d4, z4⟩
    have Y6 := Lib.hid (Box.of_new d4)
    have b4 : Below u3.heap.size u3 u4 := by first | exact d4 | exact und d4 | exact undN d4 | exact below_new d4 | exact und (below_new d4) | exact below_new (und d4) | exact below_new (below_new d4) | exact step (below_drew _) (und (below_new d4))
    have I0' := Lib.hid (I0.out.step b4)
    clear I0
    have I0 := I0'
    clear I0'
    have F0' := Lib.hid (F0.out.step b4)
    clear F0
    have F0 := F0'
    clear F0'
    have X0' := Lib.hid (X0.out.step b4)
    clear X0
    have X0 := X0'
    clear X0'
    have V3' := Lib.hid (V3.out.step b4)
    clear V3
    have V3 := V3'
    clear V3'
    have T4 := step T3 b4
    have Z4 := b4.size
    rw [al_size] at r4 z4
    have Q4 := Lib.hid r4
    have y4 := z4
    clear r4 z4
    go_wp2_with fail
    refine (CI.out _ _ _ _ _ (by first | exact Q4.out.rf | exact (Q4.out.step (below_drew _)).rf | exact (Q4.out.step (below_alloc _ _)).rf)).mono ?_
    rintro e u5 ⟨A5, c5, X5, x5, Y5, y5, mid5, rfl, r5, p5, m5, d5⟩
    have Y7 := Lib.hid (Box.of_new d5)
    have mm5 : mid5 ≤ u5.heap.size := by obtain ⟨_, _, _, _, _, _, _, _, _, h⟩ := r5; exact h
    have b5 : Below u4.heap.size u4 u5 := by first | exact d5 | exact und d5 | exact undN d5 | exact below_new d5 | exact und (below_new d5) | exact below_new (und d5) | exact below_new (below_new d5) | exact step (below_drew _) (und (below_new d5))
    have I0' := Lib.hid (I0.out.step b5)
    clear I0
    have I0 := I0'
    clear I0'
    have F0' := Lib.hid (F0.out.step b5)
    clear F0
    have F0 := F0'
    clear F0'
    have X0' := Lib.hid (X0.out.step b5)
    clear X0
    have X0 := X0'
    clear X0'
    have V3' := Lib.hid (V3.out.step b5)
    clear V3
    have V3 := V3'
    clear V3'
    have Q4' := Lib.hid (Q4.out.step b5)
    clear Q4
    have Q4 := Q4'
    clear Q4'
    have Y6' := Lib.hid (Y6.out.step b5)
    clear Y6
    have Y6 := Y6'
    clear Y6'
    have T5 := step T4 b5
    have Z5 := b5.size
    rw [al_size] at r5 m5
    have B5 := Lib.hid r5
    have G5 := Lib.hid p5
    clear r5 p5
    go_wp2_with fail
    refine (eqFactS_b _ _ _ _ F hF7 _ (by first | exact G5.out.rf | exact (G5.out.step (below_drew _)).rf | exact (G5.out.step (below_alloc _ _)).rf) (by first | exact V3.out.rf | exact (V3.out.step (below_drew _)).rf | exact (V3.out.step (below_alloc _ _)).rf)).mono ?_
    rintro e u6 ⟨rfl, d6⟩
    have Y8 := Lib.hid (Box.of_new d6)
    have b6 : Below u5.heap.size u5 u6 := by first | exact d6 | exact und d6 | exact undN d6 | exact below_new d6 | exact und (below_new d6) | exact below_new (und d6) | exact below_new (below_new d6) | exact step (below_drew _) (und (below_new d6))
    have I0' := Lib.hid (I0.out.step b6)
    clear I0
    have I0 := I0'
    clear I0'
    have F0' := Lib.hid (F0.out.step b6)
    clear F0
    have F0 := F0'
    clear F0'
    have X0' := Lib.hid (X0.out.step b6)
    clear X0
    have X0 := X0'
    clear X0'
    have V3' := Lib.hid (V3.out.step b6)
    clear V3
    have V3 := V3'
    clear V3'
    have Q4' := Lib.hid (Q4.out.step b6)
    clear Q4
    have Q4 := Q4'
    clear Q4'
    have Y6' := Lib.hid (Y6.out.step b6)
    clear Y6
    have Y6 := Y6'
    clear Y6'
    have B5' := Lib.hid (B5.out.step b6)
    clear B5
    have B5 := B5'
    clear B5'
    have G5' := Lib.hid (G5.out.step b6)
    clear G5
    have G5 := G5'
    clear G5'
    have Y7' := Lib.hid (Y7.out.step b6)
    clear Y7
    have Y7 := Y7'
    clear Y7'
    have T6 := step T5 b6
    have Z6 := b6.size
    have gc0 := Y6.out.cell 0
    have gc1 := Y6.out.cell 1
    simp only [List.getElem?_toArray, List.getElem?_cons_zero, List.getElem?_cons_succ] at gc0 gc1
    have gcn := Y6.out.lt
    have gcc0 := Y8.out.cell 0
    have gcc1 := Y8.out.cell 1
    simp only [List.getElem?_toArray, List.getElem?_cons_zero, List.getElem?_cons_succ] at gcc0 gcc1
    have gccn := Y8.out.lt
    go_wp2_with fail
    refine (eqBinding_b _ _ _ _ _ _ _ _ us vs hu6 hv6 _ (by first | exact B5.out.ri | exact (B5.out.step (below_drew _)).ri | exact (B5.out.step (below_alloc _ _)).ri) (by first | exact B5.out.rv | exact (B5.out.step (below_drew _)).rv | exact (B5.out.step (below_alloc _ _)).rv) (by first | exact V3.out.ri | exact (V3.out.step (below_drew _)).ri | exact (V3.out.step (below_alloc _ _)).ri) (by first | exact V3.out.rv | exact (V3.out.step (below_drew _)).rv | exact (V3.out.step (below_alloc _ _)).rv)).mono ?_
    rintro e u7 ⟨rfl, d7⟩
    have b7 : Below u6.heap.size u6 u7 := by first | exact d7 | exact und d7 | exact undN d7 | exact below_new d7 | exact und (below_new d7) | exact below_new (und d7) | exact below_new (below_new d7) | exact step (below_drew _) (und (below_new d7))
    have I0' := Lib.hid (I0.out.step b7)
    clear I0
    have I0 := I0'
    clear I0'
    have F0' := Lib.hid (F0.out.step b7)
    clear F0
    have F0 := F0'
    clear F0'
    have X0' := Lib.hid (X0.out.step b7)
    clear X0
    have X0 := X0'
    clear X0'
    have V3' := Lib.hid (V3.out.step b7)
    clear V3
    have V3 := V3'
    clear V3'
    have Q4' := Lib.hid (Q4.out.step b7)
    clear Q4
    have Q4 := Q4'
    clear Q4'
    have Y6' := Lib.hid (Y6.out.step b7)
    clear Y6
    have Y6 := Y6'
    clear Y6'
    have B5' := Lib.hid (B5.out.step b7)
    clear B5
    have B5 := B5'
    clear B5'
    have G5' := Lib.hid (G5.out.step b7)
    clear G5
    have G5 := G5'
    clear G5'
    have Y7' := Lib.hid (Y7.out.step b7)
    clear Y7
    have Y7 := Y7'
    clear Y7'
    have Y8' := Lib.hid (Y8.out.step b7)
    clear Y8
    have Y8 := Y8'
    clear Y8'
    have T7 := step T6 b7
    have Z7 := b7.size
    have gd0 := X0.out.cell 0
    have gd1 := X0.out.cell 1
    simp only [List.getElem?_toArray, List.getElem?_cons_zero, List.getElem?_cons_succ] at gd0 gd1
    have gdn := X0.out.lt
    have ge0 := Y7.out.cell 0
    have ge1 := Y7.out.cell 1
    simp only [List.getElem?_toArray, List.getElem?_cons_zero, List.getElem?_cons_succ] at ge0 ge1
    have gen := Y7.out.lt
    have tok8 : True := trivial
    have tok9 : True := trivial
    go_wp2_with fail
    go_region_held3 (fun w' => w'.cell? ⟨w.heap.size, 0, none⟩ = some (.slice H0 s0.length x0) ∧ w'.cell? ⟨w.heap.size, 1, none⟩ = some (.slice A0 l0.length c0) ∧ w'.cell? ⟨u4.heap.size, 0, none⟩ = some (.slice (some ⟨u3.heap.size + 1 + 3, 0, none⟩) s0.length s0.length) ∧ w'.cell? ⟨u4.heap.size, 1, none⟩ = some (.slice (some ⟨u3.heap.size + 1 + 3 + 1, 0, none⟩) l0.length l0.length))
      (first
        | go_keep
        | (go_split_ands; refine ⟨?_, ?_, ?_, ?_⟩ <;> (rw [d8.cell (by (try simp) <;> omega)]; assumption))
        | (go_split_ands; refine ⟨?_, ?_, ?_, ?_⟩ <;> (rw [d9.cell (by (try simp) <;> omega)]; assumption)))
      (first
        | (go_at_call 12
           clear tok8
           refine (toQuery_r H0 A0 x0 c0 s0 l0 hl0 hz0 _ (by first | exact I0.out | exact I0.out.step (below_drew _) | exact I0.out.step (below_alloc _ _) | exact I0.out.step (step (below_alloc _ _) (below_alloc _ _))) (by first | exact F0.out | exact F0.out.step (below_drew _) | exact F0.out.step (below_alloc _ _) | exact F0.out.step (step (below_alloc _ _) (below_alloc _ _)))).mono ?_
           rintro e u8 ⟨rfl, r8, d8, z8⟩
           have b8 : Below u7.heap.size u7 u8 := by first | exact d8 | exact und d8 | exact undN d8 | exact below_new d8 | exact und (below_new d8) | exact below_new (und d8) | exact below_new (below_new d8) | exact step (below_drew _) (und (below_new d8))
           have I0' := Lib.hid (I0.out.step b8)
           clear I0
           have I0 := I0'
           clear I0'
           have F0' := Lib.hid (F0.out.step b8)
           clear F0
           have F0 := F0'
           clear F0'
           have X0' := Lib.hid (X0.out.step b8)
           clear X0
           have X0 := X0'
           clear X0'
           have V3' := Lib.hid (V3.out.step b8)
           clear V3
           have V3 := V3'
           clear V3'
           have Q4' := Lib.hid (Q4.out.step b8)
           clear Q4
           have Q4 := Q4'
           clear Q4'
           have Y6' := Lib.hid (Y6.out.step b8)
           clear Y6
           have Y6 := Y6'
           clear Y6'
           have B5' := Lib.hid (B5.out.step b8)
           clear B5
           have B5 := B5'
           clear B5'
           have G5' := Lib.hid (G5.out.step b8)
           clear G5
           have G5 := G5'
           clear G5'
           have Y7' := Lib.hid (Y7.out.step b8)
           clear Y7
           have Y7 := Y7'
           clear Y7'
           have Y8' := Lib.hid (Y8.out.step b8)
           clear Y8
           have Y8 := Y8'
           clear Y8'
           have T8 := step T7 b8
           have Z8 := b8.size
           have Q8 := Lib.hid r8
           clear r8 z8)
        | (go_at_call 16
           clear tok9
           refine (eqQuery_b _ _ _ _ _ _ _ _ s0 l0 hl0 (by omega) _ (by first | exact Q4.out.ri | exact (Q4.out.step (below_drew _)).ri | exact (Q4.out.step (below_alloc _ _)).ri) (by first | exact Q4.out.rf | exact (Q4.out.step (below_drew _)).rf | exact (Q4.out.step (below_alloc _ _)).rf) (by first | exact Q8.out.ri | exact (Q8.out.step (below_drew _)).ri | exact (Q8.out.step (below_alloc _ _)).ri) (by first | exact Q8.out.rf | exact (Q8.out.step (below_drew _)).rf | exact (Q8.out.step (below_alloc _ _)).rf)).mono ?_
           rintro e u9 ⟨rfl, d9⟩
           have b9 : Below u8.heap.size u8 u9 := by first | exact d9 | exact und d9 | exact undN d9 | exact below_new d9 | exact und (below_new d9) | exact below_new (und d9) | exact below_new (below_new d9) | exact step (below_drew _) (und (below_new d9))
           have I0' := Lib.hid (I0.out.step b9)
           clear I0
           have I0 := I0'
           clear I0'
           have F0' := Lib.hid (F0.out.step b9)
           clear F0
           have F0 := F0'
           clear F0'
           have X0' := Lib.hid (X0.out.step b9)
           clear X0
           have X0 := X0'
           clear X0'
           have V3' := Lib.hid (V3.out.step b9)
           clear V3
           have V3 := V3'
           clear V3'
           have Q4' := Lib.hid (Q4.out.step b9)
           clear Q4
           have Q4 := Q4'
           clear Q4'
           have Y6' := Lib.hid (Y6.out.step b9)
           clear Y6
           have Y6 := Y6'
           clear Y6'
           have B5' := Lib.hid (B5.out.step b9)
           clear B5
           have B5 := B5'
           clear B5'
           have G5' := Lib.hid (G5.out.step b9)
           clear G5
           have G5 := G5'
           clear G5'
           have Y7' := Lib.hid (Y7.out.step b9)
           clear Y7
           have Y7 := Y7'
           clear Y7'
           have Y8' := Lib.hid (Y8.out.step b9)
           clear Y8
           have Y8 := Y8'
           clear Y8'
           have Q8' := Lib.hid (Q8.out.step b9)
           clear Q8
           have Q8 := Q8'
           clear Q8'
           have T9 := step T8 b9
           have Z9 := b9.size))
    have gf0 := Y7.out.cell 0
    have gf1 := Y7.out.cell 1
    simp only [List.getElem?_toArray, List.getElem?_cons_zero, List.getElem?_cons_succ] at gf0 gf1
    have gfn := Y7.out.lt
    have q4 := Q4.out.lt
    have v3 := V3.out.2.2.2
    have g5 := G5.out.1
    have y6 := Y6.out.lt
    have y8 := Y8.out.lt
    have x0h := X0.out.lt
    go_wp2_with fail
    refine (markQuery_o (u3.heap.size + 1 + 3) (u3.heap.size + 1 + 3 + 1) u4.heap.size _ _ _ _ s0 l0 1 (by omega) (by omega) hz _ (by first | exact Q4.out.qo hl0 | exact (Q4.out.step (below_drew _)).qo hl0)).mono ?_
    rintro e v1 ⟨rfl, M1, _⟩
    have sv1 : u9.heap.size ≤ v1.heap.size := M1.below.size
    have V3a := Lib.hid (V3.out.keep (w' := v1) (fun b h2 => M1.keep (.inl (by omega)) (by omega)) sv1)
    have G5a := Lib.hid (G5.out.keep (w' := v1) (fun b h1 h2 => M1.keep (.inr (by omega)) (by omega)) sv1)
    have B5a := Lib.hid (B5.out.keep (w' := v1) (fun b h1 h2 => M1.keep (.inr (by omega)) (by have := G5.out.1; omega)) sv1)
    have X0a := Lib.hid (show Box v1 w.heap.size _ _ from (M1.keep (.inl (by omega)) X0.out.lt).trans X0.out)
    have Y6a := Lib.hid (show Box v1 u3.heap.size _ _ from (M1.keep (.inl (by omega)) Y6.out.lt).trans Y6.out)
    have Y8a := Lib.hid (show Box v1 u5.heap.size _ _ from (M1.keep (.inr (by omega)) Y8.out.lt).trans Y8.out)
    have TA := Lib.hid (T9.trans (M1.below.mono (by omega)))
    clear M1 V3 G5 B5 X0 Q4 Y6 Y7 Y8
    go_wp2_with fail
    refine (eqFactS_b _ _ _ _ F hF7 _ (by first | exact G5a.out.rf | exact (G5a.out.step (below_drew _)).rf | exact (G5a.out.step (below_alloc _ _)).rf) (by first | exact V3a.out.rf | exact (V3a.out.step (below_drew _)).rf | exact (V3a.out.step (below_alloc _ _)).rf)).mono ?_
    rintro e u21 ⟨rfl, d21⟩
    have b21 : Below v1.heap.size v1 u21 := by first | exact d21 | exact und d21 | exact undN d21 | exact below_new d21 | exact und (below_new d21) | exact below_new (und d21) | exact below_new (below_new d21) | exact step (below_drew _) (und (below_new d21))
    have V3a' := Lib.hid (V3a.out.step b21)
    clear V3a
    have V3a := V3a'
    clear V3a'
    have G5a' := Lib.hid (G5a.out.step b21)
    clear G5a
    have G5a := G5a'
    clear G5a'
    have B5a' := Lib.hid (B5a.out.step b21)
    clear B5a
    have B5a := B5a'
    clear B5a'
    have X0a' := Lib.hid (X0a.out.step b21)
    clear X0a
    have X0a := X0a'
    clear X0a'
    have Y6a' := Lib.hid (Y6a.out.step b21)
    clear Y6a
    have Y6a := Y6a'
    clear Y6a'
    have Y8a' := Lib.hid (Y8a.out.step b21)
    clear Y8a
    have Y8a := Y8a'
    clear Y8a'
    have T21 := step TA.out b21
    have Z21 := b21.size
    have ha0 := Y6a.out.cell 0
    have ha1 := Y6a.out.cell 1
    simp only [List.getElem?_toArray, List.getElem?_cons_zero, List.getElem?_cons_succ] at ha0 ha1
    have han := Y6a.out.lt
    have hb0 := Y8a.out.cell 0
    have hb1 := Y8a.out.cell 1
    simp only [List.getElem?_toArray, List.getElem?_cons_zero, List.getElem?_cons_succ] at hb0 hb1
    have hbn := Y8a.out.lt
    go_wp2_with fail
    refine (eqBinding_b _ _ _ _ _ _ _ _ us vs hu6 hv6 _ (by first | exact B5a.out.ri | exact (B5a.out.step (below_drew _)).ri | exact (B5a.out.step (below_alloc _ _)).ri) (by first | exact B5a.out.rv | exact (B5a.out.step (below_drew _)).rv | exact (B5a.out.step (below_alloc _ _)).rv) (by first | exact V3a.out.ri | exact (V3a.out.step (below_drew _)).ri | exact (V3a.out.step (below_alloc _ _)).ri) (by first | exact V3a.out.rv | exact (V3a.out.step (below_drew _)).rv | exact (V3a.out.step (below_alloc _ _)).rv)).mono ?_
    rintro e u22 ⟨rfl, d22⟩
    have b22 : Below u21.heap.size u21 u22 := by first | exact d22 | exact und d22 | exact undN d22 | exact below_new d22 | exact und (below_new d22) | exact below_new (und d22) | exact below_new (below_new d22) | exact step (below_drew _) (und (below_new d22))
    have V3a' := Lib.hid (V3a.out.step b22)
    clear V3a
    have V3a := V3a'
    clear V3a'
    have G5a' := Lib.hid (G5a.out.step b22)
    clear G5a
    have G5a := G5a'
    clear G5a'
    have B5a' := Lib.hid (B5a.out.step b22)
    clear B5a
    have B5a := B5a'
    clear B5a'
    have X0a' := Lib.hid (X0a.out.step b22)
    clear X0a
    have X0a := X0a'
    clear X0a'
    have Y6a' := Lib.hid (Y6a.out.step b22)
    clear Y6a
    have Y6a := Y6a'
    clear Y6a'
    have Y8a' := Lib.hid (Y8a.out.step b22)
    clear Y8a
    have Y8a := Y8a'
    clear Y8a'
    have T22 := step T21 b22
    have Z22 := b22.size
    have g5b := G5a.out.1
    have y8b := Y8a.out.lt
    go_wp2_with fail
    refine (markFactS_of mid5 u5.heap.size _ _ F hF7 _ (by first | exact G5a.out | exact G5a.out.step (below_drew _))).mono ?_
    rintro e v2 ⟨rfl, N2, M2⟩
    have sv2 : u22.heap.size ≤ v2.heap.size := by have := M2.size; first | exact Nat.le_of_eq this.symm | omega
    have V3b := Lib.hid (V3a.out.keep (w' := v2) (fun b h2 => M2.block b (.inl (by omega))) sv2)
    have B5b := Lib.hid (B5a.out.keep (w' := v2) (fun b h1 h2 => M2.block b (.inl (by omega))) sv2)
    have X0b := Lib.hid (show Box v2 w.heap.size _ _ from (M2.block _ (.inl (by omega))).trans X0a.out)
    have Y6b := Lib.hid (show Box v2 u3.heap.size _ _ from (M2.block _ (.inl (by omega))).trans Y6a.out)
    have Y8b := Lib.hid (show Box v2 u5.heap.size _ _ from (M2.block _ (.inr (by omega))).trans Y8a.out)
    have NN := Lib.hid N2
    have TB := Lib.hid (T22.trans (M2.below.mono (by omega)))
    clear M2 N2 V3a G5a B5a X0a Y6a Y8a TA
    have jc0 := Y8b.out.cell 0
    have jc1 := Y8b.out.cell 1
    simp only [List.getElem?_toArray, List.getElem?_cons_zero, List.getElem?_cons_succ] at jc0 jc1
    have hk1 : 0 ≤ 1 + szF F := by omega
    have sm5 : u5.heap.size ≤ v2.heap.size := by omega
    go_wp2_with fail
    refine (markBinding_o (u4.heap.size + 1) mid5 _ _ _ _ (us, vs) (1 + szF F) hu6 hv6 hk1 (by omega) _ (by first | exact B5b.out | exact B5b.out.step (below_drew _))).mono ?_
    rintro e v3 ⟨rfl, M3, N3⟩
    have sv3 : v2.heap.size ≤ v3.heap.size := M3.size
    have V3c := Lib.hid (V3b.out.keep (w' := v3) (fun b h2 => M3.block b (.inl (by omega)) (by omega)) sv3)
    have X0c := Lib.hid (show Box v3 w.heap.size _ _ from (M3.block _ (.inl (by omega)) X0b.out.lt).trans X0b.out)
    have Y6c := Lib.hid (show Box v3 u3.heap.size _ _ from (M3.block _ (.inl (by omega)) Y6b.out.lt).trans Y6b.out)
    have Y8c := Lib.hid (show Box v3 u5.heap.size _ _ from (M3.block _ (.inr (by omega)) Y8b.out.lt).trans Y8b.out)
    have NF := Lib.hid (NN.out.keep (w' := v3) (fun b h1 h2 => M3.block b (.inr (by omega)) (by omega)) sv3)
    have NB := Lib.hid N3
    have TC := Lib.hid (TB.out.trans (M3.below.mono (by omega)))
    have I0v := Lib.hid ((show RI w H0 s0 from W0.out.1).step TC.out)
    have F0v := Lib.hid ((show RF w A0 l0 from W0.out.2).step TC.out)
    have hm2 : 0 ≤ 1 + szF F + (us.length : Int) + (vs.length : Int) := by omega
    clear M3 N3 V3b B5b X0b Y6b Y8b NN TB jc0 jc1
    go_wp2_with fail
    refine (heldFactS_any _ _ 1 F hF7 (by omega) (by omega) _ (by first | exact NF.out.rf | exact (NF.out.step (below_drew _)).rf | exact (NF.out.step (below_alloc _ _)).rf)).mono ?_
    rintro e v5 ⟨rfl, rfl⟩
    have ia0 := Y8c.out.cell 0
    have ia1 := Y8c.out.cell 1
    simp only [List.getElem?_toArray, List.getElem?_cons_zero, List.getElem?_cons_succ] at ia0 ia1
    have ian := Y8c.out.lt
    go_wp2_with fail
    refine (heldBinding_o (u4.heap.size + 1) mid5 _ _ _ _ (us, vs) (1 + szF F) hu6 hv6 hk1 (by omega) _ (by first | exact NB.out | exact NB.out.step (below_drew _))).mono ?_
    rintro e u31 ⟨rfl, d31⟩
    have b31 : Below v3.heap.size v3 u31 := by first | exact d31 | exact und d31 | exact undN d31 | exact below_new d31 | exact und (below_new d31) | exact below_new (und d31) | exact below_new (below_new d31) | exact step (below_drew _) (und (below_new d31))
    have V3c' := Lib.hid (V3c.out.step b31)
    clear V3c
    have V3c := V3c'
    clear V3c'
    have X0c' := Lib.hid (X0c.out.step b31)
    clear X0c
    have X0c := X0c'
    clear X0c'
    have Y6c' := Lib.hid (Y6c.out.step b31)
    clear Y6c
    have Y6c := Y6c'
    clear Y6c'
    have Y8c' := Lib.hid (Y8c.out.step b31)
    clear Y8c
    have Y8c := Y8c'
    clear Y8c'
    have NF' := Lib.hid (NF.out.step b31)
    clear NF
    have NF := NF'
    clear NF'
    have NB' := Lib.hid (NB.out.step b31)
    clear NB
    have NB := NB'
    clear NB'
    have I0v' := Lib.hid (I0v.out.step b31)
    clear I0v
    have I0v := I0v'
    clear I0v'
    have F0v' := Lib.hid (F0v.out.step b31)
    clear F0v
    have F0v := F0v'
    clear F0v'
    have T31 := step TC.out b31
    have Z31 := b31.size
    have ib0 := X0c.out.cell 0
    have ib1 := X0c.out.cell 1
    simp only [List.getElem?_toArray, List.getElem?_cons_zero, List.getElem?_cons_succ] at ib0 ib1
    have ibn := X0c.out.lt
    go_wp2_with fail
    refine (toQuery_r H0 A0 x0 c0 s0 l0 hl0 hz0 _ (by first | exact I0v.out | exact I0v.out.step (below_drew _) | exact I0v.out.step (below_alloc _ _) | exact I0v.out.step (step (below_alloc _ _) (below_alloc _ _))) (by first | exact F0v.out | exact F0v.out.step (below_drew _) | exact F0v.out.step (below_alloc _ _) | exact F0v.out.step (step (below_alloc _ _) (below_alloc _ _)))).mono ?_
    rintro e u32 ⟨rfl, r32, d32, z32⟩
    have b32 : Below u31.heap.size u31 u32 := by first | exact d32 | exact und d32 | exact undN d32 | exact below_new d32 | exact und (below_new d32) | exact below_new (und d32) | exact below_new (below_new d32) | exact step (below_drew _) (und (below_new d32))
    have V3c' := Lib.hid (V3c.out.step b32)
    clear V3c
    have V3c := V3c'
    clear V3c'
    have X0c' := Lib.hid (X0c.out.step b32)
    clear X0c
    have X0c := X0c'
    clear X0c'
    have Y6c' := Lib.hid (Y6c.out.step b32)
    clear Y6c
    have Y6c := Y6c'
    clear Y6c'
    have Y8c' := Lib.hid (Y8c.out.step b32)
    clear Y8c
    have Y8c := Y8c'
    clear Y8c'
    have NF' := Lib.hid (NF.out.step b32)
    clear NF
    have NF := NF'
    clear NF'
    have NB' := Lib.hid (NB.out.step b32)
    clear NB
    have NB := NB'
    clear NB'
    have I0v' := Lib.hid (I0v.out.step b32)
    clear I0v
    have I0v := I0v'
    clear I0v'
    have F0v' := Lib.hid (F0v.out.step b32)
    clear F0v
    have F0v := F0v'
    clear F0v'
    have T32 := step T31 b32
    have Z32 := b32.size
    try rw [al_size] at r32
    have Q32 := Lib.hid r32
    clear r32 z32
    go_wp2_with fail
    refine (CI.out _ _ _ _ _ (by first | exact Q32.out.rf | exact (Q32.out.step (below_drew _)).rf | exact (Q32.out.step (below_alloc _ _)).rf)).mono ?_
    rintro e u33 ⟨A33, c33, X33, x33, Y33, y33, mid33, rfl, r33, p33, m33, d33⟩
    have b33 : Below u32.heap.size u32 u33 := by first | exact d33 | exact und d33 | exact undN d33 | exact below_new d33 | exact und (below_new d33) | exact below_new (und d33) | exact below_new (below_new d33) | exact step (below_drew _) (und (below_new d33))
    have V3c' := Lib.hid (V3c.out.step b33)
    clear V3c
    have V3c := V3c'
    clear V3c'
    have X0c' := Lib.hid (X0c.out.step b33)
    clear X0c
    have X0c := X0c'
    clear X0c'
    have Y6c' := Lib.hid (Y6c.out.step b33)
    clear Y6c
    have Y6c := Y6c'
    clear Y6c'
    have Y8c' := Lib.hid (Y8c.out.step b33)
    clear Y8c
    have Y8c := Y8c'
    clear Y8c'
    have NF' := Lib.hid (NF.out.step b33)
    clear NF
    have NF := NF'
    clear NF'
    have NB' := Lib.hid (NB.out.step b33)
    clear NB
    have NB := NB'
    clear NB'
    have I0v' := Lib.hid (I0v.out.step b33)
    clear I0v
    have I0v := I0v'
    clear I0v'
    have F0v' := Lib.hid (F0v.out.step b33)
    clear F0v
    have F0v := F0v'
    clear F0v'
    have Q32' := Lib.hid (Q32.out.step b33)
    clear Q32
    have Q32 := Q32'
    clear Q32'
    have T33 := step T32 b33
    have Z33 := b33.size
    have B33 := Lib.hid r33
    have G33 := Lib.hid p33
    clear r33 p33
    go_wp2_with fail
    refine (eqFactS_b _ _ _ _ F hF7 _ (by first | exact G33.out.rf | exact (G33.out.step (below_drew _)).rf | exact (G33.out.step (below_alloc _ _)).rf) (by first | exact V3c.out.rf | exact (V3c.out.step (below_drew _)).rf | exact (V3c.out.step (below_alloc _ _)).rf)).mono ?_
    rintro e u34 ⟨rfl, d34⟩
    have Y9 := Lib.hid (Box.of_new d34)
    have b34 : Below u33.heap.size u33 u34 := by first | exact d34 | exact und d34 | exact undN d34 | exact below_new d34 | exact und (below_new d34) | exact below_new (und d34) | exact below_new (below_new d34) | exact step (below_drew _) (und (below_new d34))
    have V3c' := Lib.hid (V3c.out.step b34)
    clear V3c
    have V3c := V3c'
    clear V3c'
    have X0c' := Lib.hid (X0c.out.step b34)
    clear X0c
    have X0c := X0c'
    clear X0c'
    have Y6c' := Lib.hid (Y6c.out.step b34)
    clear Y6c
    have Y6c := Y6c'
    clear Y6c'
    have Y8c' := Lib.hid (Y8c.out.step b34)
    clear Y8c
    have Y8c := Y8c'
    clear Y8c'
    have NF' := Lib.hid (NF.out.step b34)
    clear NF
    have NF := NF'
    clear NF'
    have NB' := Lib.hid (NB.out.step b34)
    clear NB
    have NB := NB'
    clear NB'
    have I0v' := Lib.hid (I0v.out.step b34)
    clear I0v
    have I0v := I0v'
    clear I0v'
    have F0v' := Lib.hid (F0v.out.step b34)
    clear F0v
    have F0v := F0v'
    clear F0v'
    have B33' := Lib.hid (B33.out.step b34)
    clear B33
    have B33 := B33'
    clear B33'
    have G33' := Lib.hid (G33.out.step b34)
    clear G33
    have G33 := G33'
    clear G33'
    have T34 := step T33 b34
    have Z34 := b34.size
    have ic0 := Y6c.out.cell 0
    have ic1 := Y6c.out.cell 1
    simp only [List.getElem?_toArray, List.getElem?_cons_zero, List.getElem?_cons_succ] at ic0 ic1
    have icn := Y6c.out.lt
    have id0 := Y9.out.cell 0
    have id1 := Y9.out.cell 1
    simp only [List.getElem?_toArray, List.getElem?_cons_zero, List.getElem?_cons_succ] at id0 id1
    have idn := Y9.out.lt
    go_wp2_with fail
    refine (eqBinding_b _ _ _ _ _ _ _ _ us vs hu6 hv6 _ (by first | exact B33.out.ri | exact (B33.out.step (below_drew _)).ri | exact (B33.out.step (below_alloc _ _)).ri) (by first | exact B33.out.rv | exact (B33.out.step (below_drew _)).rv | exact (B33.out.step (below_alloc _ _)).rv) (by first | exact V3c.out.ri | exact (V3c.out.step (below_drew _)).ri | exact (V3c.out.step (below_alloc _ _)).ri) (by first | exact V3c.out.rv | exact (V3c.out.step (below_drew _)).rv | exact (V3c.out.step (below_alloc _ _)).rv)).mono ?_
    rintro e u35 ⟨rfl, d35⟩
    have b35 : Below u34.heap.size u34 u35 := by first | exact d35 | exact und d35 | exact undN d35 | exact below_new d35 | exact und (below_new d35) | exact below_new (und d35) | exact below_new (below_new d35) | exact step (below_drew _) (und (below_new d35))
    have V3c' := Lib.hid (V3c.out.step b35)
    clear V3c
    have V3c := V3c'
    clear V3c'
    have X0c' := Lib.hid (X0c.out.step b35)
    clear X0c
    have X0c := X0c'
    clear X0c'
    have Y6c' := Lib.hid (Y6c.out.step b35)
    clear Y6c
    have Y6c := Y6c'
    clear Y6c'
    have Y8c' := Lib.hid (Y8c.out.step b35)
    clear Y8c
    have Y8c := Y8c'
    clear Y8c'
    have NF' := Lib.hid (NF.out.step b35)
    clear NF
    have NF := NF'
    clear NF'
    have NB' := Lib.hid (NB.out.step b35)
    clear NB
    have NB := NB'
    clear NB'
    have I0v' := Lib.hid (I0v.out.step b35)
    clear I0v
    have I0v := I0v'
    clear I0v'
    have F0v' := Lib.hid (F0v.out.step b35)
    clear F0v
    have F0v := F0v'
    clear F0v'
    have B33' := Lib.hid (B33.out.step b35)
    clear B33
    have B33 := B33'
    clear B33'
    have G33' := Lib.hid (G33.out.step b35)
    clear G33
    have G33 := G33'
    clear G33'
    have Y9' := Lib.hid (Y9.out.step b35)
    clear Y9
    have Y9 := Y9'
    clear Y9'
    have T35 := step T34 b35
    have Z35 := b35.size
    go_wp2_with fail
    refine (heldFactS_any _ _ 1 F hF7 (by omega) (by omega) _ (by first | exact NF.out.rf | exact (NF.out.step (below_drew _)).rf | exact (NF.out.step (below_alloc _ _)).rf)).mono ?_
    rintro e v6 ⟨rfl, rfl⟩
    have ie0 := Y8c.out.cell 0
    have ie1 := Y8c.out.cell 1
    simp only [List.getElem?_toArray, List.getElem?_cons_zero, List.getElem?_cons_succ] at ie0 ie1
    have ien := Y8c.out.lt
    go_wp2_with fail
    refine (heldBinding_o (u4.heap.size + 1) mid5 _ _ _ _ (us, vs) (1 + szF F) hu6 hv6 hk1 (by omega) _ (by first | exact NB.out | exact NB.out.step (below_drew _))).mono ?_
    rintro e u36 ⟨rfl, d36⟩
    have b36 : Below u35.heap.size u35 u36 := by first | exact d36 | exact und d36 | exact undN d36 | exact below_new d36 | exact und (below_new d36) | exact below_new (und d36) | exact below_new (below_new d36) | exact step (below_drew _) (und (below_new d36))
    have X0c' := Lib.hid (X0c.out.step b36)
    clear X0c
    have X0c := X0c'
    clear X0c'
    have Y6c' := Lib.hid (Y6c.out.step b36)
    clear Y6c
    have Y6c := Y6c'
    clear Y6c'
    have Y8c' := Lib.hid (Y8c.out.step b36)
    clear Y8c
    have Y8c := Y8c'
    clear Y8c'
    have NF' := Lib.hid (NF.out.step b36)
    clear NF
    have NF := NF'
    clear NF'
    have NB' := Lib.hid (NB.out.step b36)
    clear NB
    have NB := NB'
    clear NB'
    have I0v' := Lib.hid (I0v.out.step b36)
    clear I0v
    have I0v := I0v'
    clear I0v'
    have F0v' := Lib.hid (F0v.out.step b36)
    clear F0v
    have F0v := F0v'
    clear F0v'
    have T36 := step T35 b36
    have Z36 := b36.size
    go_wp2
    go_ret
    exact ⟨rfl, T36⟩

set_option maxRecDepth 100000 in
theorem lifted (os : Os) (started : os.Started) (H : Type) (enc : TypeId × Value → H) :
    ReturnsInHanded {} Try.checked os 3 .any (Rows.fnExactFreezeQuerySpec.pre6 enc Try.prog Try.f3 Rows.fnExactFreezeQueryRow.domain false) (Rows.fnExactFreezeQuerySpec.post enc Try.prog Try.f3 false true false false) := by
  refine returnsInHanded_of_change (C := Try.checked) own started (by kernel_rfl) Try.func3
    (ChangeSpec.witness6 (enc := enc) (C := Try.checked) false ⟨#[], #[.agg #[.slice none 0 0, .slice none 0 0]], []⟩ 8 (by kernel_rfl) (by kernel_rfl) (by kernel_rfl) (by kernel_rfl)) ?_
  intro W base args ds gs before hval0 hW hcnd _
  have hval : ∀ (j : Nat) t v, Try.f3.params[j]? = some t → args[j]? = some v → Value.okWide Try.prog W .any base t v := hval0
  have hpost := fun (W' : World) (hfn : Rows.fnExactFreezeQuerySpec.fn H (ds ++ gs) = { results := [.lit (.bool true)], args := ds }) (hb : Below W.heap.size W W') => law_post (enc := enc) laidOut (f := Try.f3) (s := Rows.fnExactFreezeQuerySpec) (args := args) rfl rfl Try.underlying4 (by intro t ht; rw [Try.params3] at ht; simp at ht; rcases ht with rfl <;> exact ⟨by kernel_rfl, of_decide_eq_true (by kernel_rfl)⟩) hW hfn hb
  obtain ⟨p, q, hA0, hV, rfl, hfz, hnd⟩ := hW
  have hA : DataW.TrodAll enc Try.prog W 0 (fun _ => true) true Try.f3.params.toList args.toList ds p := hA0
  rw [Try.params3] at hA hval
  obtain ⟨v0, vs0, d0, ds0, p0, q0, hargs, rfl, rfl, h0, r0⟩ := trodAll_cons hA
  obtain ⟨rfl, rfl, rfl⟩ := trodAll_nil r0
  obtain rfl : args = #[v0] := by cases args; simp_all
  obtain ⟨rfl, rfl⟩ := trodVars_none hV
  obtain ⟨H0, A0, x0, c0, s0, l0, rfl, y0, z0, k0, m0, w0⟩ := open_queryT (hval 0 25 v0 rfl rfl) h0
  refine (walk W H0 A0 x0 c0 s0 l0 y0 z0 k0 m0 w0).mono fun e W' ⟨he, hg⟩ => ?_
  subst he
  exact ⟨_, rfl, hpost W' rfl hg⟩

theorem over : Rows.fnExactFreezeQueryRow.holds Try.pinned (OpenSpec.ofChange Rows.fnExactFreezeQuerySpec) :=
  OpenClaim.holds_of_wide 3 Try.f3 rfl rfl rfl rfl rfl rfl rfl ⟨rfl, rfl, rfl, rfl, rfl⟩ rfl rfl rfl rfl rfl (by kernel_rfl) Try.func3 (by kernel_rfl)
    (of_decide_eq_true (by kernel_rfl)) (by unfold Func.isWrapper; first | (rw [if_pos (by decide +kernel)]; kernel_rfl) | (rw [if_neg (by decide +kernel)]; exact ⟨rfl, rfl⟩))
    (fun os started H enc _ => lifted os started H enc)
end Go.Proofs.Ytpdmkdhnidgjoaa.fnExactFreezeQuery
namespace Go.Proofs.Ytpdmkdhnidgjoaa
theorem fnExactFreezeQuery_holds : Rows.FnExactFreezeQuerySaid := fnExactFreezeQuery.over
#print axioms fnExactFreezeQuery_holds
end Go.Proofs.Ytpdmkdhnidgjoaa
