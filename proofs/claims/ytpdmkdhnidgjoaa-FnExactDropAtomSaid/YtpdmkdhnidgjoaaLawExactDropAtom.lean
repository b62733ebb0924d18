/- impl.DropAtom answers as its model at every argument: the law FnExactDropAtom returns true. Conditions: none beyond the statement's own. -/
import Derived.Test.YtpdmkdhnidgjoaaDpL
namespace Go.Proofs.Ytpdmkdhnidgjoaa.fnExactDropAtom
open Go.ChangeShapes Go.WideShapes Go.ChangeAt Go.RowKit
open Go.ChangeMaps (open_string shut_string)
set_option linter.unusedVariables false
set_option linter.unusedSimpArgs false
open Go.Proofs.Ytpdmkdhnidgjoaa.atom
set_option maxRecDepth 100000 in
set_option maxHeartbeats 1000000 in
theorem walk (w : World) (H0 A0 : Option Addr) (x0 c0 : Nat) (s0 : List Int) (l0 : FL) (y0 : s0.length ≤ x0) (z0 : x0 ≤ maxLen) (k0 : l0.length ≤ c0) (m0 : c0 ≤ maxLen) (w0 : Ints w 0 w.heap.size H0 s0 ∧ Facts w 0 w.heap.size A0 l0) (a1 : Int) (w1 : (Lit.int .i64 a1).wf = true) :
    Calls Try.prog 9 #[.agg #[.slice H0 s0.length x0, .slice A0 l0.length c0], .int .i64 a1] w fun e w' => e = .returned (.bool true) ∧ Below w.heap.size w w' := by
  unfold maxLen at z0 m0
  have hn := szF_nonneg l0
  have EQ := Lib.hid (show szQ s0 l0 = (s0.length : Int) + szF l0 from rfl)
  by_cases hb : 1048576 - szQ s0 l0 < 0
  · have I0 := Lib.hid (show RI w H0 s0 from w0.1)
    have F0 := Lib.hid (show RF w A0 l0 from w0.2)
    have W0 := Lib.hid w0
    clear w0
    go_enter Try.func9, Try.ntmps9
    go_wp2_with fail
    refine (szQuery_any H0 A0 x0 c0 s0 l0 1048576 (by omega) (by omega) (by omega) (by omega) _ (by first | exact F0.out | exact F0.out.step (below_drew _) | exact F0.out.step (below_alloc _ _) | exact F0.out.step (step (below_alloc _ _) (below_alloc _ _)))).mono ?_
    rintro e u1 ⟨he, d1⟩
    rw [szR_neg hb] at he
    subst he
    have X0 := Lib.hid (Box.of_new d1)
    have b1 : Below w.heap.size w u1 := by first | exact d1 | exact und d1 | exact undN d1 | exact below_new d1 | exact und (below_new d1) | exact below_new (und d1) | exact below_new (below_new d1) | exact step (below_drew _) (und (below_new d1))
    have I0' := Lib.hid (I0.out.step b1)
    clear I0
    have I0 := I0'
    clear I0'
    have F0' := Lib.hid (F0.out.step b1)
    clear F0
    have F0 := F0'
    clear F0'
    have T1 := b1
    have Z1 := b1.size
    have ga0 := X0.out.cell 0
    have ga1 := X0.out.cell 1
    simp only [List.getElem?_toArray, List.getElem?_cons_zero, List.getElem?_cons_succ] at ga0 ga1
    have gan := X0.out.lt
    go_wp2
    go_ret
    exact ⟨rfl, T1⟩
  · skip
    have hz : szQ s0 l0 ≤ 1048576 := by omega
    have hz0 : szF l0 ≤ 1048576 := by rw [EQ.out] at hz; omega
    have hl0 : s0.length ≤ 1048576 := by rw [EQ.out] at hz; omega
    have CS := Lib.hid fun (H A : Option Addr) (ch c : Nat) (w : World) (h : RI w H s0) (h' : RF w A l0) => (spec_DropAtom H A ch c s0 l0 a1 hl0 hz0 w h h').mono fun _ _ h => h.toQV
    have CI := Lib.hid fun (H A : Option Addr) (ch c : Nat) (w : World) (h : RI w H s0) (h' : RF w A l0) => (impl_DropAtom H A ch c s0 l0 a1 hl0 hz0 w h h').mono fun _ _ h => h.toQY
    have hr1 := szF_drop1 l0 a1
    have hr2 := szF_nonneg (dropL l0 a1)
    generalize dropL l0 a1 = res at hr1 hr2 CS CI
    have hrz : szF res ≤ 1048577 := by omega
    have hrq : szQ s0 res ≤ 1048576 := by unfold szQ; rw [EQ.out] at hz; omega
    have hrn : 0 ≤ szQ s0 res := by unfold szQ; omega
    have hnq : 0 ≤ szQ s0 l0 := by rw [EQ.out]; omega
    have hq2 : 0 ≤ 1048576 - szQ s0 l0 := by omega
    have I0 := Lib.hid (show RI w H0 s0 from w0.1)
    have F0 := Lib.hid (show RF w A0 l0 from w0.2)
    have W0 := Lib.hid w0
    clear w0
    go_enter Try.func9, Try.ntmps9
    go_wp2_with fail
    refine (szQuery_any H0 A0 x0 c0 s0 l0 1048576 (by omega) (by omega) (by omega) (by omega) _ (by first | exact F0.out | exact F0.out.step (below_drew _) | exact F0.out.step (below_alloc _ _) | exact F0.out.step (step (below_alloc _ _) (below_alloc _ _)))).mono ?_
    rintro e u1 ⟨he, d1⟩
    rw [szR_pos (show ¬ (1048576 - szQ s0 l0 < 0) by omega)] at he
    subst he
    have X0 := Lib.hid (Box.of_new d1)
    have b1 : Below w.heap.size w u1 := by first | exact d1 | exact und d1 | exact undN d1 | exact below_new d1 | exact und (below_new d1) | exact below_new (und d1) | exact below_new (below_new d1) | exact step (below_drew _) (und (below_new d1))
    have I0' := Lib.hid (I0.out.step b1)
    clear I0
    have I0 := I0'
    clear I0'
    have F0' := Lib.hid (F0.out.step b1)
    clear F0
    have F0 := F0'
    clear F0'
    have T1 := b1
    have Z1 := b1.size
    have ga0 := X0.out.cell 0
    have ga1 := X0.out.cell 1
    simp only [List.getElem?_toArray, List.getElem?_cons_zero, List.getElem?_cons_succ] at ga0 ga1
    have gan := X0.out.lt
    go_wp2_with fail
    refine (toQuery_r H0 A0 x0 c0 s0 l0 hl0 hz0 _ (by first | exact I0.out | exact I0.out.step (below_drew _) | exact I0.out.step (below_alloc _ _) | exact I0.out.step (step (below_alloc _ _) (below_alloc _ _))) (by first | exact F0.out | exact F0.out.step (below_drew _) | exact F0.out.step (below_alloc _ _) | exact F0.out.step (step (below_alloc _ _) (below_alloc _ _)))).mono ?_
    rintro e u2 ⟨rfl, r2, d2, z2⟩
    have b2 : Below u1.heap.size u1 u2 := by first | exact d2 | exact und d2 | exact undN d2 | exact below_new d2 | exact und (below_new d2) | exact below_new (und d2) | exact below_new (below_new d2) | exact step (below_drew _) (und (below_new d2))
    have I0' := Lib.hid (I0.out.step b2)
    clear I0
    have I0 := I0'
    clear I0'
    have F0' := Lib.hid (F0.out.step b2)
    clear F0
    have F0 := F0'
    clear F0'
    have X0' := Lib.hid (X0.out.step b2)
    clear X0
    have X0 := X0'
    clear X0'
    have T2 := step T1 b2
    have Z2 := b2.size
    try rw [al_size] at r2
    have Q2 := Lib.hid r2
    clear r2 z2
    go_wp2_with fail
    refine (CS.out _ _ _ _ _ (by first | exact Q2.out.ri | exact (Q2.out.step (below_drew _)).ri | exact (Q2.out.step (below_alloc _ _)).ri) (by first | exact Q2.out.rf | exact (Q2.out.step (below_drew _)).rf | exact (Q2.out.step (below_alloc _ _)).rf)).mono ?_
    rintro e u3 ⟨H3, A3, ch3, c3, rfl, r3, d3⟩
    have b3 : Below u2.heap.size u2 u3 := by first | exact d3 | exact und d3 | exact undN d3 | exact below_new d3 | exact und (below_new d3) | exact below_new (und d3) | exact below_new (below_new d3) | exact step (below_drew _) (und (below_new d3))
    have I0' := Lib.hid (I0.out.step b3)
    clear I0
    have I0 := I0'
    clear I0'
    have F0' := Lib.hid (F0.out.step b3)
    clear F0
    have F0 := F0'
    clear F0'
    have X0' := Lib.hid (X0.out.step b3)
    clear X0
    have X0 := X0'
    clear X0'
    have Q2' := Lib.hid (Q2.out.step b3)
    clear Q2
    have Q2 := Q2'
    clear Q2'
    have T3 := step T2 b3
    have Z3 := b3.size
    have V3 := Lib.hid r3
    clear r3
    have gb0 := X0.out.cell 0
    have gb1 := X0.out.cell 1
    simp only [List.getElem?_toArray, List.getElem?_cons_zero, List.getElem?_cons_succ] at gb0 gb1
    have gbn := X0.out.lt
    go_wp2_with fail
    refine (toQuery_r H0 A0 x0 c0 s0 l0 hl0 hz0 _ (by first | exact I0.out | exact I0.out.step (below_drew _) | exact I0.out.step (below_alloc _ _) | exact I0.out.step (step (below_alloc _ _) (below_alloc _ _))) (by first | exact F0.out | exact F0.out.step (below_drew _) | exact F0.out.step (below_alloc _ _) | exact F0.out.step (step (below_alloc _ _) (below_alloc _ _)))).mono ?_
    rintro e u4 ⟨rfl, r4, d4, z4⟩
    have Y6 := Lib.hid (Box.of_new d4)
    have b4 : Below u3.heap.size u3 u4 := by first | exact d4 | exact und d4 | exact undN d4 | exact below_new d4 | exact und (below_new d4) | exact below_new (und d4) | exact below_new (below_new d4) | exact step (below_drew _) (und (below_new d4))
    have I0' := Lib.hid (I0.out.step b4)
    clear I0
    have I0 := I0'
    clear I0'
    have F0' := Lib.hid (F0.out.step b4)
    clear F0
    have F0 := F0'
    clear F0'
    have X0' := Lib.hid (X0.out.step b4)
    clear X0
    have X0 := X0'
    clear X0'
    have V3' := Lib.hid (V3.out.step b4)
    clear V3
    have V3 := V3'
    clear V3'
    have T4 := step T3 b4
    have Z4 := b4.size
    rw [al_size] at r4 z4
    have Q4 := Lib.hid r4
    have y4 := z4
    clear r4 z4
    go_wp2_with fail
    refine (CI.out _ _ _ _ _ (by first | exact Q4.out.ri | exact (Q4.out.step (below_drew _)).ri | exact (Q4.out.step (below_alloc _ _)).ri) (by first | exact Q4.out.rf | exact (Q4.out.step (below_drew _)).rf | exact (Q4.out.step (below_alloc _ _)).rf)).mono ?_
    rintro e u5 ⟨H5, A5, ch5, c5, rfl, r5, d5⟩
    have Y7 := Lib.hid (Box.of_new d5)
    have b5 : Below u4.heap.size u4 u5 := by first | exact d5 | exact und d5 | exact undN d5 | exact below_new d5 | exact und (below_new d5) | exact below_new (und d5) | exact below_new (below_new d5) | exact step (below_drew _) (und (below_new d5))
    have I0' := Lib.hid (I0.out.step b5)
    clear I0
    have I0 := I0'
    clear I0'
    have F0' := Lib.hid (F0.out.step b5)
    clear F0
    have F0 := F0'
    clear F0'
    have X0' := Lib.hid (X0.out.step b5)
    clear X0
    have X0 := X0'
    clear X0'
    have V3' := Lib.hid (V3.out.step b5)
    clear V3
    have V3 := V3'
    clear V3'
    have Q4' := Lib.hid (Q4.out.step b5)
    clear Q4
    have Q4 := Q4'
    clear Q4'
    have Y6' := Lib.hid (Y6.out.step b5)
    clear Y6
    have Y6 := Y6'
    clear Y6'
    have T5 := step T4 b5
    have Z5 := b5.size
    rw [al_size] at r5
    have G5 := Lib.hid r5
    clear r5
    have gc0 := Y6.out.cell 0
    have gc1 := Y6.out.cell 1
    simp only [List.getElem?_toArray, List.getElem?_cons_zero, List.getElem?_cons_succ] at gc0 gc1
    have gcn := Y6.out.lt
    go_wp2_with fail
    refine (eqQuery_b _ _ _ _ _ _ _ _ s0 res hl0 hrz _ (by first | exact G5.out.ri | exact (G5.out.step (below_drew _)).ri | exact (G5.out.step (below_alloc _ _)).ri) (by first | exact G5.out.rf | exact (G5.out.step (below_drew _)).rf | exact (G5.out.step (below_alloc _ _)).rf) (by first | exact V3.out.ri | exact (V3.out.step (below_drew _)).ri | exact (V3.out.step (below_alloc _ _)).ri) (by first | exact V3.out.rf | exact (V3.out.step (below_drew _)).rf | exact (V3.out.step (below_alloc _ _)).rf)).mono ?_
    rintro e u6 ⟨rfl, d6⟩
    have Y8 := Lib.hid (Box.of_new d6)
    have b6 : Below u5.heap.size u5 u6 := by first | exact d6 | exact und d6 | exact undN d6 | exact below_new d6 | exact und (below_new d6) | exact below_new (und d6) | exact below_new (below_new d6) | exact step (below_drew _) (und (below_new d6))
    have I0' := Lib.hid (I0.out.step b6)
    clear I0
    have I0 := I0'
    clear I0'
    have F0' := Lib.hid (F0.out.step b6)
    clear F0
    have F0 := F0'
    clear F0'
    have X0' := Lib.hid (X0.out.step b6)
    clear X0
    have X0 := X0'
    clear X0'
    have V3' := Lib.hid (V3.out.step b6)
    clear V3
    have V3 := V3'
    clear V3'
    have Q4' := Lib.hid (Q4.out.step b6)
    clear Q4
    have Q4 := Q4'
    clear Q4'
    have Y6' := Lib.hid (Y6.out.step b6)
    clear Y6
    have Y6 := Y6'
    clear Y6'
    have G5' := Lib.hid (G5.out.step b6)
    clear G5
    have G5 := G5'
    clear G5'
    have Y7' := Lib.hid (Y7.out.step b6)
    clear Y7
    have Y7 := Y7'
    clear Y7'
    have T6 := step T5 b6
    have Z6 := b6.size
    have gd0 := X0.out.cell 0
    have gd1 := X0.out.cell 1
    simp only [List.getElem?_toArray, List.getElem?_cons_zero, List.getElem?_cons_succ] at gd0 gd1
    have gdn := X0.out.lt
    have ge0 := Y7.out.cell 0
    have ge1 := Y7.out.cell 1
    simp only [List.getElem?_toArray, List.getElem?_cons_zero, List.getElem?_cons_succ] at ge0 ge1
    have gen := Y7.out.lt
    have tok7 : True := trivial
    have tok8 : True := trivial
    go_wp2_with fail
    go_region_held3 (fun w' => w'.cell? ⟨w.heap.size, 0, none⟩ = some (.slice H0 s0.length x0) ∧ w'.cell? ⟨w.heap.size, 1, none⟩ = some (.slice A0 l0.length c0) ∧ w'.cell? ⟨u4.heap.size, 0, none⟩ = some (.slice (some ⟨u3.heap.size + 1 + 3, 0, none⟩) s0.length s0.length) ∧ w'.cell? ⟨u4.heap.size, 1, none⟩ = some (.slice (some ⟨u3.heap.size + 1 + 3 + 1, 0, none⟩) l0.length l0.length))
      (first
        | go_keep
        | (go_split_ands; refine ⟨?_, ?_, ?_, ?_⟩ <;> (rw [d7.cell (by (try simp) <;> omega)]; assumption))
        | (go_split_ands; refine ⟨?_, ?_, ?_, ?_⟩ <;> (rw [d8.cell (by (try simp) <;> omega)]; assumption)))
      (first
        | (go_at_call 12
           clear tok7
           refine (toQuery_r H0 A0 x0 c0 s0 l0 hl0 hz0 _ (by first | exact I0.out | exact I0.out.step (below_drew _) | exact I0.out.step (below_alloc _ _) | exact I0.out.step (step (below_alloc _ _) (below_alloc _ _))) (by first | exact F0.out | exact F0.out.step (below_drew _) | exact F0.out.step (below_alloc _ _) | exact F0.out.step (step (below_alloc _ _) (below_alloc _ _)))).mono ?_
           rintro e u7 ⟨rfl, r7, d7, z7⟩
           have b7 : Below u6.heap.size u6 u7 := by first | exact d7 | exact und d7 | exact undN d7 | exact below_new d7 | exact und (below_new d7) | exact below_new (und d7) | exact below_new (below_new d7) | exact step (below_drew _) (und (below_new d7))
           have I0' := Lib.hid (I0.out.step b7)
           clear I0
           have I0 := I0'
           clear I0'
           have F0' := Lib.hid (F0.out.step b7)
           clear F0
           have F0 := F0'
           clear F0'
           have X0' := Lib.hid (X0.out.step b7)
           clear X0
           have X0 := X0'
           clear X0'
           have V3' := Lib.hid (V3.out.step b7)
           clear V3
           have V3 := V3'
           clear V3'
           have Q4' := Lib.hid (Q4.out.step b7)
           clear Q4
           have Q4 := Q4'
           clear Q4'
           have Y6' := Lib.hid (Y6.out.step b7)
           clear Y6
           have Y6 := Y6'
           clear Y6'
           have G5' := Lib.hid (G5.out.step b7)
           clear G5
           have G5 := G5'
           clear G5'
           have Y7' := Lib.hid (Y7.out.step b7)
           clear Y7
           have Y7 := Y7'
           clear Y7'
           have Y8' := Lib.hid (Y8.out.step b7)
           clear Y8
           have Y8 := Y8'
           clear Y8'
           have T7 := step T6 b7
           have Z7 := b7.size
           have Q7 := Lib.hid r7
           clear r7 z7)
        | (go_at_call 16
           clear tok8
           refine (eqQuery_b _ _ _ _ _ _ _ _ s0 l0 hl0 (by omega) _ (by first | exact Q4.out.ri | exact (Q4.out.step (below_drew _)).ri | exact (Q4.out.step (below_alloc _ _)).ri) (by first | exact Q4.out.rf | exact (Q4.out.step (below_drew _)).rf | exact (Q4.out.step (below_alloc _ _)).rf) (by first | exact Q7.out.ri | exact (Q7.out.step (below_drew _)).ri | exact (Q7.out.step (below_alloc _ _)).ri) (by first | exact Q7.out.rf | exact (Q7.out.step (below_drew _)).rf | exact (Q7.out.step (below_alloc _ _)).rf)).mono ?_
           rintro e u8 ⟨rfl, d8⟩
           have b8 : Below u7.heap.size u7 u8 := by first | exact d8 | exact und d8 | exact undN d8 | exact below_new d8 | exact und (below_new d8) | exact below_new (und d8) | exact below_new (below_new d8) | exact step (below_drew _) (und (below_new d8))
           have I0' := Lib.hid (I0.out.step b8)
           clear I0
           have I0 := I0'
           clear I0'
           have F0' := Lib.hid (F0.out.step b8)
           clear F0
           have F0 := F0'
           clear F0'
           have X0' := Lib.hid (X0.out.step b8)
           clear X0
           have X0 := X0'
           clear X0'
           have V3' := Lib.hid (V3.out.step b8)
           clear V3
           have V3 := V3'
           clear V3'
           have Q4' := Lib.hid (Q4.out.step b8)
           clear Q4
           have Q4 := Q4'
           clear Q4'
           have Y6' := Lib.hid (Y6.out.step b8)
           clear Y6
           have Y6 := Y6'
           clear Y6'
           have G5' := Lib.hid (G5.out.step b8)
           clear G5
           have G5 := G5'
           clear G5'
           have Y7' := Lib.hid (Y7.out.step b8)
           clear Y7
           have Y7 := Y7'
           clear Y7'
           have Y8' := Lib.hid (Y8.out.step b8)
           clear Y8
           have Y8 := Y8'
           clear Y8'
           have Q7' := Lib.hid (Q7.out.step b8)
           clear Q7
           have Q7 := Q7'
           clear Q7'
           have T8 := step T7 b8
           have Z8 := b8.size))
    have gf0 := Y7.out.cell 0
    have gf1 := Y7.out.cell 1
    simp only [List.getElem?_toArray, List.getElem?_cons_zero, List.getElem?_cons_succ] at gf0 gf1
    have gfn := Y7.out.lt
    have q4 := Q4.out.lt
    have v3 := V3.out.2.2
    have g5 := G5.out.rng
    have y6 := Y6.out.lt
    have y8 := Y8.out.lt
    have x0h := X0.out.lt
    go_wp2_with fail
    refine (markQuery_o (u3.heap.size + 1 + 3) (u3.heap.size + 1 + 3 + 1) u4.heap.size _ _ _ _ s0 l0 1 (by omega) (by omega) hz _ (by first | exact Q4.out.qo hl0 | exact (Q4.out.step (below_drew _)).qo hl0)).mono ?_
    rintro e v1 ⟨rfl, M1, _⟩
    have sv1 : u8.heap.size ≤ v1.heap.size := M1.below.size
    have V3a := Lib.hid (V3.out.keep (w' := v1) (fun b h2 => M1.keep (.inl (by omega)) (by omega)) sv1)
    have G5a := Lib.hid (G5.out.keep (w' := v1) (fun b h1 h2 => M1.keep (.inr (by omega)) (by omega)) sv1)
    have X0a := Lib.hid (show Box v1 w.heap.size _ _ from (M1.keep (.inl (by omega)) X0.out.lt).trans X0.out)
    have Y6a := Lib.hid (show Box v1 u3.heap.size _ _ from (M1.keep (.inl (by omega)) Y6.out.lt).trans Y6.out)
    have Y8a := Lib.hid (show Box v1 u5.heap.size _ _ from (M1.keep (.inr (by omega)) Y8.out.lt).trans Y8.out)
    have TA := Lib.hid (T8.trans (M1.below.mono (by omega)))
    clear M1 V3 G5 X0 Q4 Y6 Y7 Y8
    have ha0 := Y6a.out.cell 0
    have ha1 := Y6a.out.cell 1
    simp only [List.getElem?_toArray, List.getElem?_cons_zero, List.getElem?_cons_succ] at ha0 ha1
    have han := Y6a.out.lt
    have hb0 := Y8a.out.cell 0
    have hb1 := Y8a.out.cell 1
    simp only [List.getElem?_toArray, List.getElem?_cons_zero, List.getElem?_cons_succ] at hb0 hb1
    have hbn := Y8a.out.lt
    go_wp2_with fail
    refine (eqQuery_b _ _ _ _ _ _ _ _ s0 res hl0 hrz _ (by first | exact G5a.out.ri | exact (G5a.out.step (below_drew _)).ri | exact (G5a.out.step (below_alloc _ _)).ri) (by first | exact G5a.out.rf | exact (G5a.out.step (below_drew _)).rf | exact (G5a.out.step (below_alloc _ _)).rf) (by first | exact V3a.out.ri | exact (V3a.out.step (below_drew _)).ri | exact (V3a.out.step (below_alloc _ _)).ri) (by first | exact V3a.out.rf | exact (V3a.out.step (below_drew _)).rf | exact (V3a.out.step (below_alloc _ _)).rf)).mono ?_
    rintro e u21 ⟨rfl, d21⟩
    have b21 : Below v1.heap.size v1 u21 := by first | exact d21 | exact und d21 | exact undN d21 | exact below_new d21 | exact und (below_new d21) | exact below_new (und d21) | exact below_new (below_new d21) | exact step (below_drew _) (und (below_new d21))
    have V3a' := Lib.hid (V3a.out.step b21)
    clear V3a
    have V3a := V3a'
    clear V3a'
    have G5a' := Lib.hid (G5a.out.step b21)
    clear G5a
    have G5a := G5a'
    clear G5a'
    have X0a' := Lib.hid (X0a.out.step b21)
    clear X0a
    have X0a := X0a'
    clear X0a'
    have Y6a' := Lib.hid (Y6a.out.step b21)
    clear Y6a
    have Y6a := Y6a'
    clear Y6a'
    have Y8a' := Lib.hid (Y8a.out.step b21)
    clear Y8a
    have Y8a := Y8a'
    clear Y8a'
    have T21 := step TA.out b21
    have Z21 := b21.size
    have hc0 := Y8a.out.cell 0
    have hc1 := Y8a.out.cell 1
    simp only [List.getElem?_toArray, List.getElem?_cons_zero, List.getElem?_cons_succ] at hc0 hc1
    have hcn := Y8a.out.lt
    have g5b := G5a.out.rng
    go_wp2_with fail
    refine (markQuery_y (u4.heap.size + 1) u5.heap.size _ _ _ _ s0 res hrq _ (by first | exact G5a.out | exact G5a.out.step (below_drew _))).mono ?_
    rintro e v2 ⟨rfl, M2, N2⟩
    have sv2 : u21.heap.size ≤ v2.heap.size := M2.below.size
    have V3b := Lib.hid (V3a.out.keep (w' := v2) (fun b h2 => M2.keep (.inl (by omega)) (by omega)) sv2)
    have X0b := Lib.hid (show Box v2 w.heap.size _ _ from (M2.keep (.inl (by omega)) X0a.out.lt).trans X0a.out)
    have Y6b := Lib.hid (show Box v2 u3.heap.size _ _ from (M2.keep (.inl (by omega)) Y6a.out.lt).trans Y6a.out)
    have Y8b := Lib.hid (show Box v2 u5.heap.size _ _ from (M2.keep (.inr (by omega)) Y8a.out.lt).trans Y8a.out)
    have NN := Lib.hid N2
    have TB := Lib.hid (T21.trans (M2.below.mono (by omega)))
    have I0v := Lib.hid ((show RI w H0 s0 from W0.out.1).step TB.out)
    have F0v := Lib.hid ((show RF w A0 l0 from W0.out.2).step TB.out)
    have hm2 : 0 ≤ 1 + szQ s0 res := by omega
    clear M2 N2 V3a G5a X0a Y6a Y8a TA
    have ia0 := Y8b.out.cell 0
    have ia1 := Y8b.out.cell 1
    simp only [List.getElem?_toArray, List.getElem?_cons_zero, List.getElem?_cons_succ] at ia0 ia1
    have ian := Y8b.out.lt
    go_wp2_with fail
    refine (heldQuery_o _ _ _ _ s0 res 1 (by omega) (by omega) hrq _ (by first | exact NN.out.ri | exact (NN.out.step (below_drew _)).ri | exact (NN.out.step (below_alloc _ _)).ri) (by first | exact NN.out.rf | exact (NN.out.step (below_drew _)).rf | exact (NN.out.step (below_alloc _ _)).rf)).mono ?_
    rintro e u31 ⟨rfl, d31⟩
    have b31 : Below v2.heap.size v2 u31 := by first | exact d31 | exact und d31 | exact undN d31 | exact below_new d31 | exact und (below_new d31) | exact below_new (und d31) | exact below_new (below_new d31) | exact step (below_drew _) (und (below_new d31))
    have V3b' := Lib.hid (V3b.out.step b31)
    clear V3b
    have V3b := V3b'
    clear V3b'
    have X0b' := Lib.hid (X0b.out.step b31)
    clear X0b
    have X0b := X0b'
    clear X0b'
    have Y6b' := Lib.hid (Y6b.out.step b31)
    clear Y6b
    have Y6b := Y6b'
    clear Y6b'
    have Y8b' := Lib.hid (Y8b.out.step b31)
    clear Y8b
    have Y8b := Y8b'
    clear Y8b'
    have NN' := Lib.hid (NN.out.step b31)
    clear NN
    have NN := NN'
    clear NN'
    have I0v' := Lib.hid (I0v.out.step b31)
    clear I0v
    have I0v := I0v'
    clear I0v'
    have F0v' := Lib.hid (F0v.out.step b31)
    clear F0v
    have F0v := F0v'
    clear F0v'
    have T31 := step TB.out b31
    have Z31 := b31.size
    have ib0 := X0b.out.cell 0
    have ib1 := X0b.out.cell 1
    simp only [List.getElem?_toArray, List.getElem?_cons_zero, List.getElem?_cons_succ] at ib0 ib1
    have ibn := X0b.out.lt
    go_wp2_with fail
    refine (toQuery_r H0 A0 x0 c0 s0 l0 hl0 hz0 _ (by first | exact I0v.out | exact I0v.out.step (below_drew _) | exact I0v.out.step (below_alloc _ _) | exact I0v.out.step (step (below_alloc _ _) (below_alloc _ _))) (by first | exact F0v.out | exact F0v.out.step (below_drew _) | exact F0v.out.step (below_alloc _ _) | exact F0v.out.step (step (below_alloc _ _) (below_alloc _ _)))).mono ?_
    rintro e u32 ⟨rfl, r32, d32, z32⟩
    have b32 : Below u31.heap.size u31 u32 := by first | exact d32 | exact und d32 | exact undN d32 | exact below_new d32 | exact und (below_new d32) | exact below_new (und d32) | exact below_new (below_new d32) | exact step (below_drew _) (und (below_new d32))
    have V3b' := Lib.hid (V3b.out.step b32)
    clear V3b
    have V3b := V3b'
    clear V3b'
    have X0b' := Lib.hid (X0b.out.step b32)
    clear X0b
    have X0b := X0b'
    clear X0b'
    have Y6b' := Lib.hid (Y6b.out.step b32)
    clear Y6b
    have Y6b := Y6b'
    clear Y6b'
    have Y8b' := Lib.hid (Y8b.out.step b32)
    clear Y8b
    have Y8b := Y8b'
    clear Y8b'
    have NN' := Lib.hid (NN.out.step b32)
    clear NN
    have NN := NN'
    clear NN'
    have I0v' := Lib.hid (I0v.out.step b32)
    clear I0v
    have I0v := I0v'
    clear I0v'
    have F0v' := Lib.hid (F0v.out.step b32)
    clear F0v
    have F0v := F0v'
    clear F0v'
    have T32 := step T31 b32
    have Z32 := b32.size
    try rw [al_size] at r32
    have Q32 := Lib.hid r32
    clear r32 z32
    go_wp2_with fail
    refine (CI.out _ _ _ _ _ (by first | exact Q32.out.ri | exact (Q32.out.step (below_drew _)).ri | exact (Q32.out.step (below_alloc _ _)).ri) (by first | exact Q32.out.rf | exact (Q32.out.step (below_drew _)).rf | exact (Q32.out.step (below_alloc _ _)).rf)).mono ?_
    rintro e u33 ⟨H33, A33, ch33, c33, rfl, r33, d33⟩
    have b33 : Below u32.heap.size u32 u33 := by first | exact d33 | exact und d33 | exact undN d33 | exact below_new d33 | exact und (below_new d33) | exact below_new (und d33) | exact below_new (below_new d33) | exact step (below_drew _) (und (below_new d33))
    have V3b' := Lib.hid (V3b.out.step b33)
    clear V3b
    have V3b := V3b'
    clear V3b'
    have X0b' := Lib.hid (X0b.out.step b33)
    clear X0b
    have X0b := X0b'
    clear X0b'
    have Y6b' := Lib.hid (Y6b.out.step b33)
    clear Y6b
    have Y6b := Y6b'
    clear Y6b'
    have Y8b' := Lib.hid (Y8b.out.step b33)
    clear Y8b
    have Y8b := Y8b'
    clear Y8b'
    have NN' := Lib.hid (NN.out.step b33)
    clear NN
    have NN := NN'
    clear NN'
    have I0v' := Lib.hid (I0v.out.step b33)
    clear I0v
    have I0v := I0v'
    clear I0v'
    have F0v' := Lib.hid (F0v.out.step b33)
    clear F0v
    have F0v := F0v'
    clear F0v'
    have Q32' := Lib.hid (Q32.out.step b33)
    clear Q32
    have Q32 := Q32'
    clear Q32'
    have T33 := step T32 b33
    have Z33 := b33.size
    have G33 := Lib.hid r33
    clear r33
    have ic0 := Y6b.out.cell 0
    have ic1 := Y6b.out.cell 1
    simp only [List.getElem?_toArray, List.getElem?_cons_zero, List.getElem?_cons_succ] at ic0 ic1
    have icn := Y6b.out.lt
    go_wp2_with fail
    refine (eqQuery_b _ _ _ _ _ _ _ _ s0 res hl0 hrz _ (by first | exact G33.out.ri | exact (G33.out.step (below_drew _)).ri | exact (G33.out.step (below_alloc _ _)).ri) (by first | exact G33.out.rf | exact (G33.out.step (below_drew _)).rf | exact (G33.out.step (below_alloc _ _)).rf) (by first | exact V3b.out.ri | exact (V3b.out.step (below_drew _)).ri | exact (V3b.out.step (below_alloc _ _)).ri) (by first | exact V3b.out.rf | exact (V3b.out.step (below_drew _)).rf | exact (V3b.out.step (below_alloc _ _)).rf)).mono ?_
    rintro e u34 ⟨rfl, d34⟩
    have b34 : Below u33.heap.size u33 u34 := by first | exact d34 | exact und d34 | exact undN d34 | exact below_new d34 | exact und (below_new d34) | exact below_new (und d34) | exact below_new (below_new d34) | exact step (below_drew _) (und (below_new d34))
    have V3b' := Lib.hid (V3b.out.step b34)
    clear V3b
    have V3b := V3b'
    clear V3b'
    have X0b' := Lib.hid (X0b.out.step b34)
    clear X0b
    have X0b := X0b'
    clear X0b'
    have Y6b' := Lib.hid (Y6b.out.step b34)
    clear Y6b
    have Y6b := Y6b'
    clear Y6b'
    have Y8b' := Lib.hid (Y8b.out.step b34)
    clear Y8b
    have Y8b := Y8b'
    clear Y8b'
    have NN' := Lib.hid (NN.out.step b34)
    clear NN
    have NN := NN'
    clear NN'
    have I0v' := Lib.hid (I0v.out.step b34)
    clear I0v
    have I0v := I0v'
    clear I0v'
    have F0v' := Lib.hid (F0v.out.step b34)
    clear F0v
    have F0v := F0v'
    clear F0v'
    have Q32' := Lib.hid (Q32.out.step b34)
    clear Q32
    have Q32 := Q32'
    clear Q32'
    have G33' := Lib.hid (G33.out.step b34)
    clear G33
    have G33 := G33'
    clear G33'
    have T34 := step T33 b34
    have Z34 := b34.size
    have id0 := Y8b.out.cell 0
    have id1 := Y8b.out.cell 1
    simp only [List.getElem?_toArray, List.getElem?_cons_zero, List.getElem?_cons_succ] at id0 id1
    have idn := Y8b.out.lt
    go_wp2_with fail
    refine (heldQuery_o _ _ _ _ s0 res 1 (by omega) (by omega) hrq _ (by first | exact NN.out.ri | exact (NN.out.step (below_drew _)).ri | exact (NN.out.step (below_alloc _ _)).ri) (by first | exact NN.out.rf | exact (NN.out.step (below_drew _)).rf | exact (NN.out.step (below_alloc _ _)).rf)).mono ?_
    rintro e u35 ⟨rfl, d35⟩
    have b35 : Below u34.heap.size u34 u35 := by first | exact d35 | exact und d35 | exact undN d35 | exact below_new d35 | exact und (below_new d35) | exact below_new (und d35) | exact below_new (below_new d35) | exact step (below_drew _) (und (below_new d35))
    have X0b' := Lib.hid (X0b.out.step b35)
    clear X0b
    have X0b := X0b'
    clear X0b'
    have Y6b' := Lib.hid (Y6b.out.step b35)
    clear Y6b
    have Y6b := Y6b'
    clear Y6b'
    have Y8b' := Lib.hid (Y8b.out.step b35)
    clear Y8b
    have Y8b := Y8b'
    clear Y8b'
    have NN' := Lib.hid (NN.out.step b35)
    clear NN
    have NN := NN'
    clear NN'
    have I0v' := Lib.hid (I0v.out.step b35)
    clear I0v
    have I0v := I0v'
    clear I0v'
    have F0v' := Lib.hid (F0v.out.step b35)
    clear F0v
    have F0v := F0v'
    clear F0v'
    have Q32' := Lib.hid (Q32.out.step b35)
    clear Q32
    have Q32 := Q32'
    clear Q32'
    have T35 := step T34 b35
    have Z35 := b35.size
    go_wp2
    go_ret
    exact ⟨rfl, T35⟩

set_option maxRecDepth 100000 in
theorem lifted (os : Os) (started : os.Started) (H : Type) (enc : TypeId × Value → H) :
    ReturnsInHanded {} Try.checked os 9 .any (Rows.fnExactDropAtomSpec.pre6 enc Try.prog Try.f9 Rows.fnExactDropAtomRow.domain false) (Rows.fnExactDropAtomSpec.post enc Try.prog Try.f9 false true false false) := by
  refine returnsInHanded_of_change (C := Try.checked) own started (by kernel_rfl) Try.func9
    (ChangeSpec.witness6 (enc := enc) (C := Try.checked) false ⟨#[], #[.agg #[.slice none 0 0, .slice none 0 0], .int .i64 0], []⟩ 8 (by kernel_rfl) (by kernel_rfl) (by kernel_rfl) (by kernel_rfl)) ?_
  intro W base args ds gs before hval0 hW hcnd _
  have hval : ∀ (j : Nat) t v, Try.f9.params[j]? = some t → args[j]? = some v → Value.okWide Try.prog W .any base t v := hval0
  have hpost := fun (W' : World) (hfn : Rows.fnExactDropAtomSpec.fn H (ds ++ gs) = { results := [.lit (.bool true)], args := ds }) (hb : Below W.heap.size W W') => law_post (enc := enc) laidOut (f := Try.f9) (s := Rows.fnExactDropAtomSpec) (args := args) rfl rfl Try.underlying4 (by intro t ht; rw [Try.params9] at ht; simp at ht; rcases ht with rfl | rfl <;> exact ⟨by kernel_rfl, of_decide_eq_true (by kernel_rfl)⟩) hW hfn hb
  obtain ⟨p, q, hA0, hV, rfl, hfz, hnd⟩ := hW
  have hA : DataW.TrodAll enc Try.prog W 0 (fun _ => true) true Try.f9.params.toList args.toList ds p := hA0
  rw [Try.params9] at hA hval
  obtain ⟨v0, vs0, d0, ds0, p0, q0, hargs, rfl, rfl, h0, r0⟩ := trodAll_cons hA
  obtain ⟨v1, vs1, d1, ds1, p1, q1, rfl, rfl, rfl, h1, r1⟩ := trodAll_cons r0
  obtain ⟨rfl, rfl, rfl⟩ := trodAll_nil r1
  obtain rfl : args = #[v0, v1] := by cases args; simp_all
  obtain ⟨rfl, rfl⟩ := trodVars_none hV
  obtain ⟨H0, A0, x0, c0, s0, l0, rfl, y0, z0, k0, m0, w0⟩ := open_queryT (hval 0 25 v0 rfl rfl) h0
  obtain ⟨a1, rfl, rfl, rfl, w1⟩ := open_int Try.underlying3 (hval 1 3 v1 rfl rfl) h1
  refine (walk W H0 A0 x0 c0 s0 l0 y0 z0 k0 m0 w0 a1 w1).mono fun e W' ⟨he, hg⟩ => ?_
  subst he
  exact ⟨_, rfl, hpost W' rfl hg⟩

theorem over : Rows.fnExactDropAtomRow.holds Try.pinned (OpenSpec.ofChange Rows.fnExactDropAtomSpec) :=
  OpenClaim.holds_of_wide 9 Try.f9 rfl rfl rfl rfl rfl rfl rfl ⟨rfl, rfl, rfl, rfl, rfl⟩ rfl rfl rfl rfl rfl (by kernel_rfl) Try.func9 (by kernel_rfl)
    (of_decide_eq_true (by kernel_rfl)) (by unfold Func.isWrapper; first | (rw [if_pos (by decide +kernel)]; kernel_rfl) | (rw [if_neg (by decide +kernel)]; exact ⟨rfl, rfl⟩))
    (fun os started H enc _ => lifted os started H enc)
end Go.Proofs.Ytpdmkdhnidgjoaa.fnExactDropAtom
namespace Go.Proofs.Ytpdmkdhnidgjoaa
theorem fnExactDropAtom_holds : Rows.FnExactDropAtomSaid := fnExactDropAtom.over
#print axioms fnExactDropAtom_holds
end Go.Proofs.Ytpdmkdhnidgjoaa
