/- impl.VarsOf answers as its model at every argument: the law FnExactVarsOf returns true. Conditions: none beyond the statement's own. -/
import Derived.Test.YthhoccpdgnmhcaaQL
namespace Go.Proofs.Ythhoccpdgnmhcaa.fnExactVarsOf
open Go.ChangeShapes Go.WideShapes Go.ChangeAt Go.RowKit
open Go.ChangeMaps (open_string shut_string)
set_option linter.unusedVariables false
set_option linter.unusedSimpArgs false
open Go.Proofs.Ythhoccpdgnmhcaa.atom
set_option maxRecDepth 100000 in
set_option maxHeartbeats 1000000 in
theorem walk (w : World) (H0 A0 : Option Addr) (x0 c0 : Nat) (s0 : List Int) (l0 : FL) (y0 : s0.length ≤ x0) (z0 : x0 ≤ maxLen) (k0 : l0.length ≤ c0) (m0 : c0 ≤ maxLen) (w0 : Ints w 0 w.heap.size H0 s0 ∧ Facts w 0 w.heap.size A0 l0) :
    Calls Try.prog 9 #[.agg #[.slice H0 s0.length x0, .slice A0 l0.length c0]] w fun e w' => e = .returned (.bool true) ∧ Below w.heap.size w w' := by
  unfold maxLen at z0 m0
  have hn := szF_nonneg l0
  have EQ := Lib.hid (show szQ s0 l0 = (s0.length : Int) + szF l0 from rfl)
  by_cases hb : 1048576 - szQ s0 l0 < 0
  · have I0 := Lib.hid (show RI w H0 s0 from w0.1)
    have F0 := Lib.hid (show RF w A0 l0 from w0.2)
    have W0 := Lib.hid w0
    clear w0
    go_enter Try.func9, Try.ntmps9
    go_wp2_with fail
    refine (szQuery_any H0 A0 x0 c0 s0 l0 1048576 (by omega) (by omega) (by omega) (by omega) _ (by first | exact F0.out | exact F0.out.step (below_drew _) | exact F0.out.step (below_alloc _ _))).mono ?_
    rintro e u1 ⟨he, d1⟩
    rw [szR_neg hb] at he
    subst he
    have X0 := Lib.hid (Box.of_new d1)
    have b1 : Below w.heap.size w u1 := by first | exact d1 | exact und d1 | exact undN d1 | exact below_new d1 | exact und (below_new d1) | exact below_new (und d1) | exact below_new (below_new d1) | exact step (below_drew _) (und (below_new d1))
    have I0' := Lib.hid (I0.out.step b1)
    clear I0
    have I0 := I0'
    clear I0'
    have F0' := Lib.hid (F0.out.step b1)
    clear F0
    have F0 := F0'
    clear F0'
    have T1 := b1
    have Z1 := b1.size
    have ga0 := X0.out.cell 0
    have ga1 := X0.out.cell 1
    simp only [List.getElem?_toArray, List.getElem?_cons_zero, List.getElem?_cons_succ] at ga0 ga1
    have gan := X0.out.lt
    go_wp2
    go_ret
    exact ⟨rfl, T1⟩
  · skip
    have hb' : ¬ 1048576 - szQ s0 l0 < 0 := hb
    have hz : szQ s0 l0 ≤ 1048576 := by omega
    have hz0 : szF l0 ≤ 1048576 := by rw [EQ.out] at hz; omega
    have hl0 : s0.length ≤ 1048576 := by rw [EQ.out] at hz; omega
    have CS := Lib.hid fun (H A : Option Addr) (ch c : Nat) (w : World) (h : RF w A l0) => (spec_VarsOf H A ch c s0 l0 hz0 w h).mono fun _ _ h => h.toV
    have CI := Lib.hid fun (H A : Option Addr) (ch c : Nat) (w : World) (h : RF w A l0) => (impl_VarsOf H A ch c s0 l0 hz0 w h).mono fun _ _ h => h.toG
    have hv : (wl 10 17 (terms l0)).length ≤ 1048576 := by have := wl_len 10 17 (terms l0); omega
    generalize wl 10 17 (terms l0) = vs at CS CI hv
    have hv2 : (vs.length : Int) ≤ 1048576 := by omega
    have hq1 : 0 ≤ 1 + szQ s0 l0 := by rw [EQ.out]; omega
    have hq2 : 0 ≤ 1048576 - szQ s0 l0 := by omega
    have I0 := Lib.hid (show RI w H0 s0 from w0.1)
    have F0 := Lib.hid (show RF w A0 l0 from w0.2)
    have W0 := Lib.hid w0
    clear w0
    go_enter Try.func9, Try.ntmps9
    go_wp2_with fail
    refine (szQuery_any H0 A0 x0 c0 s0 l0 1048576 (by omega) (by omega) (by omega) (by omega) _ (by first | exact F0.out | exact F0.out.step (below_drew _) | exact F0.out.step (below_alloc _ _))).mono ?_
    rintro e u1 ⟨he, d1⟩
    rw [szR_pos (show ¬ (1048576 - szQ s0 l0 < 0) by omega)] at he
    subst he
    have X0 := Lib.hid (Box.of_new d1)
    have b1 : Below w.heap.size w u1 := by first | exact d1 | exact und d1 | exact undN d1 | exact below_new d1 | exact und (below_new d1) | exact below_new (und d1) | exact below_new (below_new d1) | exact step (below_drew _) (und (below_new d1))
    have I0' := Lib.hid (I0.out.step b1)
    clear I0
    have I0 := I0'
    clear I0'
    have F0' := Lib.hid (F0.out.step b1)
    clear F0
    have F0 := F0'
    clear F0'
    have T1 := b1
    have Z1 := b1.size
    have ga0 := X0.out.cell 0
    have ga1 := X0.out.cell 1
    simp only [List.getElem?_toArray, List.getElem?_cons_zero, List.getElem?_cons_succ] at ga0 ga1
    have gan := X0.out.lt
    go_wp2_with fail
    refine (toQuery_r H0 A0 x0 c0 s0 l0 hl0 hz0 _ (by first | exact I0.out | exact I0.out.step (below_drew _) | exact I0.out.step (below_alloc _ _)) (by first | exact F0.out | exact F0.out.step (below_drew _) | exact F0.out.step (below_alloc _ _))).mono ?_
    rintro e u2 ⟨rfl, r2, d2, z2⟩
    have b2 : Below u1.heap.size u1 u2 := by first | exact d2 | exact und d2 | exact undN d2 | exact below_new d2 | exact und (below_new d2) | exact below_new (und d2) | exact below_new (below_new d2) | exact step (below_drew _) (und (below_new d2))
    have I0' := Lib.hid (I0.out.step b2)
    clear I0
    have I0 := I0'
    clear I0'
    have F0' := Lib.hid (F0.out.step b2)
    clear F0
    have F0 := F0'
    clear F0'
    have X0' := Lib.hid (X0.out.step b2)
    clear X0
    have X0 := X0'
    clear X0'
    have T2 := step T1 b2
    have Z2 := b2.size
    have Q2 := Lib.hid r2
    have y2 := z2
    clear r2 z2
    have gb0 := X0.out.cell 0
    have gb1 := X0.out.cell 1
    simp only [List.getElem?_toArray, List.getElem?_cons_zero, List.getElem?_cons_succ] at gb0 gb1
    have gbn := X0.out.lt
    go_wp2_with fail
    refine (CS.out _ _ _ _ _ (by first | exact Q2.out.rf | exact (Q2.out.step (below_drew _)).rf | exact (Q2.out.step (below_alloc _ _)).rf)).mono ?_
    rintro e u3 ⟨A3, c3, rfl, r3, d3⟩
    have b3 : Below u2.heap.size u2 u3 := by first | exact d3 | exact und d3 | exact undN d3 | exact below_new d3 | exact und (below_new d3) | exact below_new (und d3) | exact below_new (below_new d3) | exact step (below_drew _) (und (below_new d3))
    have I0' := Lib.hid (I0.out.step b3)
    clear I0
    have I0 := I0'
    clear I0'
    have F0' := Lib.hid (F0.out.step b3)
    clear F0
    have F0 := F0'
    clear F0'
    have X0' := Lib.hid (X0.out.step b3)
    clear X0
    have X0 := X0'
    clear X0'
    have Q2' := Lib.hid (Q2.out.step b3)
    clear Q2
    have Q2 := Q2'
    clear Q2'
    have T3 := step T2 b3
    have Z3 := b3.size
    have V3 := Lib.hid r3
    clear r3
    have gc0 := X0.out.cell 0
    have gc1 := X0.out.cell 1
    simp only [List.getElem?_toArray, List.getElem?_cons_zero, List.getElem?_cons_succ] at gc0 gc1
    have gcn := X0.out.lt
    go_wp2_with fail
    refine (toQuery_r H0 A0 x0 c0 s0 l0 hl0 hz0 _ (by first | exact I0.out | exact I0.out.step (below_drew _) | exact I0.out.step (below_alloc _ _)) (by first | exact F0.out | exact F0.out.step (below_drew _) | exact F0.out.step (below_alloc _ _))).mono ?_
    rintro e u4 ⟨rfl, r4, d4, z4⟩
    have b4 : Below u3.heap.size u3 u4 := by first | exact d4 | exact und d4 | exact undN d4 | exact below_new d4 | exact und (below_new d4) | exact below_new (und d4) | exact below_new (below_new d4) | exact step (below_drew _) (und (below_new d4))
    have I0' := Lib.hid (I0.out.step b4)
    clear I0
    have I0 := I0'
    clear I0'
    have F0' := Lib.hid (F0.out.step b4)
    clear F0
    have F0 := F0'
    clear F0'
    have X0' := Lib.hid (X0.out.step b4)
    clear X0
    have X0 := X0'
    clear X0'
    have V3' := Lib.hid (V3.out.step b4)
    clear V3
    have V3 := V3'
    clear V3'
    have T4 := step T3 b4
    have Z4 := b4.size
    have Q4 := Lib.hid r4
    have y4 := z4
    clear r4 z4
    go_wp2_with fail
    refine (CI.out _ _ _ _ _ (by first | exact Q4.out.rf | exact (Q4.out.step (below_drew _)).rf | exact (Q4.out.step (below_alloc _ _)).rf)).mono ?_
    rintro e u5 ⟨A5, c5, rfl, r5, d5⟩
    have Y0 := Lib.hid (Box.of_new d5)
    have b5 : Below u4.heap.size u4 u5 := by first | exact d5 | exact und d5 | exact undN d5 | exact below_new d5 | exact und (below_new d5) | exact below_new (und d5) | exact below_new (below_new d5) | exact step (below_drew _) (und (below_new d5))
    have I0' := Lib.hid (I0.out.step b5)
    clear I0
    have I0 := I0'
    clear I0'
    have F0' := Lib.hid (F0.out.step b5)
    clear F0
    have F0 := F0'
    clear F0'
    have X0' := Lib.hid (X0.out.step b5)
    clear X0
    have X0 := X0'
    clear X0'
    have V3' := Lib.hid (V3.out.step b5)
    clear V3
    have V3 := V3'
    clear V3'
    have Q4' := Lib.hid (Q4.out.step b5)
    clear Q4
    have Q4 := Q4'
    clear Q4'
    have T5 := step T4 b5
    have Z5 := b5.size
    rw [al_size] at r5
    have G5 := Lib.hid r5
    clear r5
    go_wp2_with fail
    refine (eqIntS_r _ _ _ _ vs hv _ (by first | exact G5.out.ri | exact (G5.out.step (below_drew _)).ri | exact (G5.out.step (below_alloc _ _)).ri) (by first | exact V3.out.ri | exact (V3.out.step (below_drew _)).ri | exact (V3.out.step (below_alloc _ _)).ri)).mono ?_
    rintro e u6 ⟨rfl, d6⟩
    have b6 : Below u5.heap.size u5 u6 := by first | exact d6 | exact und d6 | exact undN d6 | exact below_new d6 | exact und (below_new d6) | exact below_new (und d6) | exact below_new (below_new d6) | exact step (below_drew _) (und (below_new d6))
    have I0' := Lib.hid (I0.out.step b6)
    clear I0
    have I0 := I0'
    clear I0'
    have F0' := Lib.hid (F0.out.step b6)
    clear F0
    have F0 := F0'
    clear F0'
    have X0' := Lib.hid (X0.out.step b6)
    clear X0
    have X0 := X0'
    clear X0'
    have V3' := Lib.hid (V3.out.step b6)
    clear V3
    have V3 := V3'
    clear V3'
    have Q4' := Lib.hid (Q4.out.step b6)
    clear Q4
    have Q4 := Q4'
    clear Q4'
    have G5' := Lib.hid (G5.out.step b6)
    clear G5
    have G5 := G5'
    clear G5'
    have Y0' := Lib.hid (Y0.out.step b6)
    clear Y0
    have Y0 := Y0'
    clear Y0'
    have T6 := step T5 b6
    have Z6 := b6.size
    have gd0 := X0.out.cell 0
    have gd1 := X0.out.cell 1
    simp only [List.getElem?_toArray, List.getElem?_cons_zero, List.getElem?_cons_succ] at gd0 gd1
    have gdn := X0.out.lt
    have ge0 := Y0.out.cell 0
    have ge1 := Y0.out.cell 1
    simp only [List.getElem?_toArray, List.getElem?_cons_zero, List.getElem?_cons_succ] at ge0 ge1
    have gen := Y0.out.lt
    have tok7 : True := trivial
    have tok8 : True := trivial
    go_wp2_with fail
    go_region_held3 (fun w' => w'.cell? ⟨w.heap.size, 0, none⟩ = some (.slice H0 s0.length x0) ∧ w'.cell? ⟨w.heap.size, 1, none⟩ = some (.slice A0 l0.length c0) ∧ w'.cell? ⟨u4.heap.size, 0, none⟩ = some (.slice (some ⟨u3.heap.size + 3, 0, none⟩) s0.length s0.length) ∧ w'.cell? ⟨u4.heap.size, 1, none⟩ = some (.slice (some ⟨u3.heap.size + 3 + 1, 0, none⟩) l0.length l0.length))
      (first
        | go_keep
        | (go_split_ands; refine ⟨?_, ?_, ?_, ?_⟩ <;> (rw [d7.cell (by (try simp) <;> omega)]; assumption))
        | (go_split_ands; refine ⟨?_, ?_, ?_, ?_⟩ <;> (rw [d8.cell (by (try simp) <;> omega)]; assumption)))
      (first
        | (go_at_call 35
           clear tok7
           refine (toQuery_r H0 A0 x0 c0 s0 l0 hl0 hz0 _ (by first | exact I0.out | exact I0.out.step (below_drew _) | exact I0.out.step (below_alloc _ _)) (by first | exact F0.out | exact F0.out.step (below_drew _) | exact F0.out.step (below_alloc _ _))).mono ?_
           rintro e u7 ⟨rfl, r7, d7, z7⟩
           have b7 : Below u6.heap.size u6 u7 := by first | exact d7 | exact und d7 | exact undN d7 | exact below_new d7 | exact und (below_new d7) | exact below_new (und d7) | exact below_new (below_new d7) | exact step (below_drew _) (und (below_new d7))
           have I0' := Lib.hid (I0.out.step b7)
           clear I0
           have I0 := I0'
           clear I0'
           have F0' := Lib.hid (F0.out.step b7)
           clear F0
           have F0 := F0'
           clear F0'
           have X0' := Lib.hid (X0.out.step b7)
           clear X0
           have X0 := X0'
           clear X0'
           have V3' := Lib.hid (V3.out.step b7)
           clear V3
           have V3 := V3'
           clear V3'
           have Q4' := Lib.hid (Q4.out.step b7)
           clear Q4
           have Q4 := Q4'
           clear Q4'
           have G5' := Lib.hid (G5.out.step b7)
           clear G5
           have G5 := G5'
           clear G5'
           have Y0' := Lib.hid (Y0.out.step b7)
           clear Y0
           have Y0 := Y0'
           clear Y0'
           have T7 := step T6 b7
           have Z7 := b7.size
           have Q7 := Lib.hid r7
           clear r7 z7)
        | (go_at_call 37
           clear tok8
           refine (eqQuery_b _ _ _ _ _ _ _ _ s0 l0 hl0 (by omega) _ (by first | exact Q4.out.ri | exact (Q4.out.step (below_drew _)).ri | exact (Q4.out.step (below_alloc _ _)).ri) (by first | exact Q4.out.rf | exact (Q4.out.step (below_drew _)).rf | exact (Q4.out.step (below_alloc _ _)).rf) (by first | exact Q7.out.ri | exact (Q7.out.step (below_drew _)).ri | exact (Q7.out.step (below_alloc _ _)).ri) (by first | exact Q7.out.rf | exact (Q7.out.step (below_drew _)).rf | exact (Q7.out.step (below_alloc _ _)).rf)).mono ?_
           rintro e u8 ⟨rfl, d8⟩
           have b8 : Below u7.heap.size u7 u8 := by first | exact d8 | exact und d8 | exact undN d8 | exact below_new d8 | exact und (below_new d8) | exact below_new (und d8) | exact below_new (below_new d8) | exact step (below_drew _) (und (below_new d8))
           have I0' := Lib.hid (I0.out.step b8)
           clear I0
           have I0 := I0'
           clear I0'
           have F0' := Lib.hid (F0.out.step b8)
           clear F0
           have F0 := F0'
           clear F0'
           have X0' := Lib.hid (X0.out.step b8)
           clear X0
           have X0 := X0'
           clear X0'
           have V3' := Lib.hid (V3.out.step b8)
           clear V3
           have V3 := V3'
           clear V3'
           have Q4' := Lib.hid (Q4.out.step b8)
           clear Q4
           have Q4 := Q4'
           clear Q4'
           have G5' := Lib.hid (G5.out.step b8)
           clear G5
           have G5 := G5'
           clear G5'
           have Y0' := Lib.hid (Y0.out.step b8)
           clear Y0
           have Y0 := Y0'
           clear Y0'
           have Q7' := Lib.hid (Q7.out.step b8)
           clear Q7
           have Q7 := Q7'
           clear Q7'
           have T8 := step T7 b8
           have Z8 := b8.size))
    have gf0 := Y0.out.cell 0
    have gf1 := Y0.out.cell 1
    simp only [List.getElem?_toArray, List.getElem?_cons_zero, List.getElem?_cons_succ] at gf0 gf1
    have gfn := Y0.out.lt
    have q4 := Q4.out.lt
    go_wp2_with fail
    refine (markQuery_o (u3.heap.size + 3) (u3.heap.size + 3 + 1) u4.heap.size _ _ _ _ s0 l0 1 (by omega) (by omega) hz _ (by first | exact Q4.out.qo hl0 | exact (Q4.out.step (below_drew _)).qo hl0)).mono ?_
    rintro e v1 ⟨rfl, M1, _⟩
    have sv1 : u8.heap.size ≤ v1.heap.size := M1.below.size
    have V3a := Lib.hid (V3.out.keep (w' := v1) (fun b _ h2 => M1.keep (.inl (by omega)) (by have := V3.out.2; omega)) sv1)
    have G5a := Lib.hid (G5.out.keep (w' := v1) (fun b h1 h2 => M1.keep (.inr (by omega)) (by have := G5.out.2.1; omega)) sv1)
    have X0a := Lib.hid (show Box v1 w.heap.size _ _ from (M1.keep (.inl (by omega)) X0.out.lt).trans X0.out)
    have TA := Lib.hid (T8.trans (M1.below.mono (by omega)))
    clear M1 V3 G5 X0 Q4 Y0
    go_wp2_with fail
    refine (eqIntS_r _ _ _ _ vs hv _ G5a.out.ri V3a.out.ri).mono ?_
    rintro e v2 ⟨rfl, D2⟩
    have V3b := Lib.hid (V3a.out.step D2)
    have G5b := Lib.hid (G5a.out.step D2)
    have X0b := Lib.hid (X0a.out.step D2)
    have TB := Lib.hid (step TA.out D2)
    have sv2 := D2.size
    clear D2 V3a G5a X0a TA
    go_wp2_with fail
    refine (markIntS_g (u4.heap.size + 1) u5.heap.size _ _ vs hv _ G5b.out).mono ?_
    rintro e v3 ⟨rfl, W3, N3⟩
    have V3c := Lib.hid (V3b.out.keep (w' := v3) (fun b _ h2 => W3.block b (.inl (by omega))) (by rw [W3.size]; exact Nat.le_refl _))
    have X0c := Lib.hid (show Box v3 w.heap.size _ _ from (W3.block _ (.inl (by omega))).trans X0b.out)
    have N3c := Lib.hid N3
    have TC := step TB.out (show Below v2.heap.size v2 v2 from Below.refl _ _)
    have TV := TB.out.trans (W3.below.mono (by omega))
    have I0v := Lib.hid ((show RI w H0 s0 from W0.out.1).step TV)
    have F0v := Lib.hid ((show RF w A0 l0 from W0.out.2).step TV)
    clear W3 N3 V3b X0b TB TC G5b
    have hm2 : 0 ≤ 1 + (vs.length : Int) := by omega
    go_wp2_with fail
    refine (heldIntS_g (u4.heap.size + 1) u5.heap.size _ _ vs.length hv _ N3c.out).mono ?_
    rintro e v4 ⟨rfl, rfl⟩
    have gh0 := X0c.out.cell 0
    have gh1 := X0c.out.cell 1
    simp only [List.getElem?_toArray, List.getElem?_cons_zero, List.getElem?_cons_succ] at gh0 gh1
    have ghn := X0c.out.lt
    go_wp2_with fail
    refine (toQuery_r H0 A0 x0 c0 s0 l0 hl0 hz0 _ (by first | exact I0v.out | exact I0v.out.step (below_drew _) | exact I0v.out.step (below_alloc _ _)) (by first | exact F0v.out | exact F0v.out.step (below_drew _) | exact F0v.out.step (below_alloc _ _))).mono ?_
    rintro e u31 ⟨rfl, r31, d31, z31⟩
    have b31 : Below v3.heap.size v3 u31 := by first | exact d31 | exact und d31 | exact undN d31 | exact below_new d31 | exact und (below_new d31) | exact below_new (und d31) | exact below_new (below_new d31) | exact step (below_drew _) (und (below_new d31))
    have I0v' := Lib.hid (I0v.out.step b31)
    clear I0v
    have I0v := I0v'
    clear I0v'
    have F0v' := Lib.hid (F0v.out.step b31)
    clear F0v
    have F0v := F0v'
    clear F0v'
    have X0c' := Lib.hid (X0c.out.step b31)
    clear X0c
    have X0c := X0c'
    clear X0c'
    have V3c' := Lib.hid (V3c.out.step b31)
    clear V3c
    have V3c := V3c'
    clear V3c'
    have N3c' := Lib.hid (N3c.out.step b31)
    clear N3c
    have N3c := N3c'
    clear N3c'
    have T31 := step TV b31
    have Z31 := b31.size
    have Q31 := Lib.hid r31
    have y31 := z31
    clear r31 z31
    go_wp2_with fail
    refine (CI.out _ _ _ _ _ (by first | exact Q31.out.rf | exact (Q31.out.step (below_drew _)).rf | exact (Q31.out.step (below_alloc _ _)).rf)).mono ?_
    rintro e u32 ⟨A32, c32, rfl, r32, d32⟩
    have b32 : Below u31.heap.size u31 u32 := by first | exact d32 | exact und d32 | exact undN d32 | exact below_new d32 | exact und (below_new d32) | exact below_new (und d32) | exact below_new (below_new d32) | exact step (below_drew _) (und (below_new d32))
    have I0v' := Lib.hid (I0v.out.step b32)
    clear I0v
    have I0v := I0v'
    clear I0v'
    have F0v' := Lib.hid (F0v.out.step b32)
    clear F0v
    have F0v := F0v'
    clear F0v'
    have X0c' := Lib.hid (X0c.out.step b32)
    clear X0c
    have X0c := X0c'
    clear X0c'
    have V3c' := Lib.hid (V3c.out.step b32)
    clear V3c
    have V3c := V3c'
    clear V3c'
    have N3c' := Lib.hid (N3c.out.step b32)
    clear N3c
    have N3c := N3c'
    clear N3c'
    have Q31' := Lib.hid (Q31.out.step b32)
    clear Q31
    have Q31 := Q31'
    clear Q31'
    have T32 := step T31 b32
    have Z32 := b32.size
    have G32 := Lib.hid r32
    clear r32
    go_wp2_with fail
    refine (eqIntS_r _ _ _ _ vs hv _ (by first | exact G32.out.ri | exact (G32.out.step (below_drew _)).ri | exact (G32.out.step (below_alloc _ _)).ri) (by first | exact V3c.out.ri | exact (V3c.out.step (below_drew _)).ri | exact (V3c.out.step (below_alloc _ _)).ri)).mono ?_
    rintro e u33 ⟨rfl, d33⟩
    have b33 : Below u32.heap.size u32 u33 := by first | exact d33 | exact und d33 | exact undN d33 | exact below_new d33 | exact und (below_new d33) | exact below_new (und d33) | exact below_new (below_new d33) | exact step (below_drew _) (und (below_new d33))
    have I0v' := Lib.hid (I0v.out.step b33)
    clear I0v
    have I0v := I0v'
    clear I0v'
    have F0v' := Lib.hid (F0v.out.step b33)
    clear F0v
    have F0v := F0v'
    clear F0v'
    have X0c' := Lib.hid (X0c.out.step b33)
    clear X0c
    have X0c := X0c'
    clear X0c'
    have V3c' := Lib.hid (V3c.out.step b33)
    clear V3c
    have V3c := V3c'
    clear V3c'
    have N3c' := Lib.hid (N3c.out.step b33)
    clear N3c
    have N3c := N3c'
    clear N3c'
    have Q31' := Lib.hid (Q31.out.step b33)
    clear Q31
    have Q31 := Q31'
    clear Q31'
    have G32' := Lib.hid (G32.out.step b33)
    clear G32
    have G32 := G32'
    clear G32'
    have T33 := step T32 b33
    have Z33 := b33.size
    go_wp2_with fail
    refine (heldIntS_g (u4.heap.size + 1) u5.heap.size _ _ vs.length hv _ N3c.out).mono ?_
    rintro e v9 ⟨rfl, rfl⟩
    go_wp2
    go_ret
    exact ⟨rfl, T33⟩

set_option maxRecDepth 100000 in
theorem lifted (os : Os) (started : os.Started) (H : Type) (enc : TypeId × Value → H) :
    ReturnsInHanded {} Try.checked os 9 .any (Rows.fnExactVarsOfSpec.pre6 enc Try.prog Try.f9 Rows.fnExactVarsOfRow.domain false) (Rows.fnExactVarsOfSpec.post enc Try.prog Try.f9 false true false false) := by
  refine returnsInHanded_of_change (C := Try.checked) own started (by kernel_rfl) Try.func9
    (ChangeSpec.witness6 (enc := enc) (C := Try.checked) false ⟨#[], #[.agg #[.slice none 0 0, .slice none 0 0]], []⟩ 8 (by kernel_rfl) (by kernel_rfl) (by kernel_rfl) (by kernel_rfl)) ?_
  intro W base args ds gs before hval0 hW hcnd _
  have hval : ∀ (j : Nat) t v, Try.f9.params[j]? = some t → args[j]? = some v → Value.okWide Try.prog W .any base t v := hval0
  have hpost := fun (W' : World) (hfn : Rows.fnExactVarsOfSpec.fn H (ds ++ gs) = { results := [.lit (.bool true)], args := ds }) (hb : Below W.heap.size W W') => law_post (enc := enc) laidOut (f := Try.f9) (s := Rows.fnExactVarsOfSpec) (args := args) rfl rfl Try.underlying4 (by intro t ht; rw [Try.params9] at ht; simp at ht; rcases ht with rfl <;> exact ⟨by kernel_rfl, of_decide_eq_true (by kernel_rfl)⟩) hW hfn hb
  obtain ⟨p, q, hA0, hV, rfl, hfz, hnd⟩ := hW
  have hA : DataW.TrodAll enc Try.prog W 0 (fun _ => true) true Try.f9.params.toList args.toList ds p := hA0
  rw [Try.params9] at hA hval
  obtain ⟨v0, vs0, d0, ds0, p0, q0, hargs, rfl, rfl, h0, r0⟩ := trodAll_cons hA
  obtain ⟨rfl, rfl, rfl⟩ := trodAll_nil r0
  obtain rfl : args = #[v0] := by cases args; simp_all
  obtain ⟨rfl, rfl⟩ := trodVars_none hV
  obtain ⟨H0, A0, x0, c0, s0, l0, rfl, y0, z0, k0, m0, w0⟩ := open_queryT (hval 0 51 v0 rfl rfl) h0
  refine (walk W H0 A0 x0 c0 s0 l0 y0 z0 k0 m0 w0).mono fun e W' ⟨he, hg⟩ => ?_
  subst he
  exact ⟨_, rfl, hpost W' rfl hg⟩

theorem over : Rows.fnExactVarsOfRow.holds Try.pinned (OpenSpec.ofChange Rows.fnExactVarsOfSpec) :=
  OpenClaim.holds_of_wide 9 Try.f9 rfl rfl rfl rfl rfl rfl rfl ⟨rfl, rfl, rfl, rfl, rfl⟩ rfl rfl rfl rfl rfl (by kernel_rfl) Try.func9 (by kernel_rfl)
    (of_decide_eq_true (by kernel_rfl)) (by unfold Func.isWrapper; first | (rw [if_pos (by decide +kernel)]; kernel_rfl) | (rw [if_neg (by decide +kernel)]; exact ⟨rfl, rfl⟩))
    (fun os started H enc _ => lifted os started H enc)
end Go.Proofs.Ythhoccpdgnmhcaa.fnExactVarsOf
namespace Go.Proofs.Ythhoccpdgnmhcaa
theorem fnExactVarsOf_holds : Rows.FnExactVarsOfSaid := fnExactVarsOf.over
#print axioms fnExactVarsOf_holds
end Go.Proofs.Ythhoccpdgnmhcaa
