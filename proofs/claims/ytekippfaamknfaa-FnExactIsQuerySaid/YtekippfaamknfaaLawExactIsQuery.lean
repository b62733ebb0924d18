/- impl.IsQuery answers as its model at every argument: the law FnExactIsQuery returns true. Conditions: none beyond the statement's own. -/
import Derived.Test.YtekippfaamknfaaQI
namespace Go.Proofs.Ytekippfaamknfaa.fnExactIsQuery
open Go.ChangeShapes Go.WideShapes Go.ChangeAt Go.RowKit
open Go.ChangeMaps (open_string shut_string)
set_option linter.unusedVariables false
set_option linter.unusedSimpArgs false
open Go.Proofs.Ytekippfaamknfaa.atom
set_option maxRecDepth 100000 in
set_option maxHeartbeats 1000000 in
theorem walk (w : World) (A0 : Option Addr) (c0 : Nat) (s0 : List Int) (l0 : s0.length ≤ c0) (m0 : c0 ≤ maxLen) (w0 : Ints w 0 w.heap.size A0 s0) (H1 A1 : Option Addr) (x1 c1 : Nat) (s1 : List Int) (l1 : FL) (y1 : s1.length ≤ x1) (z1 : x1 ≤ maxLen) (k1 : l1.length ≤ c1) (m1 : c1 ≤ maxLen) (w1 : Ints w 0 w.heap.size H1 s1 ∧ Facts w 0 w.heap.size A1 l1) :
    Calls Try.prog 6 #[.slice A0 s0.length c0, .agg #[.slice H1 s1.length x1, .slice A1 l1.length c1]] w fun e w' => e = .returned (.bool true) ∧ Below w.heap.size w w' := by
  unfold maxLen at m0 z1 m1
  have hn := szF_nonneg l1
  have EQ := Lib.hid (show szQ s1 l1 = (s1.length : Int) + szF l1 from rfl)
  by_cases hbig : (1048576 : Int) < s0.length
  · go_enter Try.func6, Try.ntmps6
    go_wp2
    go_ret
    exact ⟨rfl, below_alloc _ _⟩
  · have hl : s0.length ≤ 1048576 := by omega
    by_cases hb : 1048576 - szQ s1 l1 < 0
    · have I0 := Lib.hid (show RI w A0 s0 from w0)
      have I1 := Lib.hid (show RI w H1 s1 from w1.1)
      have F1 := Lib.hid (show RF w A1 l1 from w1.2)
      clear w0 w1
      go_enter Try.func6, Try.ntmps6
      go_wp2_with fail
      refine (szQuery_any H1 A1 x1 c1 s1 l1 1048576 (by omega) (by omega) (by omega) (by omega) _ (by first | exact F1.out | exact F1.out.step (below_drew _) | exact F1.out.step (below_alloc _ _))).mono ?_
      rintro e u1 ⟨he, d1⟩
      rw [szR_neg hb] at he
      subst he
      have X0 := Lib.hid (Box.of_new d1)
      have b1 : Below w.heap.size w u1 := by first | exact d1 | exact und d1 | exact undN d1 | exact below_new d1 | exact und (below_new d1) | exact below_new (und d1) | exact below_new (below_new d1) | exact step (below_drew _) (und (below_new d1))
      have I0' := Lib.hid (I0.out.step b1)
      clear I0
      have I0 := I0'
      clear I0'
      have I1' := Lib.hid (I1.out.step b1)
      clear I1
      have I1 := I1'
      clear I1'
      have F1' := Lib.hid (F1.out.step b1)
      clear F1
      have F1 := F1'
      clear F1'
      have T1 := b1
      have Z1 := b1.size
      have ga0 := X0.out.cell 0
      have ga1 := X0.out.cell 1
      simp only [List.getElem?_toArray, List.getElem?_cons_zero, List.getElem?_cons_succ] at ga0 ga1
      have gan := X0.out.lt
      go_wp2
      go_ret
      exact ⟨rfl, T1⟩
    · skip
      have hz : szQ s1 l1 ≤ 1048576 := by omega
      have hz0 : szF l1 ≤ 1048576 := by rw [EQ.out] at hz; omega
      have hl0 : s1.length ≤ 1048576 := by rw [EQ.out] at hz; omega
      have hq2 : 0 ≤ 1048576 - szQ s1 l1 := by omega
      have hL0 : (s0.length : Int) ≤ 1048576 := by omega
      have I0 := Lib.hid (show RI w A0 s0 from w0)
      have I1 := Lib.hid (show RI w H1 s1 from w1.1)
      have F1 := Lib.hid (show RF w A1 l1 from w1.2)
      clear w0 w1
      go_enter Try.func6, Try.ntmps6
      go_wp2_with fail
      refine (szQuery_any H1 A1 x1 c1 s1 l1 1048576 (by omega) (by omega) (by omega) (by omega) _ (by first | exact F1.out | exact F1.out.step (below_drew _) | exact F1.out.step (below_alloc _ _))).mono ?_
      rintro e u1 ⟨he, d1⟩
      rw [szR_pos (show ¬ (1048576 - szQ s1 l1 < 0) by omega)] at he
      subst he
      have X0 := Lib.hid (Box.of_new d1)
      have b1 : Below w.heap.size w u1 := by first | exact d1 | exact und d1 | exact undN d1 | exact below_new d1 | exact und (below_new d1) | exact below_new (und d1) | exact below_new (below_new d1) | exact step (below_drew _) (und (below_new d1))
      have I0' := Lib.hid (I0.out.step b1)
      clear I0
      have I0 := I0'
      clear I0'
      have I1' := Lib.hid (I1.out.step b1)
      clear I1
      have I1 := I1'
      clear I1'
      have F1' := Lib.hid (F1.out.step b1)
      clear F1
      have F1 := F1'
      clear F1'
      have T1 := b1
      have Z1 := b1.size
      have ga0 := X0.out.cell 0
      have ga1 := X0.out.cell 1
      simp only [List.getElem?_toArray, List.getElem?_cons_zero, List.getElem?_cons_succ] at ga0 ga1
      have gan := X0.out.lt
      have tok2 : True := trivial
      have tok3 : True := trivial
      have tok4 : True := trivial
      go_wp2_with fail
      go_region_held3 (fun w' => w'.cell? ⟨w.heap.size, 0, none⟩ = some (.slice H1 s1.length x1) ∧ w'.cell? ⟨w.heap.size, 1, none⟩ = some (.slice A1 l1.length c1))
        (first
          | go_keep
          | (go_split_ands; refine ⟨?_, ?_⟩ <;> (rw [d2.cell (by (try simp) <;> omega)]; assumption))
          | (go_split_ands; refine ⟨?_, ?_⟩ <;> (rw [d3.cell (by (try simp) <;> omega)]; assumption))
          | (go_split_ands; refine ⟨?_, ?_⟩ <;> (rw [d4.cell (by (try simp) <;> omega)]; assumption)))
        (first
          | (go_at_call 9
             clear tok2
             refine (toIntS_r A0 c0 s0 hl _ (by first | exact I0.out | exact I0.out.step (below_drew _) | exact I0.out.step (below_alloc _ _))).mono ?_
             rintro e u2 ⟨rfl, r2, d2, z2⟩
             have b2 : Below u1.heap.size u1 u2 := by first | exact d2 | exact und d2 | exact undN d2 | exact below_new d2 | exact und (below_new d2) | exact below_new (und d2) | exact below_new (below_new d2) | exact step (below_drew _) (und (below_new d2))
             have I0' := Lib.hid (I0.out.step b2)
             clear I0
             have I0 := I0'
             clear I0'
             have I1' := Lib.hid (I1.out.step b2)
             clear I1
             have I1 := I1'
             clear I1'
             have F1' := Lib.hid (F1.out.step b2)
             clear F1
             have F1 := F1'
             clear F1'
             have X0' := Lib.hid (X0.out.step b2)
             clear X0
             have X0 := X0'
             clear X0'
             have T2 := step T1 b2
             have Z2 := b2.size
             have R2 := Lib.hid r2.ri
             clear r2 z2)
          | (go_at_call 26
             clear tok3
             refine (toQuery_r H1 A1 x1 c1 s1 l1 hl0 hz0 _ (by first | exact I1.out | exact I1.out.step (below_drew _) | exact I1.out.step (below_alloc _ _)) (by first | exact F1.out | exact F1.out.step (below_drew _) | exact F1.out.step (below_alloc _ _))).mono ?_
             rintro e u3 ⟨rfl, r3, d3, z3⟩
             have b3 : Below u2.heap.size u2 u3 := by first | exact d3 | exact und d3 | exact undN d3 | exact below_new d3 | exact und (below_new d3) | exact below_new (und d3) | exact below_new (below_new d3) | exact step (below_drew _) (und (below_new d3))
             have I0' := Lib.hid (I0.out.step b3)
             clear I0
             have I0 := I0'
             clear I0'
             have I1' := Lib.hid (I1.out.step b3)
             clear I1
             have I1 := I1'
             clear I1'
             have F1' := Lib.hid (F1.out.step b3)
             clear F1
             have F1 := F1'
             clear F1'
             have X0' := Lib.hid (X0.out.step b3)
             clear X0
             have X0 := X0'
             clear X0'
             have R2' := Lib.hid (R2.out.step b3)
             clear R2
             have R2 := R2'
             clear R2'
             have T3 := step T2 b3
             have Z3 := b3.size
             have Q3 := Lib.hid r3
             clear r3 z3)
          | (go_at_call 25
             clear tok4
             refine (spec_IsQuery _ _ _ _ _ _ s0 s1 l1 hl (Nat.le_trans hl0 (by decide)) hz0 _ (by first | exact R2.out | exact R2.out.step (below_drew _) | exact R2.out.step (below_alloc _ _)) (by first | exact Q3.out.ri | exact (Q3.out.step (below_drew _)).ri | exact (Q3.out.step (below_alloc _ _)).ri) (by first | exact Q3.out.rf | exact (Q3.out.step (below_drew _)).rf | exact (Q3.out.step (below_alloc _ _)).rf)).mono ?_
             rintro e u4 ⟨rfl, d4⟩
             have b4 : Below u3.heap.size u3 u4 := by first | exact d4 | exact und d4 | exact undN d4 | exact below_new d4 | exact und (below_new d4) | exact below_new (und d4) | exact below_new (below_new d4) | exact step (below_drew _) (und (below_new d4))
             have I0' := Lib.hid (I0.out.step b4)
             clear I0
             have I0 := I0'
             clear I0'
             have I1' := Lib.hid (I1.out.step b4)
             clear I1
             have I1 := I1'
             clear I1'
             have F1' := Lib.hid (F1.out.step b4)
             clear F1
             have F1 := F1'
             clear F1'
             have X0' := Lib.hid (X0.out.step b4)
             clear X0
             have X0 := X0'
             clear X0'
             have R2' := Lib.hid (R2.out.step b4)
             clear R2
             have R2 := R2'
             clear R2'
             have Q3' := Lib.hid (Q3.out.step b4)
             clear Q3
             have Q3 := Q3'
             clear Q3'
             have T4 := step T3 b4
             have Z4 := b4.size))
      go_wp2_with fail
      refine (toIntS_r A0 c0 s0 hl _ (by first | exact I0.out | exact I0.out.step (below_drew _) | exact I0.out.step (below_alloc _ _))).mono ?_
      rintro e u5 ⟨rfl, r5, d5, z5⟩
      have b5 : Below u4.heap.size u4 u5 := by first | exact d5 | exact und d5 | exact undN d5 | exact below_new d5 | exact und (below_new d5) | exact below_new (und d5) | exact below_new (below_new d5) | exact step (below_drew _) (und (below_new d5))
      have I0' := Lib.hid (I0.out.step b5)
      clear I0
      have I0 := I0'
      clear I0'
      have I1' := Lib.hid (I1.out.step b5)
      clear I1
      have I1 := I1'
      clear I1'
      have F1' := Lib.hid (F1.out.step b5)
      clear F1
      have F1 := F1'
      clear F1'
      have X0' := Lib.hid (X0.out.step b5)
      clear X0
      have X0 := X0'
      clear X0'
      have T5 := step T4 b5
      have Z5 := b5.size
      have R5 := Lib.hid r5.ri
      clear r5 z5
      have gb0 := X0.out.cell 0
      have gb1 := X0.out.cell 1
      simp only [List.getElem?_toArray, List.getElem?_cons_zero, List.getElem?_cons_succ] at gb0 gb1
      have gbn := X0.out.lt
      go_wp2_with fail
      refine (toQuery_r H1 A1 x1 c1 s1 l1 hl0 hz0 _ (by first | exact I1.out | exact I1.out.step (below_drew _) | exact I1.out.step (below_alloc _ _)) (by first | exact F1.out | exact F1.out.step (below_drew _) | exact F1.out.step (below_alloc _ _))).mono ?_
      rintro e u6 ⟨rfl, r6, d6, z6⟩
      have b6 : Below u5.heap.size u5 u6 := by first | exact d6 | exact und d6 | exact undN d6 | exact below_new d6 | exact und (below_new d6) | exact below_new (und d6) | exact below_new (below_new d6) | exact step (below_drew _) (und (below_new d6))
      have I0' := Lib.hid (I0.out.step b6)
      clear I0
      have I0 := I0'
      clear I0'
      have I1' := Lib.hid (I1.out.step b6)
      clear I1
      have I1 := I1'
      clear I1'
      have F1' := Lib.hid (F1.out.step b6)
      clear F1
      have F1 := F1'
      clear F1'
      have X0' := Lib.hid (X0.out.step b6)
      clear X0
      have X0 := X0'
      clear X0'
      have R5' := Lib.hid (R5.out.step b6)
      clear R5
      have R5 := R5'
      clear R5'
      have T6 := step T5 b6
      have Z6 := b6.size
      have Q6 := Lib.hid r6
      clear r6 z6
      go_wp2_with fail
      refine (impl_IsQuery _ _ _ _ _ _ s0 s1 l1 hl (Nat.le_trans hl0 (by decide)) hz0 _ (by first | exact R5.out | exact R5.out.step (below_drew _) | exact R5.out.step (below_alloc _ _)) (by first | exact Q6.out.ri | exact (Q6.out.step (below_drew _)).ri | exact (Q6.out.step (below_alloc _ _)).ri) (by first | exact Q6.out.rf | exact (Q6.out.step (below_drew _)).rf | exact (Q6.out.step (below_alloc _ _)).rf)).mono ?_
      rintro e u7 ⟨rfl, d7⟩
      have Y0 := Lib.hid (Box.of_new d7)
      have b7 : Below u6.heap.size u6 u7 := by first | exact d7 | exact und d7 | exact undN d7 | exact below_new d7 | exact und (below_new d7) | exact below_new (und d7) | exact below_new (below_new d7) | exact step (below_drew _) (und (below_new d7))
      have I0' := Lib.hid (I0.out.step b7)
      clear I0
      have I0 := I0'
      clear I0'
      have I1' := Lib.hid (I1.out.step b7)
      clear I1
      have I1 := I1'
      clear I1'
      have F1' := Lib.hid (F1.out.step b7)
      clear F1
      have F1 := F1'
      clear F1'
      have X0' := Lib.hid (X0.out.step b7)
      clear X0
      have X0 := X0'
      clear X0'
      have R5' := Lib.hid (R5.out.step b7)
      clear R5
      have R5 := R5'
      clear R5'
      have Q6' := Lib.hid (Q6.out.step b7)
      clear Q6
      have Q6 := Q6'
      clear Q6'
      have T7 := step T6 b7
      have Z7 := b7.size
      go_wp2_with fail
      refine (toIntS_r A0 c0 s0 hl _ (by first | exact I0.out | exact I0.out.step (below_drew _) | exact I0.out.step (below_alloc _ _))).mono ?_
      rintro e u8 ⟨rfl, r8, d8, z8⟩
      have b8 : Below u7.heap.size u7 u8 := by first | exact d8 | exact und d8 | exact undN d8 | exact below_new d8 | exact und (below_new d8) | exact below_new (und d8) | exact below_new (below_new d8) | exact step (below_drew _) (und (below_new d8))
      have I0' := Lib.hid (I0.out.step b8)
      clear I0
      have I0 := I0'
      clear I0'
      have I1' := Lib.hid (I1.out.step b8)
      clear I1
      have I1 := I1'
      clear I1'
      have F1' := Lib.hid (F1.out.step b8)
      clear F1
      have F1 := F1'
      clear F1'
      have X0' := Lib.hid (X0.out.step b8)
      clear X0
      have X0 := X0'
      clear X0'
      have R5' := Lib.hid (R5.out.step b8)
      clear R5
      have R5 := R5'
      clear R5'
      have Q6' := Lib.hid (Q6.out.step b8)
      clear Q6
      have Q6 := Q6'
      clear Q6'
      have Y0' := Lib.hid (Y0.out.step b8)
      clear Y0
      have Y0 := Y0'
      clear Y0'
      have T8 := step T7 b8
      have Z8 := b8.size
      have R8 := Lib.hid r8.ri
      clear r8 z8
      go_wp2_with fail
      refine (eqIntS_r _ _ _ _ s0 hl _ (by first | exact R5.out | exact R5.out.step (below_drew _) | exact R5.out.step (below_alloc _ _)) (by first | exact R8.out | exact R8.out.step (below_drew _) | exact R8.out.step (below_alloc _ _))).mono ?_
      rintro e u9 ⟨rfl, d9⟩
      have b9 : Below u8.heap.size u8 u9 := by first | exact d9 | exact und d9 | exact undN d9 | exact below_new d9 | exact und (below_new d9) | exact below_new (und d9) | exact below_new (below_new d9) | exact step (below_drew _) (und (below_new d9))
      have I0' := Lib.hid (I0.out.step b9)
      clear I0
      have I0 := I0'
      clear I0'
      have I1' := Lib.hid (I1.out.step b9)
      clear I1
      have I1 := I1'
      clear I1'
      have F1' := Lib.hid (F1.out.step b9)
      clear F1
      have F1 := F1'
      clear F1'
      have X0' := Lib.hid (X0.out.step b9)
      clear X0
      have X0 := X0'
      clear X0'
      have R5' := Lib.hid (R5.out.step b9)
      clear R5
      have R5 := R5'
      clear R5'
      have Q6' := Lib.hid (Q6.out.step b9)
      clear Q6
      have Q6 := Q6'
      clear Q6'
      have Y0' := Lib.hid (Y0.out.step b9)
      clear Y0
      have Y0 := Y0'
      clear Y0'
      have R8' := Lib.hid (R8.out.step b9)
      clear R8
      have R8 := R8'
      clear R8'
      have T9 := step T8 b9
      have Z9 := b9.size
      have gd0 := X0.out.cell 0
      have gd1 := X0.out.cell 1
      simp only [List.getElem?_toArray, List.getElem?_cons_zero, List.getElem?_cons_succ] at gd0 gd1
      have gdn := X0.out.lt
      have ge0 := Y0.out.cell 0
      have ge1 := Y0.out.cell 1
      simp only [List.getElem?_toArray, List.getElem?_cons_zero, List.getElem?_cons_succ] at ge0 ge1
      have gen := Y0.out.lt
      have tok10 : True := trivial
      have tok11 : True := trivial
      go_wp2_with fail
      go_region_held3 (fun w' => w'.cell? ⟨w.heap.size, 0, none⟩ = some (.slice H1 s1.length x1) ∧ w'.cell? ⟨w.heap.size, 1, none⟩ = some (.slice A1 l1.length c1) ∧ w'.cell? ⟨u6.heap.size, 0, none⟩ = some (.slice (some ⟨u5.heap.size + 3, 0, none⟩) s1.length s1.length) ∧ w'.cell? ⟨u6.heap.size, 1, none⟩ = some (.slice (some ⟨u5.heap.size + 3 + 1, 0, none⟩) l1.length l1.length))
        (first
          | go_keep
          | (go_split_ands; refine ⟨?_, ?_, ?_, ?_⟩ <;> (rw [d10.cell (by (try simp) <;> omega)]; assumption))
          | (go_split_ands; refine ⟨?_, ?_, ?_, ?_⟩ <;> (rw [d11.cell (by (try simp) <;> omega)]; assumption)))
        (first
          | (go_at_call 26
             clear tok10
             refine (toQuery_r H1 A1 x1 c1 s1 l1 hl0 hz0 _ (by first | exact I1.out | exact I1.out.step (below_drew _) | exact I1.out.step (below_alloc _ _)) (by first | exact F1.out | exact F1.out.step (below_drew _) | exact F1.out.step (below_alloc _ _))).mono ?_
             rintro e u10 ⟨rfl, r10, d10, z10⟩
             have b10 : Below u9.heap.size u9 u10 := by first | exact d10 | exact und d10 | exact undN d10 | exact below_new d10 | exact und (below_new d10) | exact below_new (und d10) | exact below_new (below_new d10) | exact step (below_drew _) (und (below_new d10))
             have I0' := Lib.hid (I0.out.step b10)
             clear I0
             have I0 := I0'
             clear I0'
             have I1' := Lib.hid (I1.out.step b10)
             clear I1
             have I1 := I1'
             clear I1'
             have F1' := Lib.hid (F1.out.step b10)
             clear F1
             have F1 := F1'
             clear F1'
             have X0' := Lib.hid (X0.out.step b10)
             clear X0
             have X0 := X0'
             clear X0'
             have R5' := Lib.hid (R5.out.step b10)
             clear R5
             have R5 := R5'
             clear R5'
             have Q6' := Lib.hid (Q6.out.step b10)
             clear Q6
             have Q6 := Q6'
             clear Q6'
             have Y0' := Lib.hid (Y0.out.step b10)
             clear Y0
             have Y0 := Y0'
             clear Y0'
             have T10 := step T9 b10
             have Z10 := b10.size
             have Q10 := Lib.hid r10
             clear r10 z10)
          | (go_at_call 28
             clear tok11
             refine (eqQuery_b _ _ _ _ _ _ _ _ s1 l1 hl0 (by omega) _ (by first | exact Q6.out.ri | exact (Q6.out.step (below_drew _)).ri | exact (Q6.out.step (below_alloc _ _)).ri) (by first | exact Q6.out.rf | exact (Q6.out.step (below_drew _)).rf | exact (Q6.out.step (below_alloc _ _)).rf) (by first | exact Q10.out.ri | exact (Q10.out.step (below_drew _)).ri | exact (Q10.out.step (below_alloc _ _)).ri) (by first | exact Q10.out.rf | exact (Q10.out.step (below_drew _)).rf | exact (Q10.out.step (below_alloc _ _)).rf)).mono ?_
             rintro e u11 ⟨rfl, d11⟩
             have b11 : Below u10.heap.size u10 u11 := by first | exact d11 | exact und d11 | exact undN d11 | exact below_new d11 | exact und (below_new d11) | exact below_new (und d11) | exact below_new (below_new d11) | exact step (below_drew _) (und (below_new d11))
             have I0' := Lib.hid (I0.out.step b11)
             clear I0
             have I0 := I0'
             clear I0'
             have I1' := Lib.hid (I1.out.step b11)
             clear I1
             have I1 := I1'
             clear I1'
             have F1' := Lib.hid (F1.out.step b11)
             clear F1
             have F1 := F1'
             clear F1'
             have X0' := Lib.hid (X0.out.step b11)
             clear X0
             have X0 := X0'
             clear X0'
             have R5' := Lib.hid (R5.out.step b11)
             clear R5
             have R5 := R5'
             clear R5'
             have Q6' := Lib.hid (Q6.out.step b11)
             clear Q6
             have Q6 := Q6'
             clear Q6'
             have Y0' := Lib.hid (Y0.out.step b11)
             clear Y0
             have Y0 := Y0'
             clear Y0'
             have Q10' := Lib.hid (Q10.out.step b11)
             clear Q10
             have Q10 := Q10'
             clear Q10'
             have T11 := step T10 b11
             have Z11 := b11.size))
      go_wp2
      go_ret
      exact ⟨rfl, by first | exact T11 | exact T11.drew⟩

set_option maxRecDepth 100000 in
theorem lifted (os : Os) (started : os.Started) (H : Type) (enc : TypeId × Value → H) :
    ReturnsInHanded {} Try.checked os 6 .any (Rows.fnExactIsQuerySpec.pre6 enc Try.prog Try.f6 Rows.fnExactIsQueryRow.domain false) (Rows.fnExactIsQuerySpec.post enc Try.prog Try.f6 false true false false) := by
  refine returnsInHanded_of_change (C := Try.checked) own started (by kernel_rfl) Try.func6
    (ChangeSpec.witness6 (enc := enc) (C := Try.checked) false ⟨#[], #[.slice none 0 0, .agg #[.slice none 0 0, .slice none 0 0]], []⟩ 8 (by kernel_rfl) (by kernel_rfl) (by kernel_rfl) (by kernel_rfl)) ?_
  intro W base args ds gs before hval0 hW hcnd _
  have hval : ∀ (j : Nat) t v, Try.f6.params[j]? = some t → args[j]? = some v → Value.okWide Try.prog W .any base t v := hval0
  have hpost := fun (W' : World) (hfn : Rows.fnExactIsQuerySpec.fn H (ds ++ gs) = { results := [.lit (.bool true)], args := ds }) (hb : Below W.heap.size W W') => law_post (enc := enc) laidOut (f := Try.f6) (s := Rows.fnExactIsQuerySpec) (args := args) rfl rfl Try.underlying4 (by intro t ht; rw [Try.params6] at ht; simp at ht; rcases ht with rfl | rfl <;> exact ⟨by kernel_rfl, of_decide_eq_true (by kernel_rfl)⟩) hW hfn hb
  obtain ⟨p, q, hA0, hV, rfl, hfz, hnd⟩ := hW
  have hA : DataW.TrodAll enc Try.prog W 0 (fun _ => true) true Try.f6.params.toList args.toList ds p := hA0
  rw [Try.params6] at hA hval
  obtain ⟨v0, vs0, d0, ds0, p0, q0, hargs, rfl, rfl, h0, r0⟩ := trodAll_cons hA
  obtain ⟨v1, vs1, d1, ds1, p1, q1, rfl, rfl, rfl, h1, r1⟩ := trodAll_cons r0
  obtain ⟨rfl, rfl, rfl⟩ := trodAll_nil r1
  obtain rfl : args = #[v0, v1] := by cases args; simp_all
  obtain ⟨rfl, rfl⟩ := trodVars_none hV
  obtain ⟨A0, c0, s0, rfl, l0, m0, w0⟩ := open_numsT Try.underlying22 Try.underlying3 (by kernel_rfl) (hval 0 22 v0 rfl rfl) h0
  obtain ⟨H1, A1, x1, c1, s1, l1, rfl, y1, z1, k1, m1, w1⟩ := open_queryT (hval 1 50 v1 rfl rfl) h1
  refine (walk W A0 c0 s0 l0 m0 w0 H1 A1 x1 c1 s1 l1 y1 z1 k1 m1 w1).mono fun e W' ⟨he, hg⟩ => ?_
  subst he
  exact ⟨_, rfl, hpost W' rfl hg⟩

theorem over : Rows.fnExactIsQueryRow.holds Try.pinned (OpenSpec.ofChange Rows.fnExactIsQuerySpec) :=
  OpenClaim.holds_of_wide 6 Try.f6 rfl rfl rfl rfl rfl rfl rfl ⟨rfl, rfl, rfl, rfl, rfl⟩ rfl rfl rfl rfl rfl (by kernel_rfl) Try.func6 (by kernel_rfl)
    (of_decide_eq_true (by kernel_rfl)) (by unfold Func.isWrapper; first | (rw [if_pos (by decide +kernel)]; kernel_rfl) | (rw [if_neg (by decide +kernel)]; exact ⟨rfl, rfl⟩))
    (fun os started H enc _ => lifted os started H enc)
end Go.Proofs.Ytekippfaamknfaa.fnExactIsQuery
namespace Go.Proofs.Ytekippfaamknfaa
theorem fnExactIsQuery_holds : Rows.FnExactIsQuerySaid := fnExactIsQuery.over
#print axioms fnExactIsQuery_holds
end Go.Proofs.Ytekippfaamknfaa
