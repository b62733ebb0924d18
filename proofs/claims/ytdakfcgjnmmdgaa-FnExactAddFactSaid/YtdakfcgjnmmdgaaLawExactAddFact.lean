/- impl.AddFact answers as its model at every argument: the law FnExactAddFact returns true. Conditions: none beyond the statement's own. -/
import Derived.Test.YtdakfcgjnmmdgaaMark2
namespace Go.Proofs.Ytdakfcgjnmmdgaa.fnExactAddFact
open Go.ChangeShapes Go.WideShapes Go.ChangeAt Go.RowKit
open Go.ChangeMaps (open_string shut_string)
set_option linter.unusedVariables false
set_option linter.unusedSimpArgs false

set_option maxRecDepth 100000 in
set_option maxHeartbeats 1000000 in
theorem walk (w : World) (A0 : Option Addr) (c0 : Nat) (l0 : List (Int × List Int)) (k0 : l0.length ≤ c0) (m0 : c0 ≤ maxLen) (w0 : Facts w 0 w.heap.size A0 l0) (f1 : Int × List Int) (A1 : Option Addr) (c1 : Nat) (l1 : f1.2.length ≤ c1) (m1 : c1 ≤ maxLen) (w1 : Ints w 0 w.heap.size A1 f1.2) :
    Calls Try.prog 3 #[.slice A0 l0.length c0, .agg #[.int .i64 f1.1, .slice A1 f1.2.length c1]] w fun e w' => e = .returned (.bool true) ∧ Below w.heap.size w w' := by
  unfold maxLen at m0 m1
  obtain ⟨r1, s1⟩ := f1
  have hn0 := szF_nonneg l0
  simp only at l1 w1 ⊢
  by_cases hb0 : 1048576 - szF l0 < 0
  · have I0 := Lib.hid (show RF w A0 l0 from w0)
    have I1 := Lib.hid (show RI w A1 s1 from w1)
    clear w0 w1
    go_enter Try.func3, Try.ntmps3
    go_wp2_with fail
    refine (szFactS_any A0 c0 l0 1048576 (by omega) (by omega) (by omega) _ (by first | exact I0.out | exact I0.out.step (below_drew _) | exact I0.out.step (below_alloc _ _))).mono ?_
    rintro e u1 ⟨he, d1⟩
    rw [if_pos hb0] at he
    subst he
    have X1 := Lib.hid (Box.of_new d1)
    have b1 : Below w.heap.size w u1 := by first | exact d1 | exact und d1 | exact undN d1 | exact below_new d1 | exact und (below_new d1) | exact below_new (und d1) | exact below_new (below_new d1) | exact step (below_drew _) (und (below_new d1))
    have I0' := Lib.hid (I0.out.step b1)
    clear I0
    have I0 := I0'
    clear I0'
    have I1' := Lib.hid (I1.out.step b1)
    clear I1
    have I1 := I1'
    clear I1'
    have T1 := b1
    have Z1 := b1.size
    have ga0 := X1.out.cell 0
    have ga1 := X1.out.cell 1
    simp only [List.getElem?_toArray, List.getElem?_cons_zero, List.getElem?_cons_succ] at ga0 ga1
    have gan := X1.out.lt
    go_wp2
    go_ret
    exact ⟨rfl, T1⟩
  · by_cases hb1 : (1048576 - szF l0) - (s1.length : Int) < 0
    · have I0 := Lib.hid (show RF w A0 l0 from w0)
      have I1 := Lib.hid (show RI w A1 s1 from w1)
      clear w0 w1
      go_enter Try.func3, Try.ntmps3
      go_wp2_with fail
      refine (szFactS_any A0 c0 l0 1048576 (by omega) (by omega) (by omega) _ (by first | exact I0.out | exact I0.out.step (below_drew _) | exact I0.out.step (below_alloc _ _))).mono ?_
      rintro e u1 ⟨he, d1⟩
      rw [if_neg (show ¬ (1048576 - szF l0 < 0) by omega)] at he
      subst he
      have X1 := Lib.hid (Box.of_new d1)
      have b1 : Below w.heap.size w u1 := by first | exact d1 | exact und d1 | exact undN d1 | exact below_new d1 | exact und (below_new d1) | exact below_new (und d1) | exact below_new (below_new d1) | exact step (below_drew _) (und (below_new d1))
      have I0' := Lib.hid (I0.out.step b1)
      clear I0
      have I0 := I0'
      clear I0'
      have I1' := Lib.hid (I1.out.step b1)
      clear I1
      have I1 := I1'
      clear I1'
      have T1 := b1
      have Z1 := b1.size
      have ga0 := X1.out.cell 0
      have ga1 := X1.out.cell 1
      simp only [List.getElem?_toArray, List.getElem?_cons_zero, List.getElem?_cons_succ] at ga0 ga1
      have gan := X1.out.lt
      go_wp2_with fail
      refine (szFact_any (r1, s1) A1 c1 (1048576 - szF l0) (by simp; omega) (by omega) (by omega) _).mono ?_
      rintro e u2 ⟨he, d2⟩
      rw [if_pos hb1] at he
      subst he
      have b2 : Below u1.heap.size u1 u2 := by first | exact d2 | exact und d2 | exact undN d2 | exact below_new d2 | exact und (below_new d2) | exact below_new (und d2) | exact below_new (below_new d2) | exact step (below_drew _) (und (below_new d2))
      have I0' := Lib.hid (I0.out.step b2)
      clear I0
      have I0 := I0'
      clear I0'
      have I1' := Lib.hid (I1.out.step b2)
      clear I1
      have I1 := I1'
      clear I1'
      have X1' := Lib.hid (X1.out.step b2)
      clear X1
      have X1 := X1'
      clear X1'
      have T2 := step T1 b2
      have Z2 := b2.size
      have gb0 := X1.out.cell 0
      have gb1 := X1.out.cell 1
      simp only [List.getElem?_toArray, List.getElem?_cons_zero, List.getElem?_cons_succ] at gb0 gb1
      have gbn := X1.out.lt
      go_wp2
      go_ret
      exact ⟨rfl, T2⟩
    · skip
      have hz0 : szF l0 ≤ 1048576 := by omega
      have hl0 : l0.length ≤ 1048576 := szF_len hz0
      have hL0 : (l0.length : Int) ≤ 1048576 := by omega
      have hl1 : s1.length ≤ 1048576 := by omega
      have hL1 : (s1.length : Int) ≤ 1048576 := by omega
      have hzr : szF (addF l0 r1 s1) ≤ 1048577 := by have := szF_addF l0 r1 s1; omega
      have hnr := szF_nonneg (addF l0 r1 s1)
      generalize hres : addF l0 r1 s1 = res at hzr hnr
      have HRES := Lib.hid hres
      clear hres
      have CS := Lib.hid fun (A : Option Addr) (c : Nat) (A' : Option Addr) (c' : Nat) (w : World) (h : RF w A l0) (h' : RI w A' s1) => HRES.out ▸ spec_AddFact_r A c l0 r1 s1 A' c' hz0 hl1 w h h'
      have CI := Lib.hid fun (b off c : Nat) (A' : Option Addr) (c' : Nat) (hc : l0.length ≤ c) (hc1 : c ≤ 17592186044416) (h1 : s1.length ≤ c') (h2 : c' ≤ maxLen) (w : World) (h : RF w (some ⟨b, off, none⟩) l0) (h' : RI w A' s1) => HRES.out ▸ impl_AddFact_r b off c l0 r1 s1 A' c' hc (by omega) hz0 hl1 h1 h2 w h h'
      have I0 := Lib.hid (show RF w A0 l0 from w0)
      have I1 := Lib.hid (show RI w A1 s1 from w1)
      have I0w := Lib.hid w0
      have I1w := Lib.hid w1
      clear w0 w1
      go_enter Try.func3, Try.ntmps3
      go_wp2_with fail
      refine (szFactS_any A0 c0 l0 1048576 (by omega) (by omega) (by omega) _ (by first | exact I0.out | exact I0.out.step (below_drew _) | exact I0.out.step (below_alloc _ _))).mono ?_
      rintro e u1 ⟨he, d1⟩
      rw [if_neg (show ¬ (1048576 - szF l0 < 0) by omega)] at he
      subst he
      have X1 := Lib.hid (Box.of_new d1)
      have b1 : Below w.heap.size w u1 := by first | exact d1 | exact und d1 | exact undN d1 | exact below_new d1 | exact und (below_new d1) | exact below_new (und d1) | exact below_new (below_new d1) | exact step (below_drew _) (und (below_new d1))
      have I0' := Lib.hid (I0.out.step b1)
      clear I0
      have I0 := I0'
      clear I0'
      have I1' := Lib.hid (I1.out.step b1)
      clear I1
      have I1 := I1'
      clear I1'
      have T1 := b1
      have Z1 := b1.size
      have ga0 := X1.out.cell 0
      have ga1 := X1.out.cell 1
      simp only [List.getElem?_toArray, List.getElem?_cons_zero, List.getElem?_cons_succ] at ga0 ga1
      have gan := X1.out.lt
      go_wp2_with fail
      refine (szFact_any (r1, s1) A1 c1 (1048576 - szF l0) (by simp; omega) (by omega) (by omega) _).mono ?_
      rintro e u2 ⟨he, d2⟩
      rw [if_neg (show ¬ ((1048576 - szF l0) - (s1.length : Int) < 0) by omega)] at he
      subst he
      have b2 : Below u1.heap.size u1 u2 := by first | exact d2 | exact und d2 | exact undN d2 | exact below_new d2 | exact und (below_new d2) | exact below_new (und d2) | exact below_new (below_new d2) | exact step (below_drew _) (und (below_new d2))
      have I0' := Lib.hid (I0.out.step b2)
      clear I0
      have I0 := I0'
      clear I0'
      have I1' := Lib.hid (I1.out.step b2)
      clear I1
      have I1 := I1'
      clear I1'
      have X1' := Lib.hid (X1.out.step b2)
      clear X1
      have X1 := X1'
      clear X1'
      have T2 := step T1 b2
      have Z2 := b2.size
      have gb0 := X1.out.cell 0
      have gb1 := X1.out.cell 1
      simp only [List.getElem?_toArray, List.getElem?_cons_zero, List.getElem?_cons_succ] at gb0 gb1
      have gbn := X1.out.lt
      have tok3 : True := trivial
      have tok4 : True := trivial
      have tok5 : True := trivial
      go_wp2_with fail
      go_region_held3 (fun w' => w'.cell? ⟨w.heap.size, 0, none⟩ = some (.int .i64 r1) ∧ w'.cell? ⟨w.heap.size, 1, none⟩ = some (.slice A1 s1.length c1))
        (first
          | go_keep
          | (go_split_ands; refine ⟨?_, ?_⟩ <;> (rw [d3.cell (by (try simp) <;> omega)]; assumption))
          | (go_split_ands; refine ⟨?_, ?_⟩ <;> (rw [d4.cell (by (try simp) <;> omega)]; assumption))
          | (go_split_ands; refine ⟨?_, ?_⟩ <;> (rw [d5.cell (by (try simp) <;> omega)]; assumption)))
        (first
          | (go_at_call 12
             clear tok3
             refine (toFactS_p A0 c0 l0 hz0 _ (by first | exact I0.out | exact I0.out.step (below_drew _) | exact I0.out.step (below_alloc _ _))).mono ?_
             rintro e u3 ⟨rfl, r3, d3, z3⟩
             have b3 : Below u2.heap.size u2 u3 := by first | exact d3 | exact und d3 | exact undN d3 | exact below_new d3 | exact und (below_new d3) | exact below_new (und d3) | exact below_new (below_new d3) | exact step (below_drew _) (und (below_new d3))
             have I0' := Lib.hid (I0.out.step b3)
             clear I0
             have I0 := I0'
             clear I0'
             have I1' := Lib.hid (I1.out.step b3)
             clear I1
             have I1 := I1'
             clear I1'
             have X1' := Lib.hid (X1.out.step b3)
             clear X1
             have X1 := X1'
             clear X1'
             have T3 := step T2 b3
             have Z3 := b3.size
             have R3 := Lib.hid r3.rf
             clear r3 z3)
          | (go_at_call 13
             clear tok4
             refine (toFact_r r1 s1 A1 c1 hl1 _ (by first | exact I1.out | exact I1.out.step (below_drew _) | exact I1.out.step (below_alloc _ _))).mono ?_
             rintro e u4 ⟨rfl, r4, d4, z4⟩
             have b4 : Below u3.heap.size u3 u4 := by first | exact d4 | exact und d4 | exact undN d4 | exact below_new d4 | exact und (below_new d4) | exact below_new (und d4) | exact below_new (below_new d4) | exact step (below_drew _) (und (below_new d4))
             have I0' := Lib.hid (I0.out.step b4)
             clear I0
             have I0 := I0'
             clear I0'
             have I1' := Lib.hid (I1.out.step b4)
             clear I1
             have I1 := I1'
             clear I1'
             have X1' := Lib.hid (X1.out.step b4)
             clear X1
             have X1 := X1'
             clear X1'
             have R3' := Lib.hid (R3.out.step b4)
             clear R3
             have R3 := R3'
             clear R3'
             have T4 := step T3 b4
             have Z4 := b4.size
             have R4 := Lib.hid r4.ri
             clear r4 z4)
          | (go_at_call 11
             clear tok5
             refine (CS.out _ _ _ _ _ (by first | exact R3.out | exact R3.out.step (below_drew _) | exact R3.out.step (below_alloc _ _)) (by first | exact R4.out | exact R4.out.step (below_drew _) | exact R4.out.step (below_alloc _ _))).mono ?_
             rintro e u5 ⟨g5, cp5, rfl, p5, d5⟩
             have b5 : Below u4.heap.size u4 u5 := by first | exact d5 | exact und d5 | exact undN d5 | exact below_new d5 | exact und (below_new d5) | exact below_new (und d5) | exact below_new (below_new d5) | exact step (below_drew _) (und (below_new d5))
             have I0' := Lib.hid (I0.out.step b5)
             clear I0
             have I0 := I0'
             clear I0'
             have I1' := Lib.hid (I1.out.step b5)
             clear I1
             have I1 := I1'
             clear I1'
             have X1' := Lib.hid (X1.out.step b5)
             clear X1
             have X1 := X1'
             clear X1'
             have R3' := Lib.hid (R3.out.step b5)
             clear R3
             have R3 := R3'
             clear R3'
             have R4' := Lib.hid (R4.out.step b5)
             clear R4
             have R4 := R4'
             clear R4'
             have T5 := step T4 b5
             have Z5 := b5.size
             have P5 := Lib.hid (show PX u5 u4.heap.size u5.heap.size g5 (cp5 * 2) res from p5)
             clear p5))
      go_wp2_with fail
      refine (toFactS_p A0 c0 l0 hz0 _ (by first | exact I0.out | exact I0.out.step (below_drew _) | exact I0.out.step (below_alloc _ _))).mono ?_
      rintro e u6 ⟨rfl, r6, d6, z6⟩
      have b6 : Below u5.heap.size u5 u6 := by first | exact d6 | exact und d6 | exact undN d6 | exact below_new d6 | exact und (below_new d6) | exact below_new (und d6) | exact below_new (below_new d6) | exact step (below_drew _) (und (below_new d6))
      have I0' := Lib.hid (I0.out.step b6)
      clear I0
      have I0 := I0'
      clear I0'
      have I1' := Lib.hid (I1.out.step b6)
      clear I1
      have I1 := I1'
      clear I1'
      have X1' := Lib.hid (X1.out.step b6)
      clear X1
      have X1 := X1'
      clear X1'
      have P5' := Lib.hid (P5.out.step b6)
      clear P5
      have P5 := P5'
      clear P5'
      have T6 := step T5 b6
      have Z6 := b6.size
      have Q6 := Lib.hid r6
      have y6 := z6
      clear r6 z6
      have gc0 := X1.out.cell 0
      have gc1 := X1.out.cell 1
      simp only [List.getElem?_toArray, List.getElem?_cons_zero, List.getElem?_cons_succ] at gc0 gc1
      have gcn := X1.out.lt
      go_wp2_with fail
      refine (toFact_r r1 s1 A1 c1 hl1 _ (by first | exact I1.out | exact I1.out.step (below_drew _) | exact I1.out.step (below_alloc _ _))).mono ?_
      rintro e u7 ⟨rfl, r7, d7, z7⟩
      have b7 : Below u6.heap.size u6 u7 := by first | exact d7 | exact und d7 | exact undN d7 | exact below_new d7 | exact und (below_new d7) | exact below_new (und d7) | exact below_new (below_new d7) | exact step (below_drew _) (und (below_new d7))
      have I0' := Lib.hid (I0.out.step b7)
      clear I0
      have I0 := I0'
      clear I0'
      have I1' := Lib.hid (I1.out.step b7)
      clear I1
      have I1 := I1'
      clear I1'
      have X1' := Lib.hid (X1.out.step b7)
      clear X1
      have X1 := X1'
      clear X1'
      have P5' := Lib.hid (P5.out.step b7)
      clear P5
      have P5 := P5'
      clear P5'
      have Q6' := Lib.hid (Q6.out.step b7)
      clear Q6
      have Q6 := Q6'
      clear Q6'
      have T7 := step T6 b7
      have Z7 := b7.size
      have R7 := Lib.hid r7
      have y7 : u6.heap.size + 3 < u7.heap.size := by omega
      clear r7 z7
      go_wp2_with fail
      refine (CI.out u5.heap.size 0 l0.length _ _ (Nat.le_refl _) (by omega) (Nat.le_refl _) (by unfold maxLen; omega) _ (by first | exact Q6.out.rf | exact (Q6.out.step (below_drew _)).rf | exact (Q6.out.step (below_alloc _ _)).rf) (by first | exact R7.out.ri | exact (R7.out.step (below_drew _)).ri | exact (R7.out.step (below_alloc _ _)).ri)).mono ?_
      rintro e u8 ⟨g8, cp8, rfl, p8, d8⟩
      have Y1 := Lib.hid (Box.of_new d8)
      have b8 : Below u7.heap.size u7 u8 := by first | exact d8 | exact und d8 | exact undN d8 | exact below_new d8 | exact und (below_new d8) | exact below_new (und d8) | exact below_new (below_new d8) | exact step (below_drew _) (und (below_new d8))
      have I0' := Lib.hid (I0.out.step b8)
      clear I0
      have I0 := I0'
      clear I0'
      have I1' := Lib.hid (I1.out.step b8)
      clear I1
      have I1 := I1'
      clear I1'
      have X1' := Lib.hid (X1.out.step b8)
      clear X1
      have X1 := X1'
      clear X1'
      have P5' := Lib.hid (P5.out.step b8)
      clear P5
      have P5 := P5'
      clear P5'
      have Q6' := Lib.hid (Q6.out.step b8)
      clear Q6
      have Q6 := Q6'
      clear Q6'
      have R7' := Lib.hid (R7.out.step b8)
      clear R7
      have R7 := R7'
      clear R7'
      have T8 := step T7 b8
      have Z8 := b8.size
      rw [al_size] at p8
      have P8 := Lib.hid p8
      have y8 : u7.heap.size + 1 ≤ u8.heap.size := by have := p8.2.1; have := d8.size; rw [al_size] at this; exact this
      clear p8
      go_wp2_with fail
      refine (eqFactS_b _ _ _ _ res hzr _ (by first | exact P8.out.rf | exact (P8.out.step (below_drew _)).rf | exact (P8.out.step (below_alloc _ _)).rf) (by first | exact P5.out.rf | exact (P5.out.step (below_drew _)).rf | exact (P5.out.step (below_alloc _ _)).rf)).mono ?_
      rintro e u9 ⟨rfl, d9⟩
      have b9 : Below u8.heap.size u8 u9 := by first | exact d9 | exact und d9 | exact undN d9 | exact below_new d9 | exact und (below_new d9) | exact below_new (und d9) | exact below_new (below_new d9) | exact step (below_drew _) (und (below_new d9))
      have I0' := Lib.hid (I0.out.step b9)
      clear I0
      have I0 := I0'
      clear I0'
      have I1' := Lib.hid (I1.out.step b9)
      clear I1
      have I1 := I1'
      clear I1'
      have X1' := Lib.hid (X1.out.step b9)
      clear X1
      have X1 := X1'
      clear X1'
      have P5' := Lib.hid (P5.out.step b9)
      clear P5
      have P5 := P5'
      clear P5'
      have Q6' := Lib.hid (Q6.out.step b9)
      clear Q6
      have Q6 := Q6'
      clear Q6'
      have R7' := Lib.hid (R7.out.step b9)
      clear R7
      have R7 := R7'
      clear R7'
      have P8' := Lib.hid (P8.out.step b9)
      clear P8
      have P8 := P8'
      clear P8'
      have Y1' := Lib.hid (Y1.out.step b9)
      clear Y1
      have Y1 := Y1'
      clear Y1'
      have T9 := step T8 b9
      have Z9 := b9.size
      go_wp2_with fail
      refine (toFactS_r A0 c0 l0 hz0 _ (by first | exact I0.out | exact I0.out.step (below_drew _) | exact I0.out.step (below_alloc _ _))).mono ?_
      rintro e u10 ⟨rfl, r10, d10, z10⟩
      have b10 : Below u9.heap.size u9 u10 := by first | exact d10 | exact und d10 | exact undN d10 | exact below_new d10 | exact und (below_new d10) | exact below_new (und d10) | exact below_new (below_new d10) | exact step (below_drew _) (und (below_new d10))
      have I0' := Lib.hid (I0.out.step b10)
      clear I0
      have I0 := I0'
      clear I0'
      have I1' := Lib.hid (I1.out.step b10)
      clear I1
      have I1 := I1'
      clear I1'
      have X1' := Lib.hid (X1.out.step b10)
      clear X1
      have X1 := X1'
      clear X1'
      have P5' := Lib.hid (P5.out.step b10)
      clear P5
      have P5 := P5'
      clear P5'
      have Q6' := Lib.hid (Q6.out.step b10)
      clear Q6
      have Q6 := Q6'
      clear Q6'
      have R7' := Lib.hid (R7.out.step b10)
      clear R7
      have R7 := R7'
      clear R7'
      have P8' := Lib.hid (P8.out.step b10)
      clear P8
      have P8 := P8'
      clear P8'
      have Y1' := Lib.hid (Y1.out.step b10)
      clear Y1
      have Y1 := Y1'
      clear Y1'
      have T10 := step T9 b10
      have Z10 := b10.size
      have R10 := Lib.hid r10
      clear r10 z10
      go_wp2_with fail
      refine (eqFactS_r _ _ _ _ l0 hz0 _ (by first | exact Q6.out.rf | exact (Q6.out.step (below_drew _)).rf | exact (Q6.out.step (below_alloc _ _)).rf) (by first | exact R10.out | exact R10.out.step (below_drew _) | exact R10.out.step (below_alloc _ _))).mono ?_
      rintro e u11 ⟨rfl, d11⟩
      have b11 : Below u10.heap.size u10 u11 := by first | exact d11 | exact und d11 | exact undN d11 | exact below_new d11 | exact und (below_new d11) | exact below_new (und d11) | exact below_new (below_new d11) | exact step (below_drew _) (und (below_new d11))
      have I0' := Lib.hid (I0.out.step b11)
      clear I0
      have I0 := I0'
      clear I0'
      have I1' := Lib.hid (I1.out.step b11)
      clear I1
      have I1 := I1'
      clear I1'
      have X1' := Lib.hid (X1.out.step b11)
      clear X1
      have X1 := X1'
      clear X1'
      have P5' := Lib.hid (P5.out.step b11)
      clear P5
      have P5 := P5'
      clear P5'
      have Q6' := Lib.hid (Q6.out.step b11)
      clear Q6
      have Q6 := Q6'
      clear Q6'
      have R7' := Lib.hid (R7.out.step b11)
      clear R7
      have R7 := R7'
      clear R7'
      have P8' := Lib.hid (P8.out.step b11)
      clear P8
      have P8 := P8'
      clear P8'
      have Y1' := Lib.hid (Y1.out.step b11)
      clear Y1
      have Y1 := Y1'
      clear Y1'
      have R10' := Lib.hid (R10.out.step b11)
      clear R10
      have R10 := R10'
      clear R10'
      have T11 := step T10 b11
      have Z11 := b11.size
      have gd0 := X1.out.cell 0
      have gd1 := X1.out.cell 1
      simp only [List.getElem?_toArray, List.getElem?_cons_zero, List.getElem?_cons_succ] at gd0 gd1
      have gdn := X1.out.lt
      have ge0 := Y1.out.cell 0
      have ge1 := Y1.out.cell 1
      simp only [List.getElem?_toArray, List.getElem?_cons_zero, List.getElem?_cons_succ] at ge0 ge1
      have gen := Y1.out.lt
      have tok12 : True := trivial
      have tok13 : True := trivial
      go_wp2_with fail
      go_region_held3 (fun w' => w'.cell? ⟨w.heap.size, 0, none⟩ = some (.int .i64 r1) ∧ w'.cell? ⟨w.heap.size, 1, none⟩ = some (.slice A1 s1.length c1) ∧ w'.cell? ⟨u7.heap.size, 0, none⟩ = some (.int .i64 r1) ∧ w'.cell? ⟨u7.heap.size, 1, none⟩ = some (.slice (some ⟨u6.heap.size + 3, 0, none⟩) s1.length s1.length))
        (first
          | go_keep
          | (go_split_ands; refine ⟨?_, ?_, ?_, ?_⟩ <;> (rw [d12.cell (by (try simp) <;> omega)]; assumption))
          | (go_split_ands; refine ⟨?_, ?_, ?_, ?_⟩ <;> (rw [d13.cell (by (try simp) <;> omega)]; assumption)))
        (first
          | (go_at_call 13
             clear tok12
             refine (toFact_r r1 s1 A1 c1 hl1 _ (by first | exact I1.out | exact I1.out.step (below_drew _) | exact I1.out.step (below_alloc _ _))).mono ?_
             rintro e u12 ⟨rfl, r12, d12, z12⟩
             have b12 : Below u11.heap.size u11 u12 := by first | exact d12 | exact und d12 | exact undN d12 | exact below_new d12 | exact und (below_new d12) | exact below_new (und d12) | exact below_new (below_new d12) | exact step (below_drew _) (und (below_new d12))
             have I0' := Lib.hid (I0.out.step b12)
             clear I0
             have I0 := I0'
             clear I0'
             have I1' := Lib.hid (I1.out.step b12)
             clear I1
             have I1 := I1'
             clear I1'
             have X1' := Lib.hid (X1.out.step b12)
             clear X1
             have X1 := X1'
             clear X1'
             have P5' := Lib.hid (P5.out.step b12)
             clear P5
             have P5 := P5'
             clear P5'
             have Q6' := Lib.hid (Q6.out.step b12)
             clear Q6
             have Q6 := Q6'
             clear Q6'
             have R7' := Lib.hid (R7.out.step b12)
             clear R7
             have R7 := R7'
             clear R7'
             have P8' := Lib.hid (P8.out.step b12)
             clear P8
             have P8 := P8'
             clear P8'
             have Y1' := Lib.hid (Y1.out.step b12)
             clear Y1
             have Y1 := Y1'
             clear Y1'
             have T12 := step T11 b12
             have Z12 := b12.size
             have R12 := Lib.hid r12.ri
             clear r12 z12)
          | (go_at_call 16
             clear tok13
             refine (eqFact_r r1 s1 _ _ _ _ hl1 _ (by first | exact R7.out.ri | exact (R7.out.step (below_drew _)).ri | exact (R7.out.step (below_alloc _ _)).ri) (by first | exact R12.out | exact R12.out.step (below_drew _) | exact R12.out.step (below_alloc _ _))).mono ?_
             rintro e u13 ⟨rfl, d13⟩
             have b13 : Below u12.heap.size u12 u13 := by first | exact d13 | exact und d13 | exact undN d13 | exact below_new d13 | exact und (below_new d13) | exact below_new (und d13) | exact below_new (below_new d13) | exact step (below_drew _) (und (below_new d13))
             have I0' := Lib.hid (I0.out.step b13)
             clear I0
             have I0 := I0'
             clear I0'
             have I1' := Lib.hid (I1.out.step b13)
             clear I1
             have I1 := I1'
             clear I1'
             have X1' := Lib.hid (X1.out.step b13)
             clear X1
             have X1 := X1'
             clear X1'
             have P5' := Lib.hid (P5.out.step b13)
             clear P5
             have P5 := P5'
             clear P5'
             have Q6' := Lib.hid (Q6.out.step b13)
             clear Q6
             have Q6 := Q6'
             clear Q6'
             have R7' := Lib.hid (R7.out.step b13)
             clear R7
             have R7 := R7'
             clear R7'
             have P8' := Lib.hid (P8.out.step b13)
             clear P8
             have P8 := P8'
             clear P8'
             have Y1' := Lib.hid (Y1.out.step b13)
             clear Y1
             have Y1 := Y1'
             clear Y1'
             have R12' := Lib.hid (R12.out.step b13)
             clear R12
             have R12 := R12'
             clear R12'
             have T13 := step T12 b13
             have Z13 := b13.size))
      have w5 : w.heap.size ≤ u5.heap.size := by omega
      go_wp2_with fail
      refine (markFactS_any u5.heap.size u6.heap.size u5.heap.size (l0.length * 2) _ 1 l0 (by omega) (by omega) (by omega) (Nat.le_refl _) _ Q6.out.1).mono ?_
      rintro e v1 ⟨rfl, _, W1⟩
      have s1' : v1.heap.size = u13.heap.size := W1.size
      have P5a := Lib.hid (P5.out.keep (w' := v1) (fun b _ h2 => W1.block b (.inl h2)) (by omega))
      have P8a := Lib.hid (P8.out.keep (w' := v1) (fun b h1 _ => W1.block b (.inr (by omega))) (by omega))
      have R7a := Lib.hid (R7.out.of_block (W1.block _ (.inr (by omega))))
      have Y1a := Lib.hid (show Box v1 u7.heap.size _ _ from (W1.block _ (.inr (by omega))).trans Y1.out)
      have X1a := Lib.hid (show Box v1 w.heap.size _ _ from (W1.block _ (.inl (by have := X1.out.lt; omega))).trans X1.out)
      have TA := Lib.hid (T13.trans (W1.below.mono w5))
      clear W1 P5 P8 R7 Y1 X1 Q6
      have gf0 := Y1a.out.cell 0
      have gf1 := Y1a.out.cell 1
      simp only [List.getElem?_toArray, List.getElem?_cons_zero, List.getElem?_cons_succ] at gf0 gf1
      go_wp2_with fail
      refine (markFact_any 0 (u6.heap.size + 3) s1.length s1.length s1.length r1 (1 + szF l0) (some ⟨u6.heap.size + 3, 0, none⟩) (fun i => .int .i64 (s1.getD i 0)) _ hl1 (by omega) (by omega) (fun _ => rfl) (Nat.le_refl _) (by omega) (fun _ => R7a.out)).mono ?_
      rintro e v2 ⟨rfl, K2, B2⟩
      have s2' := B2.size
      have P5b := Lib.hid (P5a.out.keep (w' := v2) (fun b _ h2 => K2 b (by omega) (by omega)) (by omega))
      have P8b := Lib.hid (P8a.out.keep (w' := v2) (fun b h1 h2 => K2 b (by omega) (by have := P8a.out.2.1; omega)) (by omega))
      have X1b := Lib.hid (show Box v2 w.heap.size _ _ from (K2 _ (by omega) (by omega)).trans X1a.out)
      have TB := Lib.hid (TA.out.trans (B2.mono (by omega)))
      have hk2 : 0 ≤ 1 + szF l0 + (s1.length : Int) := by omega
      have hk2' : ¬ (1 + szF l0 + (s1.length : Int) < 0) := by omega
      clear K2 B2 P5a P8a R7a Y1a X1a TA gf0 gf1
      go_wp2_with fail
      refine (eqFactS_b _ _ _ _ res hzr _ P8b.out.rf P5b.out.rf).mono ?_
      rintro e v3 ⟨rfl, D3⟩
      have P5c := Lib.hid (P5b.out.step D3)
      have P8c := Lib.hid (P8b.out.step D3)
      have X1c := Lib.hid (X1b.out.step D3)
      have TC := Lib.hid (step TB.out D3)
      have s3' := D3.size
      clear D3 P5b P8b X1b TB
      go_wp2_with fail
      refine (markFactS_any (u7.heap.size + 1) u8.heap.size g8 (cp8 * 2) _ 1 res hzr (by omega) (by omega) P8c.out.2.2 _ P8c.out.1).mono ?_
      rintro e v4 ⟨rfl, O4, W4⟩
      have P5d := Lib.hid (P5c.out.keep (w' := v4) (fun b _ h2 => W4.block b (.inl (by omega))) (by have := W4.size; omega))
      have X1d := Lib.hid (show Box v4 w.heap.size _ _ from (W4.block _ (.inl (by omega))).trans X1c.out)
      have TV := TC.out.trans (W4.below.mono (by omega))
      have HR := Lib.hid (show RF v4 (some ⟨g8, 0, none⟩) (mkK 1 res res.length) from (OwnP.facts (by rw [mkK_length]; exact O4) (by rw [mkK_length]; exact P8c.out.2.2)).mono (Nat.zero_le _) (by have := P8c.out.2.1; have := W4.size; omega))
      have I0v := Lib.hid ((show RF w A0 l0 from I0w.out).step TV)
      have I1v := Lib.hid ((show RI w A1 s1 from I1w.out).step TV)
      have hq0 : ¬ (1 + szF res < 0) := by omega
      have hq1 : 0 ≤ 1 + szF res := by omega
      clear W4 O4 P5c P8c X1c TC
      go_wp2_with fail
      refine (heldFactS_any (some ⟨g8, 0, none⟩) _ 1 res hzr (by omega) (by omega) _ HR.out).mono ?_
      rintro e v5 ⟨rfl, rfl⟩
      have gh0 := X1d.out.cell 0
      have gh1 := X1d.out.cell 1
      simp only [List.getElem?_toArray, List.getElem?_cons_zero, List.getElem?_cons_succ] at gh0 gh1
      have ghn := X1d.out.lt
      have tok31 : True := trivial
      have tok32 : True := trivial
      have tok33 : True := trivial
      go_wp2_with fail
      go_region_held3 (fun w' => w'.cell? ⟨w.heap.size, 0, none⟩ = some (.int .i64 r1) ∧ w'.cell? ⟨w.heap.size, 1, none⟩ = some (.slice A1 s1.length c1))
        (first
          | go_keep
          | (go_split_ands; refine ⟨?_, ?_⟩ <;> (rw [d31.cell (by (try simp) <;> omega)]; assumption))
          | (go_split_ands; refine ⟨?_, ?_⟩ <;> (rw [d32.cell (by (try simp) <;> omega)]; assumption))
          | (go_split_ands; refine ⟨?_, ?_⟩ <;> (rw [d33.cell (by (try simp) <;> omega)]; assumption)))
        (first
          | (go_at_call 12
             clear tok31
             refine (toFactS_p A0 c0 l0 hz0 _ (by first | exact I0v.out | exact I0v.out.step (below_drew _) | exact I0v.out.step (below_alloc _ _))).mono ?_
             rintro e u31 ⟨rfl, r31, d31, z31⟩
             have b31 : Below v4.heap.size v4 u31 := by first | exact d31 | exact und d31 | exact undN d31 | exact below_new d31 | exact und (below_new d31) | exact below_new (und d31) | exact below_new (below_new d31) | exact step (below_drew _) (und (below_new d31))
             have I0v' := Lib.hid (I0v.out.step b31)
             clear I0v
             have I0v := I0v'
             clear I0v'
             have I1v' := Lib.hid (I1v.out.step b31)
             clear I1v
             have I1v := I1v'
             clear I1v'
             have X1d' := Lib.hid (X1d.out.step b31)
             clear X1d
             have X1d := X1d'
             clear X1d'
             have P5d' := Lib.hid (P5d.out.step b31)
             clear P5d
             have P5d := P5d'
             clear P5d'
             have HR' := Lib.hid (HR.out.step b31)
             clear HR
             have HR := HR'
             clear HR'
             have T31 := step TV b31
             have Z31 := b31.size
             have R31 := Lib.hid r31.rf
             clear r31 z31)
          | (go_at_call 13
             clear tok32
             refine (toFact_r r1 s1 A1 c1 hl1 _ (by first | exact I1v.out | exact I1v.out.step (below_drew _) | exact I1v.out.step (below_alloc _ _))).mono ?_
             rintro e u32 ⟨rfl, r32, d32, z32⟩
             have b32 : Below u31.heap.size u31 u32 := by first | exact d32 | exact und d32 | exact undN d32 | exact below_new d32 | exact und (below_new d32) | exact below_new (und d32) | exact below_new (below_new d32) | exact step (below_drew _) (und (below_new d32))
             have I0v' := Lib.hid (I0v.out.step b32)
             clear I0v
             have I0v := I0v'
             clear I0v'
             have I1v' := Lib.hid (I1v.out.step b32)
             clear I1v
             have I1v := I1v'
             clear I1v'
             have X1d' := Lib.hid (X1d.out.step b32)
             clear X1d
             have X1d := X1d'
             clear X1d'
             have P5d' := Lib.hid (P5d.out.step b32)
             clear P5d
             have P5d := P5d'
             clear P5d'
             have HR' := Lib.hid (HR.out.step b32)
             clear HR
             have HR := HR'
             clear HR'
             have R31' := Lib.hid (R31.out.step b32)
             clear R31
             have R31 := R31'
             clear R31'
             have T32 := step T31 b32
             have Z32 := b32.size
             have R32 := Lib.hid r32.ri
             clear r32 z32)
          | (go_at_call 14
             clear tok33
             refine (CI.out _ _ _ _ _ (Nat.le_refl _) (by omega) (Nat.le_refl _) (by unfold maxLen; omega) _ (by first | exact R31.out | exact R31.out.step (below_drew _) | exact R31.out.step (below_alloc _ _)) (by first | exact R32.out | exact R32.out.step (below_drew _) | exact R32.out.step (below_alloc _ _))).mono ?_
             rintro e u33 ⟨g33, cp33, rfl, p33, d33⟩
             have b33 : Below u32.heap.size u32 u33 := by first | exact d33 | exact und d33 | exact undN d33 | exact below_new d33 | exact und (below_new d33) | exact below_new (und d33) | exact below_new (below_new d33) | exact step (below_drew _) (und (below_new d33))
             have I0v' := Lib.hid (I0v.out.step b33)
             clear I0v
             have I0v := I0v'
             clear I0v'
             have I1v' := Lib.hid (I1v.out.step b33)
             clear I1v
             have I1v := I1v'
             clear I1v'
             have X1d' := Lib.hid (X1d.out.step b33)
             clear X1d
             have X1d := X1d'
             clear X1d'
             have P5d' := Lib.hid (P5d.out.step b33)
             clear P5d
             have P5d := P5d'
             clear P5d'
             have HR' := Lib.hid (HR.out.step b33)
             clear HR
             have HR := HR'
             clear HR'
             have R31' := Lib.hid (R31.out.step b33)
             clear R31
             have R31 := R31'
             clear R31'
             have R32' := Lib.hid (R32.out.step b33)
             clear R32
             have R32 := R32'
             clear R32'
             have T33 := step T32 b33
             have Z33 := b33.size
             have P33 := Lib.hid (show PX u33 u32.heap.size u33.heap.size g33 (cp33 * 2) res from p33)
             clear p33))
      go_wp2_with fail
      refine (eqFactS_b _ _ _ _ res hzr _ (by first | exact P33.out.rf | exact (P33.out.step (below_drew _)).rf | exact (P33.out.step (below_alloc _ _)).rf) (by first | exact P5d.out.rf | exact (P5d.out.step (below_drew _)).rf | exact (P5d.out.step (below_alloc _ _)).rf)).mono ?_
      rintro e u34 ⟨rfl, d34⟩
      have b34 : Below u33.heap.size u33 u34 := by first | exact d34 | exact und d34 | exact undN d34 | exact below_new d34 | exact und (below_new d34) | exact below_new (und d34) | exact below_new (below_new d34) | exact step (below_drew _) (und (below_new d34))
      have I0v' := Lib.hid (I0v.out.step b34)
      clear I0v
      have I0v := I0v'
      clear I0v'
      have I1v' := Lib.hid (I1v.out.step b34)
      clear I1v
      have I1v := I1v'
      clear I1v'
      have X1d' := Lib.hid (X1d.out.step b34)
      clear X1d
      have X1d := X1d'
      clear X1d'
      have P5d' := Lib.hid (P5d.out.step b34)
      clear P5d
      have P5d := P5d'
      clear P5d'
      have HR' := Lib.hid (HR.out.step b34)
      clear HR
      have HR := HR'
      clear HR'
      have P33' := Lib.hid (P33.out.step b34)
      clear P33
      have P33 := P33'
      clear P33'
      have T34 := step T33 b34
      have Z34 := b34.size
      go_wp2_with fail
      refine (heldFactS_any (some ⟨g8, 0, none⟩) _ 1 res hzr (by omega) (by omega) _ HR.out).mono ?_
      rintro e v9 ⟨rfl, rfl⟩
      go_wp2
      go_ret
      exact ⟨rfl, T34⟩

set_option maxRecDepth 100000 in
theorem lifted (os : Os) (started : os.Started) (H : Type) (enc : TypeId × Value → H) :
    ReturnsInHanded {} Try.checked os 3 .any (Rows.fnExactAddFactSpec.pre6 enc Try.prog Try.f3 Rows.fnExactAddFactRow.domain false) (Rows.fnExactAddFactSpec.post enc Try.prog Try.f3 false true false false) := by
  refine returnsInHanded_of_change (C := Try.checked) own started (by kernel_rfl) Try.func3
    (ChangeSpec.witness6 (enc := enc) (C := Try.checked) false ⟨#[], #[.slice none 0 0, .agg #[.int .i64 0, .slice none 0 0]], []⟩ 8 (by kernel_rfl) (by kernel_rfl) (by kernel_rfl) (by kernel_rfl)) ?_
  intro W base args ds gs before hval0 hW hcnd _
  have hval : ∀ (j : Nat) t v, Try.f3.params[j]? = some t → args[j]? = some v → Value.okWide Try.prog W .any base t v := hval0
  have hpost := fun (W' : World) (hfn : Rows.fnExactAddFactSpec.fn H (ds ++ gs) = { results := [.lit (.bool true)], args := ds }) (hb : Below W.heap.size W W') => law_post (enc := enc) laidOut (f := Try.f3) (s := Rows.fnExactAddFactSpec) (args := args) rfl rfl Try.underlying4 (by intro t ht; rw [Try.params3] at ht; simp at ht; rcases ht with rfl | rfl <;> exact ⟨by kernel_rfl, of_decide_eq_true (by kernel_rfl)⟩) hW hfn hb
  obtain ⟨p, q, hA0, hV, rfl, hfz, hnd⟩ := hW
  have hA : DataW.TrodAll enc Try.prog W 0 (fun _ => true) true Try.f3.params.toList args.toList ds p := hA0
  rw [Try.params3] at hA hval
  obtain ⟨v0, vs0, d0, ds0, p0, q0, hargs, rfl, rfl, h0, r0⟩ := trodAll_cons hA
  obtain ⟨v1, vs1, d1, ds1, p1, q1, rfl, rfl, rfl, h1, r1⟩ := trodAll_cons r0
  obtain ⟨rfl, rfl, rfl⟩ := trodAll_nil r1
  obtain rfl : args = #[v0, v1] := by cases args; simp_all
  obtain ⟨rfl, rfl⟩ := trodVars_none hV
  obtain ⟨A0, c0, l0, rfl, k0, m0, w0⟩ := open_factsT (hval 0 22 v0 rfl rfl) h0
  obtain ⟨f1, A1, c1, rfl, l1, m1, w1⟩ := open_factT (hval 1 25 v1 rfl rfl) h1
  refine (walk W A0 c0 l0 k0 m0 w0 f1 A1 c1 l1 m1 w1).mono fun e W' ⟨he, hg⟩ => ?_
  subst he
  exact ⟨_, rfl, hpost W' rfl hg⟩

theorem over : Rows.fnExactAddFactRow.holds Try.pinned (OpenSpec.ofChange Rows.fnExactAddFactSpec) :=
  OpenClaim.holds_of_wide 3 Try.f3 rfl rfl rfl rfl rfl rfl rfl ⟨rfl, rfl, rfl, rfl, rfl⟩ rfl rfl rfl rfl rfl (by kernel_rfl) Try.func3 (by kernel_rfl)
    (of_decide_eq_true (by kernel_rfl)) (by unfold Func.isWrapper; first | (rw [if_pos (by decide +kernel)]; kernel_rfl) | (rw [if_neg (by decide +kernel)]; exact ⟨rfl, rfl⟩))
    (fun os started H enc _ => lifted os started H enc)
end Go.Proofs.Ytdakfcgjnmmdgaa.fnExactAddFact
namespace Go.Proofs.Ytdakfcgjnmmdgaa
theorem fnExactAddFact_holds : Rows.FnExactAddFactSaid := fnExactAddFact.over
#print axioms fnExactAddFact_holds
end Go.Proofs.Ytdakfcgjnmmdgaa
