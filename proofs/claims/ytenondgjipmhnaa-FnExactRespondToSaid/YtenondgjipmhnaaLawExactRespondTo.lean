/- impl.RespondTo answers as its model at every argument: the law FnExactRespondTo returns true. Conditions: none beyond the statement's own. -/
import Derived.Test.YtenondgjipmhnaaMrkM
import Derived.Test.YtenondgjipmhnaaRs9
namespace Go.Proofs.Ytenondgjipmhnaa.fnExactRespondTo
open Go.ChangeShapes Go.WideShapes Go.ChangeAt Go.RowKit
open Go.ChangeMaps (open_string shut_string)
set_option linter.unusedVariables false
set_option linter.unusedSimpArgs false

set_option maxRecDepth 100000 in
set_option maxHeartbeats 1000000 in
theorem walk (w : World) (A0 : Option Addr) (c0 : Nat) (s0 : List Int) (l0 : s0.length ≤ c0) (m0 : c0 ≤ maxLen) (w0 : Ints w 0 w.heap.size A0 s0) (A1 : Option Addr) (c1 : Nat) (l1 : ML) (k1 : l1.length ≤ c1) (m1 : c1 ≤ maxLen) (w1 : Meths w 0 w.heap.size A1 l1) (A2 : Option Addr) (c2 : Nat) (l2 : List (Int × List Int)) (k2 : l2.length ≤ c2) (m2 : c2 ≤ maxLen) (w2 : Facts w 0 w.heap.size A2 l2) (f3 : Int × List Int) (A3 : Option Addr) (c3 : Nat) (l3 : f3.2.length ≤ c3) (m3 : c3 ≤ maxLen) (w3 : Ints w 0 w.heap.size A3 f3.2) (a4 : Int) (w4 : (Lit.int .i64 a4).wf = true) :
    Calls Try.prog 7 #[.slice A0 s0.length c0, .slice A1 l1.length c1, .slice A2 l2.length c2, .agg #[.int .i64 f3.1, .slice A3 f3.2.length c3], .int .i64 a4] w fun e w' => e = .returned (.bool true) ∧ Below w.heap.size w w' := by
  unfold maxLen at m0 m1 m2 m3
  obtain ⟨r3, s3⟩ := f3
  have hcw : -9223372036854775808 ≤ a4 ∧ a4 ≤ 9223372036854775807 := by have h := w4; simp [Lit.wf, IntKind.min, IntKind.max, IntKind.signed, IntKind.bits] at h; omega
  obtain ⟨hc1, hc2⟩ := hcw
  clear w4
  have hn1 := szM_nonneg l1
  have hn2 := szF_nonneg l2
  simp only at l3 w3 ⊢
  by_cases hb0 : (1048576 : Int) < s0.length
  · have I0 := Lib.hid (show RI w A0 s0 from w0)
    have I1 := Lib.hid (show RM w A1 l1 from w1)
    have I2 := Lib.hid (show RF w A2 l2 from w2)
    have I3 := Lib.hid (show RI w A3 s3 from w3)
    clear w0 w1 w2 w3
    go_enter Try.func7, Try.ntmps7
    go_wp2
    go_ret
    exact ⟨rfl, below_alloc _ _⟩
  · skip
    by_cases hb1 : 1048576 - szM l1 < 0
    · have I0 := Lib.hid (show RI w A0 s0 from w0)
      have I1 := Lib.hid (show RM w A1 l1 from w1)
      have I2 := Lib.hid (show RF w A2 l2 from w2)
      have I3 := Lib.hid (show RI w A3 s3 from w3)
      clear w0 w1 w2 w3
      go_enter Try.func7, Try.ntmps7
      go_wp2_with fail
      refine (szMethodS_any A1 c1 l1 1048576 (by omega) (by omega) (by omega) _ (by first | exact I1.out | exact I1.out.step (below_drew _) | exact I1.out.step (below_alloc _ _) | exact I1.out.step (step (below_alloc _ _) (below_alloc _ _)))).mono ?_
      rintro e u1 ⟨he, d1⟩
      rw [if_pos hb1] at he
      subst he
      have X3 := Lib.hid (Box.of_new d1)
      have b1 : Below w.heap.size w u1 := by first | exact d1 | exact und d1 | exact undN d1 | exact below_new d1 | exact und (below_new d1) | exact below_new (und d1) | exact below_new (below_new d1) | exact step (below_drew _) (und (below_new d1))
      have I0' := Lib.hid (I0.out.step b1)
      clear I0
      have I0 := I0'
      clear I0'
      have I1' := Lib.hid (I1.out.step b1)
      clear I1
      have I1 := I1'
      clear I1'
      have I2' := Lib.hid (I2.out.step b1)
      clear I2
      have I2 := I2'
      clear I2'
      have I3' := Lib.hid (I3.out.step b1)
      clear I3
      have I3 := I3'
      clear I3'
      have T1 := b1
      have Z1 := b1.size
      have ga0 := X3.out.cell 0
      have ga1 := X3.out.cell 1
      simp only [List.getElem?_toArray, List.getElem?_cons_zero, List.getElem?_cons_succ] at ga0 ga1
      have gan := X3.out.lt
      go_wp2
      go_ret
      exact ⟨rfl, T1⟩
    · skip
      by_cases hb2 : (1048576 - szM l1) - szF l2 < 0
      · have I0 := Lib.hid (show RI w A0 s0 from w0)
        have I1 := Lib.hid (show RM w A1 l1 from w1)
        have I2 := Lib.hid (show RF w A2 l2 from w2)
        have I3 := Lib.hid (show RI w A3 s3 from w3)
        clear w0 w1 w2 w3
        go_enter Try.func7, Try.ntmps7
        go_wp2_with fail
        refine (szMethodS_any A1 c1 l1 1048576 (by omega) (by omega) (by omega) _ (by first | exact I1.out | exact I1.out.step (below_drew _) | exact I1.out.step (below_alloc _ _) | exact I1.out.step (step (below_alloc _ _) (below_alloc _ _)))).mono ?_
        rintro e u1 ⟨he, d1⟩
        rw [if_neg (show ¬ (1048576 - szM l1 < 0) by omega)] at he
        subst he
        have X3 := Lib.hid (Box.of_new d1)
        have b1 : Below w.heap.size w u1 := by first | exact d1 | exact und d1 | exact undN d1 | exact below_new d1 | exact und (below_new d1) | exact below_new (und d1) | exact below_new (below_new d1) | exact step (below_drew _) (und (below_new d1))
        have I0' := Lib.hid (I0.out.step b1)
        clear I0
        have I0 := I0'
        clear I0'
        have I1' := Lib.hid (I1.out.step b1)
        clear I1
        have I1 := I1'
        clear I1'
        have I2' := Lib.hid (I2.out.step b1)
        clear I2
        have I2 := I2'
        clear I2'
        have I3' := Lib.hid (I3.out.step b1)
        clear I3
        have I3 := I3'
        clear I3'
        have T1 := b1
        have Z1 := b1.size
        have ga0 := X3.out.cell 0
        have ga1 := X3.out.cell 1
        simp only [List.getElem?_toArray, List.getElem?_cons_zero, List.getElem?_cons_succ] at ga0 ga1
        have gan := X3.out.lt
        go_wp2_with fail
        refine (szFactS_any A2 c2 l2 (1048576 - szM l1) (by omega) (by omega) (by omega) _ (by first | exact I2.out | exact I2.out.step (below_drew _) | exact I2.out.step (below_alloc _ _) | exact I2.out.step (step (below_alloc _ _) (below_alloc _ _)))).mono ?_
        rintro e u2 ⟨he, d2⟩
        rw [if_pos hb2] at he
        subst he
        have b2 : Below u1.heap.size u1 u2 := by first | exact d2 | exact und d2 | exact undN d2 | exact below_new d2 | exact und (below_new d2) | exact below_new (und d2) | exact below_new (below_new d2) | exact step (below_drew _) (und (below_new d2))
        have I0' := Lib.hid (I0.out.step b2)
        clear I0
        have I0 := I0'
        clear I0'
        have I1' := Lib.hid (I1.out.step b2)
        clear I1
        have I1 := I1'
        clear I1'
        have I2' := Lib.hid (I2.out.step b2)
        clear I2
        have I2 := I2'
        clear I2'
        have I3' := Lib.hid (I3.out.step b2)
        clear I3
        have I3 := I3'
        clear I3'
        have X3' := Lib.hid (X3.out.step b2)
        clear X3
        have X3 := X3'
        clear X3'
        have T2 := step T1 b2
        have Z2 := b2.size
        have gb0 := X3.out.cell 0
        have gb1 := X3.out.cell 1
        simp only [List.getElem?_toArray, List.getElem?_cons_zero, List.getElem?_cons_succ] at gb0 gb1
        have gbn := X3.out.lt
        go_wp2
        go_ret
        exact ⟨rfl, T2⟩
      · skip
        by_cases hb3 : ((1048576 - szM l1) - szF l2) - (s3.length : Int) < 0
        · have I0 := Lib.hid (show RI w A0 s0 from w0)
          have I1 := Lib.hid (show RM w A1 l1 from w1)
          have I2 := Lib.hid (show RF w A2 l2 from w2)
          have I3 := Lib.hid (show RI w A3 s3 from w3)
          clear w0 w1 w2 w3
          go_enter Try.func7, Try.ntmps7
          go_wp2_with fail
          refine (szMethodS_any A1 c1 l1 1048576 (by omega) (by omega) (by omega) _ (by first | exact I1.out | exact I1.out.step (below_drew _) | exact I1.out.step (below_alloc _ _) | exact I1.out.step (step (below_alloc _ _) (below_alloc _ _)))).mono ?_
          rintro e u1 ⟨he, d1⟩
          rw [if_neg (show ¬ (1048576 - szM l1 < 0) by omega)] at he
          subst he
          have X3 := Lib.hid (Box.of_new d1)
          have b1 : Below w.heap.size w u1 := by first | exact d1 | exact und d1 | exact undN d1 | exact below_new d1 | exact und (below_new d1) | exact below_new (und d1) | exact below_new (below_new d1) | exact step (below_drew _) (und (below_new d1))
          have I0' := Lib.hid (I0.out.step b1)
          clear I0
          have I0 := I0'
          clear I0'
          have I1' := Lib.hid (I1.out.step b1)
          clear I1
          have I1 := I1'
          clear I1'
          have I2' := Lib.hid (I2.out.step b1)
          clear I2
          have I2 := I2'
          clear I2'
          have I3' := Lib.hid (I3.out.step b1)
          clear I3
          have I3 := I3'
          clear I3'
          have T1 := b1
          have Z1 := b1.size
          have ga0 := X3.out.cell 0
          have ga1 := X3.out.cell 1
          simp only [List.getElem?_toArray, List.getElem?_cons_zero, List.getElem?_cons_succ] at ga0 ga1
          have gan := X3.out.lt
          go_wp2_with fail
          refine (szFactS_any A2 c2 l2 (1048576 - szM l1) (by omega) (by omega) (by omega) _ (by first | exact I2.out | exact I2.out.step (below_drew _) | exact I2.out.step (below_alloc _ _) | exact I2.out.step (step (below_alloc _ _) (below_alloc _ _)))).mono ?_
          rintro e u2 ⟨he, d2⟩
          rw [if_neg (show ¬ ((1048576 - szM l1) - szF l2 < 0) by omega)] at he
          subst he
          have b2 : Below u1.heap.size u1 u2 := by first | exact d2 | exact und d2 | exact undN d2 | exact below_new d2 | exact und (below_new d2) | exact below_new (und d2) | exact below_new (below_new d2) | exact step (below_drew _) (und (below_new d2))
          have I0' := Lib.hid (I0.out.step b2)
          clear I0
          have I0 := I0'
          clear I0'
          have I1' := Lib.hid (I1.out.step b2)
          clear I1
          have I1 := I1'
          clear I1'
          have I2' := Lib.hid (I2.out.step b2)
          clear I2
          have I2 := I2'
          clear I2'
          have I3' := Lib.hid (I3.out.step b2)
          clear I3
          have I3 := I3'
          clear I3'
          have X3' := Lib.hid (X3.out.step b2)
          clear X3
          have X3 := X3'
          clear X3'
          have T2 := step T1 b2
          have Z2 := b2.size
          have gb0 := X3.out.cell 0
          have gb1 := X3.out.cell 1
          simp only [List.getElem?_toArray, List.getElem?_cons_zero, List.getElem?_cons_succ] at gb0 gb1
          have gbn := X3.out.lt
          go_wp2_with fail
          refine (szAccess_any (r3, s3) A3 c3 ((1048576 - szM l1) - szF l2) (by simp; omega) (by omega) (by omega) _).mono ?_
          rintro e u3 ⟨he, d3⟩
          rw [if_pos hb3] at he
          subst he
          have b3 : Below u2.heap.size u2 u3 := by first | exact d3 | exact und d3 | exact undN d3 | exact below_new d3 | exact und (below_new d3) | exact below_new (und d3) | exact below_new (below_new d3) | exact step (below_drew _) (und (below_new d3))
          have I0' := Lib.hid (I0.out.step b3)
          clear I0
          have I0 := I0'
          clear I0'
          have I1' := Lib.hid (I1.out.step b3)
          clear I1
          have I1 := I1'
          clear I1'
          have I2' := Lib.hid (I2.out.step b3)
          clear I2
          have I2 := I2'
          clear I2'
          have I3' := Lib.hid (I3.out.step b3)
          clear I3
          have I3 := I3'
          clear I3'
          have X3' := Lib.hid (X3.out.step b3)
          clear X3
          have X3 := X3'
          clear X3'
          have T3 := step T2 b3
          have Z3 := b3.size
          have gc0 := X3.out.cell 0
          have gc1 := X3.out.cell 1
          simp only [List.getElem?_toArray, List.getElem?_cons_zero, List.getElem?_cons_succ] at gc0 gc1
          have gcn := X3.out.lt
          go_wp2
          go_ret
          exact ⟨rfl, T3⟩
        · skip
          have hl0 : s0.length ≤ 1048576 := by omega
          have hL0 : (s0.length : Int) ≤ 1048576 := by omega
          have hz1 : szM l1 ≤ 1048576 := by omega
          have hl1 : l1.length ≤ 1048576 := szM_len hz1
          have hL1 : (l1.length : Int) ≤ 1048576 := by omega
          have hz2 : szF l2 ≤ 1048576 := by omega
          have hl2 : l2.length ≤ 1048576 := szF_len hz2
          have hL2 : (l2.length : Int) ≤ 1048576 := by omega
          have hl3 : s3.length ≤ 1048576 := by omega
          have hL3 : (s3.length : Int) ≤ 1048576 := by omega
          have hzr : szF (rsO s0 l1 l2 r3 s3 a4) ≤ 1048577 := by have := szF_rsO s0 l1 l2 r3 s3 a4 hz2; omega
          have hzr6 : szF (rsO s0 l1 l2 r3 s3 a4) ≤ 1048576 := szF_rsO s0 l1 l2 r3 s3 a4 hz2
          have hnr := szF_nonneg (rsO s0 l1 l2 r3 s3 a4)
          have CS := Lib.hid fun (A0 : Option Addr) (c0 : Nat) (A1 : Option Addr) (c1 : Nat) (A2 : Option Addr) (c2 : Nat) (A3 : Option Addr) (c3 : Nat) (w : World) (h0 : RI w A0 s0) (h1 : RM w A1 l1) (h2 : RF w A2 l2) (h3 : RI w A3 s3) => (spec_RespondTo A0 c0 s0 A1 c1 l1 A2 c2 l2 r3 s3 A3 c3 a4 hc1 hc2 hl0 hz1 hz2 hl3 w h0 h1 h2 h3).mono fun _ _ h => h.toPO
          have CI := Lib.hid fun (A0 : Option Addr) (c0 : Nat) (A1 : Option Addr) (c1 : Nat) (A2 : Option Addr) (c2 : Nat) (A3 : Option Addr) (c3 : Nat) (w : World) (h0 : RI w A0 s0) (h1 : RM w A1 l1) (h2 : RF w A2 l2) (h3 : RI w A3 s3) => (impl_RespondTo A0 c0 s0 A1 c1 l1 A2 c2 l2 r3 s3 A3 c3 a4 hc1 hc2 hl0 hz1 hz2 hl3 w h0 h1 h2 h3).mono fun _ _ h => h.toPO
          generalize rsO s0 l1 l2 r3 s3 a4 = res at hzr hzr6 hnr CS CI
          have I0 := Lib.hid (show RI w A0 s0 from w0)
          have I1 := Lib.hid (show RM w A1 l1 from w1)
          have I2 := Lib.hid (show RF w A2 l2 from w2)
          have I3 := Lib.hid (show RI w A3 s3 from w3)
          have I0w := Lib.hid w0
          have I1w := Lib.hid w1
          have I2w := Lib.hid w2
          have I3w := Lib.hid w3
          clear w0 w1 w2 w3
          go_enter Try.func7, Try.ntmps7
          go_wp2_with fail
          refine (szMethodS_any A1 c1 l1 1048576 (by omega) (by omega) (by omega) _ (by first | exact I1.out | exact I1.out.step (below_drew _) | exact I1.out.step (below_alloc _ _) | exact I1.out.step (step (below_alloc _ _) (below_alloc _ _)))).mono ?_
          rintro e u1 ⟨he, d1⟩
          rw [if_neg (show ¬ (1048576 - szM l1 < 0) by omega)] at he
          subst he
          have X3 := Lib.hid (Box.of_new d1)
          have b1 : Below w.heap.size w u1 := by first | exact d1 | exact und d1 | exact undN d1 | exact below_new d1 | exact und (below_new d1) | exact below_new (und d1) | exact below_new (below_new d1) | exact step (below_drew _) (und (below_new d1))
          have I0' := Lib.hid (I0.out.step b1)
          clear I0
          have I0 := I0'
          clear I0'
          have I1' := Lib.hid (I1.out.step b1)
          clear I1
          have I1 := I1'
          clear I1'
          have I2' := Lib.hid (I2.out.step b1)
          clear I2
          have I2 := I2'
          clear I2'
          have I3' := Lib.hid (I3.out.step b1)
          clear I3
          have I3 := I3'
          clear I3'
          have T1 := b1
          have Z1 := b1.size
          have ga0 := X3.out.cell 0
          have ga1 := X3.out.cell 1
          simp only [List.getElem?_toArray, List.getElem?_cons_zero, List.getElem?_cons_succ] at ga0 ga1
          have gan := X3.out.lt
          go_wp2_with fail
          refine (szFactS_any A2 c2 l2 (1048576 - szM l1) (by omega) (by omega) (by omega) _ (by first | exact I2.out | exact I2.out.step (below_drew _) | exact I2.out.step (below_alloc _ _) | exact I2.out.step (step (below_alloc _ _) (below_alloc _ _)))).mono ?_
          rintro e u2 ⟨he, d2⟩
          rw [if_neg (show ¬ ((1048576 - szM l1) - szF l2 < 0) by omega)] at he
          subst he
          have b2 : Below u1.heap.size u1 u2 := by first | exact d2 | exact und d2 | exact undN d2 | exact below_new d2 | exact und (below_new d2) | exact below_new (und d2) | exact below_new (below_new d2) | exact step (below_drew _) (und (below_new d2))
          have I0' := Lib.hid (I0.out.step b2)
          clear I0
          have I0 := I0'
          clear I0'
          have I1' := Lib.hid (I1.out.step b2)
          clear I1
          have I1 := I1'
          clear I1'
          have I2' := Lib.hid (I2.out.step b2)
          clear I2
          have I2 := I2'
          clear I2'
          have I3' := Lib.hid (I3.out.step b2)
          clear I3
          have I3 := I3'
          clear I3'
          have X3' := Lib.hid (X3.out.step b2)
          clear X3
          have X3 := X3'
          clear X3'
          have T2 := step T1 b2
          have Z2 := b2.size
          have gb0 := X3.out.cell 0
          have gb1 := X3.out.cell 1
          simp only [List.getElem?_toArray, List.getElem?_cons_zero, List.getElem?_cons_succ] at gb0 gb1
          have gbn := X3.out.lt
          go_wp2_with fail
          refine (szAccess_any (r3, s3) A3 c3 ((1048576 - szM l1) - szF l2) (by simp; omega) (by omega) (by omega) _).mono ?_
          rintro e u3 ⟨he, d3⟩
          rw [if_neg (show ¬ (((1048576 - szM l1) - szF l2) - (s3.length : Int) < 0) by omega)] at he
          subst he
          have b3 : Below u2.heap.size u2 u3 := by first | exact d3 | exact und d3 | exact undN d3 | exact below_new d3 | exact und (below_new d3) | exact below_new (und d3) | exact below_new (below_new d3) | exact step (below_drew _) (und (below_new d3))
          have I0' := Lib.hid (I0.out.step b3)
          clear I0
          have I0 := I0'
          clear I0'
          have I1' := Lib.hid (I1.out.step b3)
          clear I1
          have I1 := I1'
          clear I1'
          have I2' := Lib.hid (I2.out.step b3)
          clear I2
          have I2 := I2'
          clear I2'
          have I3' := Lib.hid (I3.out.step b3)
          clear I3
          have I3 := I3'
          clear I3'
          have X3' := Lib.hid (X3.out.step b3)
          clear X3
          have X3 := X3'
          clear X3'
          have T3 := step T2 b3
          have Z3 := b3.size
          have gc0 := X3.out.cell 0
          have gc1 := X3.out.cell 1
          simp only [List.getElem?_toArray, List.getElem?_cons_zero, List.getElem?_cons_succ] at gc0 gc1
          have gcn := X3.out.lt
          have tok4 : True := trivial
          have tok5 : True := trivial
          have tok6 : True := trivial
          have tok7 : True := trivial
          have tok8 : True := trivial
          go_wp2_with fail
          go_region_held3 (fun w' => w'.cell? ⟨w.heap.size, 0, none⟩ = some (.int .i64 r3) ∧ w'.cell? ⟨w.heap.size, 1, none⟩ = some (.slice A3 s3.length c3))
            (first
              | go_keep
              | (go_split_ands; refine ⟨?_, ?_⟩ <;> (rw [d4.cell (by (try simp) <;> omega)]; assumption))
              | (go_split_ands; refine ⟨?_, ?_⟩ <;> (rw [d5.cell (by (try simp) <;> omega)]; assumption))
              | (go_split_ands; refine ⟨?_, ?_⟩ <;> (rw [d6.cell (by (try simp) <;> omega)]; assumption))
              | (go_split_ands; refine ⟨?_, ?_⟩ <;> (rw [d7.cell (by (try simp) <;> omega)]; assumption))
              | (go_split_ands; refine ⟨?_, ?_⟩ <;> (rw [d8.cell (by (try simp) <;> omega)]; assumption)))
            (first
              | (go_at_call 15
                 clear tok4
                 refine (toIntS_r A0 c0 s0 hl0 _ (by first | exact I0.out | exact I0.out.step (below_drew _) | exact I0.out.step (below_alloc _ _) | exact I0.out.step (step (below_alloc _ _) (below_alloc _ _)))).mono ?_
                 rintro e u4 ⟨rfl, r4, d4, z4⟩
                 have b4 : Below u3.heap.size u3 u4 := by first | exact d4 | exact und d4 | exact undN d4 | exact below_new d4 | exact und (below_new d4) | exact below_new (und d4) | exact below_new (below_new d4) | exact step (below_drew _) (und (below_new d4))
                 have I0' := Lib.hid (I0.out.step b4)
                 clear I0
                 have I0 := I0'
                 clear I0'
                 have I1' := Lib.hid (I1.out.step b4)
                 clear I1
                 have I1 := I1'
                 clear I1'
                 have I2' := Lib.hid (I2.out.step b4)
                 clear I2
                 have I2 := I2'
                 clear I2'
                 have I3' := Lib.hid (I3.out.step b4)
                 clear I3
                 have I3 := I3'
                 clear I3'
                 have X3' := Lib.hid (X3.out.step b4)
                 clear X3
                 have X3 := X3'
                 clear X3'
                 have T4 := step T3 b4
                 have Z4 := b4.size
                 have R4 := Lib.hid r4.ri
                 clear r4 z4)
              | (go_at_call 22
                 clear tok5
                 refine (toMethodS_r A1 c1 l1 hz1 _ (by first | exact I1.out | exact I1.out.step (below_drew _) | exact I1.out.step (below_alloc _ _) | exact I1.out.step (step (below_alloc _ _) (below_alloc _ _)))).mono ?_
                 rintro e u5 ⟨rfl, r5, d5, z5⟩
                 have b5 : Below u4.heap.size u4 u5 := by first | exact d5 | exact und d5 | exact undN d5 | exact below_new d5 | exact und (below_new d5) | exact below_new (und d5) | exact below_new (below_new d5) | exact step (below_drew _) (und (below_new d5))
                 have I0' := Lib.hid (I0.out.step b5)
                 clear I0
                 have I0 := I0'
                 clear I0'
                 have I1' := Lib.hid (I1.out.step b5)
                 clear I1
                 have I1 := I1'
                 clear I1'
                 have I2' := Lib.hid (I2.out.step b5)
                 clear I2
                 have I2 := I2'
                 clear I2'
                 have I3' := Lib.hid (I3.out.step b5)
                 clear I3
                 have I3 := I3'
                 clear I3'
                 have X3' := Lib.hid (X3.out.step b5)
                 clear X3
                 have X3 := X3'
                 clear X3'
                 have R4' := Lib.hid (R4.out.step b5)
                 clear R4
                 have R4 := R4'
                 clear R4'
                 have T5 := step T4 b5
                 have Z5 := b5.size
                 have R5 := Lib.hid r5
                 clear r5 z5)
              | (go_at_call 32
                 clear tok6
                 refine (toFactS_p A2 c2 l2 hz2 _ (by first | exact I2.out | exact I2.out.step (below_drew _) | exact I2.out.step (below_alloc _ _) | exact I2.out.step (step (below_alloc _ _) (below_alloc _ _)))).mono ?_
                 rintro e u6 ⟨rfl, r6, d6, z6⟩
                 have b6 : Below u5.heap.size u5 u6 := by first | exact d6 | exact und d6 | exact undN d6 | exact below_new d6 | exact und (below_new d6) | exact below_new (und d6) | exact below_new (below_new d6) | exact step (below_drew _) (und (below_new d6))
                 have I0' := Lib.hid (I0.out.step b6)
                 clear I0
                 have I0 := I0'
                 clear I0'
                 have I1' := Lib.hid (I1.out.step b6)
                 clear I1
                 have I1 := I1'
                 clear I1'
                 have I2' := Lib.hid (I2.out.step b6)
                 clear I2
                 have I2 := I2'
                 clear I2'
                 have I3' := Lib.hid (I3.out.step b6)
                 clear I3
                 have I3 := I3'
                 clear I3'
                 have X3' := Lib.hid (X3.out.step b6)
                 clear X3
                 have X3 := X3'
                 clear X3'
                 have R4' := Lib.hid (R4.out.step b6)
                 clear R4
                 have R4 := R4'
                 clear R4'
                 have R5' := Lib.hid (R5.out.step b6)
                 clear R5
                 have R5 := R5'
                 clear R5'
                 have T6 := step T5 b6
                 have Z6 := b6.size
                 have R6 := Lib.hid r6.rf
                 clear r6 z6)
              | (go_at_call 27
                 clear tok7
                 refine (toAccess_r r3 s3 A3 c3 hl3 _ (by first | exact I3.out | exact I3.out.step (below_drew _) | exact I3.out.step (below_alloc _ _) | exact I3.out.step (step (below_alloc _ _) (below_alloc _ _)))).mono ?_
                 rintro e u7 ⟨rfl, r7, d7, z7⟩
                 have b7 : Below u6.heap.size u6 u7 := by first | exact d7 | exact und d7 | exact undN d7 | exact below_new d7 | exact und (below_new d7) | exact below_new (und d7) | exact below_new (below_new d7) | exact step (below_drew _) (und (below_new d7))
                 have I0' := Lib.hid (I0.out.step b7)
                 clear I0
                 have I0 := I0'
                 clear I0'
                 have I1' := Lib.hid (I1.out.step b7)
                 clear I1
                 have I1 := I1'
                 clear I1'
                 have I2' := Lib.hid (I2.out.step b7)
                 clear I2
                 have I2 := I2'
                 clear I2'
                 have I3' := Lib.hid (I3.out.step b7)
                 clear I3
                 have I3 := I3'
                 clear I3'
                 have X3' := Lib.hid (X3.out.step b7)
                 clear X3
                 have X3 := X3'
                 clear X3'
                 have R4' := Lib.hid (R4.out.step b7)
                 clear R4
                 have R4 := R4'
                 clear R4'
                 have R5' := Lib.hid (R5.out.step b7)
                 clear R5
                 have R5 := R5'
                 clear R5'
                 have R6' := Lib.hid (R6.out.step b7)
                 clear R6
                 have R6 := R6'
                 clear R6'
                 have T7 := step T6 b7
                 have Z7 := b7.size
                 have R7 := Lib.hid r7.ri
                 clear r7 z7)
              | (go_at_call 40
                 clear tok8
                 refine (CS.out _ _ _ _ _ _ _ _ _ (by first | exact R4.out | exact R4.out.step (below_drew _) | exact R4.out.step (below_alloc _ _) | exact R4.out.step (step (below_alloc _ _) (below_alloc _ _))) (by first | exact R5.out | exact R5.out.step (below_drew _) | exact R5.out.step (below_alloc _ _) | exact R5.out.step (step (below_alloc _ _) (below_alloc _ _))) (by first | exact R6.out | exact R6.out.step (below_drew _) | exact R6.out.step (below_alloc _ _) | exact R6.out.step (step (below_alloc _ _) (below_alloc _ _))) (by first | exact R7.out | exact R7.out.step (below_drew _) | exact R7.out.step (below_alloc _ _) | exact R7.out.step (step (below_alloc _ _) (below_alloc _ _)))).mono ?_
                 rintro e u8 ⟨g8, cp8, rfl, p8, d8⟩
                 have b8 : Below u7.heap.size u7 u8 := by first | exact d8 | exact und d8 | exact undN d8 | exact below_new d8 | exact und (below_new d8) | exact below_new (und d8) | exact below_new (below_new d8) | exact step (below_drew _) (und (below_new d8))
                 have I0' := Lib.hid (I0.out.step b8)
                 clear I0
                 have I0 := I0'
                 clear I0'
                 have I1' := Lib.hid (I1.out.step b8)
                 clear I1
                 have I1 := I1'
                 clear I1'
                 have I2' := Lib.hid (I2.out.step b8)
                 clear I2
                 have I2 := I2'
                 clear I2'
                 have I3' := Lib.hid (I3.out.step b8)
                 clear I3
                 have I3 := I3'
                 clear I3'
                 have X3' := Lib.hid (X3.out.step b8)
                 clear X3
                 have X3 := X3'
                 clear X3'
                 have R4' := Lib.hid (R4.out.step b8)
                 clear R4
                 have R4 := R4'
                 clear R4'
                 have R5' := Lib.hid (R5.out.step b8)
                 clear R5
                 have R5 := R5'
                 clear R5'
                 have R6' := Lib.hid (R6.out.step b8)
                 clear R6
                 have R6 := R6'
                 clear R6'
                 have R7' := Lib.hid (R7.out.step b8)
                 clear R7
                 have R7 := R7'
                 clear R7'
                 have T8 := step T7 b8
                 have Z8 := b8.size
                 have P8 := Lib.hid (show PO u8 u7.heap.size u8.heap.size g8 cp8 res from p8)
                 clear p8))
          go_wp2_with fail
          refine (toIntS_r A0 c0 s0 hl0 _ (by first | exact I0.out | exact I0.out.step (below_drew _) | exact I0.out.step (below_alloc _ _) | exact I0.out.step (step (below_alloc _ _) (below_alloc _ _)))).mono ?_
          rintro e u9 ⟨rfl, r9, d9, z9⟩
          have b9 : Below u8.heap.size u8 u9 := by first | exact d9 | exact und d9 | exact undN d9 | exact below_new d9 | exact und (below_new d9) | exact below_new (und d9) | exact below_new (below_new d9) | exact step (below_drew _) (und (below_new d9))
          have I0' := Lib.hid (I0.out.step b9)
          clear I0
          have I0 := I0'
          clear I0'
          have I1' := Lib.hid (I1.out.step b9)
          clear I1
          have I1 := I1'
          clear I1'
          have I2' := Lib.hid (I2.out.step b9)
          clear I2
          have I2 := I2'
          clear I2'
          have I3' := Lib.hid (I3.out.step b9)
          clear I3
          have I3 := I3'
          clear I3'
          have X3' := Lib.hid (X3.out.step b9)
          clear X3
          have X3 := X3'
          clear X3'
          have P8' := Lib.hid (P8.out.step b9)
          clear P8
          have P8 := P8'
          clear P8'
          have T9 := step T8 b9
          have Z9 := b9.size
          have Q9 := Lib.hid r9
          have y9 : u8.heap.size < u9.heap.size := by omega
          clear r9 z9
          go_wp2_with fail
          refine (toMethodS_any A1 c1 l1 hz1 _ (by first | exact I1.out | exact I1.out.step (below_drew _) | exact I1.out.step (below_alloc _ _) | exact I1.out.step (step (below_alloc _ _) (below_alloc _ _)))).mono ?_
          rintro e u10 ⟨rfl, r10, d10, z10⟩
          have b10 : Below u9.heap.size u9 u10 := by first | exact d10 | exact und d10 | exact undN d10 | exact below_new d10 | exact und (below_new d10) | exact below_new (und d10) | exact below_new (below_new d10) | exact step (below_drew _) (und (below_new d10))
          have I0' := Lib.hid (I0.out.step b10)
          clear I0
          have I0 := I0'
          clear I0'
          have I1' := Lib.hid (I1.out.step b10)
          clear I1
          have I1 := I1'
          clear I1'
          have I2' := Lib.hid (I2.out.step b10)
          clear I2
          have I2 := I2'
          clear I2'
          have I3' := Lib.hid (I3.out.step b10)
          clear I3
          have I3 := I3'
          clear I3'
          have X3' := Lib.hid (X3.out.step b10)
          clear X3
          have X3 := X3'
          clear X3'
          have P8' := Lib.hid (P8.out.step b10)
          clear P8
          have P8 := P8'
          clear P8'
          have Q9' := Lib.hid (Q9.out.step b10)
          clear Q9
          have Q9 := Q9'
          clear Q9'
          have T10 := step T9 b10
          have Z10 := b10.size
          have Q10 := Lib.hid (show PM u10 u9.heap.size u10.heap.size u9.heap.size (l1.length * 5) l1 from ⟨r10, Nat.le_refl _, Nat.le_refl _⟩)
          have y10 := z10
          clear r10 z10
          go_wp2_with fail
          refine (toFactS_p A2 c2 l2 hz2 _ (by first | exact I2.out | exact I2.out.step (below_drew _) | exact I2.out.step (below_alloc _ _) | exact I2.out.step (step (below_alloc _ _) (below_alloc _ _)))).mono ?_
          rintro e u11 ⟨rfl, r11, d11, z11⟩
          have b11 : Below u10.heap.size u10 u11 := by first | exact d11 | exact und d11 | exact undN d11 | exact below_new d11 | exact und (below_new d11) | exact below_new (und d11) | exact below_new (below_new d11) | exact step (below_drew _) (und (below_new d11))
          have I0' := Lib.hid (I0.out.step b11)
          clear I0
          have I0 := I0'
          clear I0'
          have I1' := Lib.hid (I1.out.step b11)
          clear I1
          have I1 := I1'
          clear I1'
          have I2' := Lib.hid (I2.out.step b11)
          clear I2
          have I2 := I2'
          clear I2'
          have I3' := Lib.hid (I3.out.step b11)
          clear I3
          have I3 := I3'
          clear I3'
          have X3' := Lib.hid (X3.out.step b11)
          clear X3
          have X3 := X3'
          clear X3'
          have P8' := Lib.hid (P8.out.step b11)
          clear P8
          have P8 := P8'
          clear P8'
          have Q9' := Lib.hid (Q9.out.step b11)
          clear Q9
          have Q9 := Q9'
          clear Q9'
          have Q10' := Lib.hid (Q10.out.step b11)
          clear Q10
          have Q10 := Q10'
          clear Q10'
          have T11 := step T10 b11
          have Z11 := b11.size
          have Q11 := Lib.hid r11
          have y11 := z11
          clear r11 z11
          have gd0 := X3.out.cell 0
          have gd1 := X3.out.cell 1
          simp only [List.getElem?_toArray, List.getElem?_cons_zero, List.getElem?_cons_succ] at gd0 gd1
          have gdn := X3.out.lt
          go_wp2_with fail
          refine (toAccess_r r3 s3 A3 c3 hl3 _ (by first | exact I3.out | exact I3.out.step (below_drew _) | exact I3.out.step (below_alloc _ _) | exact I3.out.step (step (below_alloc _ _) (below_alloc _ _)))).mono ?_
          rintro e u12 ⟨rfl, r12, d12, z12⟩
          have b12 : Below u11.heap.size u11 u12 := by first | exact d12 | exact und d12 | exact undN d12 | exact below_new d12 | exact und (below_new d12) | exact below_new (und d12) | exact below_new (below_new d12) | exact step (below_drew _) (und (below_new d12))
          have I0' := Lib.hid (I0.out.step b12)
          clear I0
          have I0 := I0'
          clear I0'
          have I1' := Lib.hid (I1.out.step b12)
          clear I1
          have I1 := I1'
          clear I1'
          have I2' := Lib.hid (I2.out.step b12)
          clear I2
          have I2 := I2'
          clear I2'
          have I3' := Lib.hid (I3.out.step b12)
          clear I3
          have I3 := I3'
          clear I3'
          have X3' := Lib.hid (X3.out.step b12)
          clear X3
          have X3 := X3'
          clear X3'
          have P8' := Lib.hid (P8.out.step b12)
          clear P8
          have P8 := P8'
          clear P8'
          have Q9' := Lib.hid (Q9.out.step b12)
          clear Q9
          have Q9 := Q9'
          clear Q9'
          have Q10' := Lib.hid (Q10.out.step b12)
          clear Q10
          have Q10 := Q10'
          clear Q10'
          have Q11' := Lib.hid (Q11.out.step b12)
          clear Q11
          have Q11 := Q11'
          clear Q11'
          have T12 := step T11 b12
          have Z12 := b12.size
          have R12 := Lib.hid r12
          have y12 : u11.heap.size + 3 < u12.heap.size := by omega
          clear r12 z12
          go_wp2_with fail
          refine (CI.out (some ⟨u8.heap.size, 0, none⟩) s0.length (some ⟨u9.heap.size, 0, none⟩) l1.length (some ⟨u10.heap.size, 0, none⟩) l2.length _ _ _ (by first | exact Q9.out.ri | exact (Q9.out.step (below_drew _)).ri | exact (Q9.out.step (below_alloc _ _)).ri) (by first | exact Q10.out.rm | exact (Q10.out.step (below_drew _)).rm | exact (Q10.out.step (below_alloc _ _)).rm) (by first | exact Q11.out.rf | exact (Q11.out.step (below_drew _)).rf | exact (Q11.out.step (below_alloc _ _)).rf) (by first | exact R12.out.ri | exact (R12.out.step (below_drew _)).ri | exact (R12.out.step (below_alloc _ _)).ri)).mono ?_
          rintro e u13 ⟨g13, cp13, rfl, p13, d13⟩
          have Y3 := Lib.hid (Box.of_new d13)
          have b13 : Below u12.heap.size u12 u13 := by first | exact d13 | exact und d13 | exact undN d13 | exact below_new d13 | exact und (below_new d13) | exact below_new (und d13) | exact below_new (below_new d13) | exact step (below_drew _) (und (below_new d13))
          have I0' := Lib.hid (I0.out.step b13)
          clear I0
          have I0 := I0'
          clear I0'
          have I1' := Lib.hid (I1.out.step b13)
          clear I1
          have I1 := I1'
          clear I1'
          have I2' := Lib.hid (I2.out.step b13)
          clear I2
          have I2 := I2'
          clear I2'
          have I3' := Lib.hid (I3.out.step b13)
          clear I3
          have I3 := I3'
          clear I3'
          have X3' := Lib.hid (X3.out.step b13)
          clear X3
          have X3 := X3'
          clear X3'
          have P8' := Lib.hid (P8.out.step b13)
          clear P8
          have P8 := P8'
          clear P8'
          have Q9' := Lib.hid (Q9.out.step b13)
          clear Q9
          have Q9 := Q9'
          clear Q9'
          have Q10' := Lib.hid (Q10.out.step b13)
          clear Q10
          have Q10 := Q10'
          clear Q10'
          have Q11' := Lib.hid (Q11.out.step b13)
          clear Q11
          have Q11 := Q11'
          clear Q11'
          have R12' := Lib.hid (R12.out.step b13)
          clear R12
          have R12 := R12'
          clear R12'
          have T13 := step T12 b13
          have Z13 := b13.size
          rw [al_size] at p13
          have P13 := Lib.hid p13
          have y13 : u12.heap.size + 1 ≤ u13.heap.size := by have := p13.1; have := d13.size; rw [al_size] at this; exact this
          clear p13
          go_wp2_with fail
          refine (eqFactS_b _ _ _ _ res hzr _ (by first | exact P13.out.rf | exact (P13.out.step (below_drew _)).rf | exact (P13.out.step (below_alloc _ _)).rf) (by first | exact P8.out.rf | exact (P8.out.step (below_drew _)).rf | exact (P8.out.step (below_alloc _ _)).rf)).mono ?_
          rintro e u14 ⟨rfl, d14⟩
          have b14 : Below u13.heap.size u13 u14 := by first | exact d14 | exact und d14 | exact undN d14 | exact below_new d14 | exact und (below_new d14) | exact below_new (und d14) | exact below_new (below_new d14) | exact step (below_drew _) (und (below_new d14))
          have I0' := Lib.hid (I0.out.step b14)
          clear I0
          have I0 := I0'
          clear I0'
          have I1' := Lib.hid (I1.out.step b14)
          clear I1
          have I1 := I1'
          clear I1'
          have I2' := Lib.hid (I2.out.step b14)
          clear I2
          have I2 := I2'
          clear I2'
          have I3' := Lib.hid (I3.out.step b14)
          clear I3
          have I3 := I3'
          clear I3'
          have X3' := Lib.hid (X3.out.step b14)
          clear X3
          have X3 := X3'
          clear X3'
          have P8' := Lib.hid (P8.out.step b14)
          clear P8
          have P8 := P8'
          clear P8'
          have Q9' := Lib.hid (Q9.out.step b14)
          clear Q9
          have Q9 := Q9'
          clear Q9'
          have Q10' := Lib.hid (Q10.out.step b14)
          clear Q10
          have Q10 := Q10'
          clear Q10'
          have Q11' := Lib.hid (Q11.out.step b14)
          clear Q11
          have Q11 := Q11'
          clear Q11'
          have R12' := Lib.hid (R12.out.step b14)
          clear R12
          have R12 := R12'
          clear R12'
          have P13' := Lib.hid (P13.out.step b14)
          clear P13
          have P13 := P13'
          clear P13'
          have Y3' := Lib.hid (Y3.out.step b14)
          clear Y3
          have Y3 := Y3'
          clear Y3'
          have T14 := step T13 b14
          have Z14 := b14.size
          go_wp2_with fail
          refine (toIntS_r A0 c0 s0 hl0 _ (by first | exact I0.out | exact I0.out.step (below_drew _) | exact I0.out.step (below_alloc _ _) | exact I0.out.step (step (below_alloc _ _) (below_alloc _ _)))).mono ?_
          rintro e u15 ⟨rfl, r15, d15, z15⟩
          have b15 : Below u14.heap.size u14 u15 := by first | exact d15 | exact und d15 | exact undN d15 | exact below_new d15 | exact und (below_new d15) | exact below_new (und d15) | exact below_new (below_new d15) | exact step (below_drew _) (und (below_new d15))
          have I0' := Lib.hid (I0.out.step b15)
          clear I0
          have I0 := I0'
          clear I0'
          have I1' := Lib.hid (I1.out.step b15)
          clear I1
          have I1 := I1'
          clear I1'
          have I2' := Lib.hid (I2.out.step b15)
          clear I2
          have I2 := I2'
          clear I2'
          have I3' := Lib.hid (I3.out.step b15)
          clear I3
          have I3 := I3'
          clear I3'
          have X3' := Lib.hid (X3.out.step b15)
          clear X3
          have X3 := X3'
          clear X3'
          have P8' := Lib.hid (P8.out.step b15)
          clear P8
          have P8 := P8'
          clear P8'
          have Q9' := Lib.hid (Q9.out.step b15)
          clear Q9
          have Q9 := Q9'
          clear Q9'
          have Q10' := Lib.hid (Q10.out.step b15)
          clear Q10
          have Q10 := Q10'
          clear Q10'
          have Q11' := Lib.hid (Q11.out.step b15)
          clear Q11
          have Q11 := Q11'
          clear Q11'
          have R12' := Lib.hid (R12.out.step b15)
          clear R12
          have R12 := R12'
          clear R12'
          have P13' := Lib.hid (P13.out.step b15)
          clear P13
          have P13 := P13'
          clear P13'
          have Y3' := Lib.hid (Y3.out.step b15)
          clear Y3
          have Y3 := Y3'
          clear Y3'
          have T15 := step T14 b15
          have Z15 := b15.size
          have R15 := Lib.hid r15.ri
          clear r15 z15
          go_wp2_with fail
          refine (eqIntS_r _ _ _ _ s0 hl0 _ (by first | exact Q9.out.ri | exact (Q9.out.step (below_drew _)).ri | exact (Q9.out.step (below_alloc _ _)).ri) (by first | exact R15.out | exact R15.out.step (below_drew _) | exact R15.out.step (below_alloc _ _) | exact R15.out.step (step (below_alloc _ _) (below_alloc _ _)))).mono ?_
          rintro e u16 ⟨rfl, d16⟩
          have b16 : Below u15.heap.size u15 u16 := by first | exact d16 | exact und d16 | exact undN d16 | exact below_new d16 | exact und (below_new d16) | exact below_new (und d16) | exact below_new (below_new d16) | exact step (below_drew _) (und (below_new d16))
          have I0' := Lib.hid (I0.out.step b16)
          clear I0
          have I0 := I0'
          clear I0'
          have I1' := Lib.hid (I1.out.step b16)
          clear I1
          have I1 := I1'
          clear I1'
          have I2' := Lib.hid (I2.out.step b16)
          clear I2
          have I2 := I2'
          clear I2'
          have I3' := Lib.hid (I3.out.step b16)
          clear I3
          have I3 := I3'
          clear I3'
          have X3' := Lib.hid (X3.out.step b16)
          clear X3
          have X3 := X3'
          clear X3'
          have P8' := Lib.hid (P8.out.step b16)
          clear P8
          have P8 := P8'
          clear P8'
          have Q9' := Lib.hid (Q9.out.step b16)
          clear Q9
          have Q9 := Q9'
          clear Q9'
          have Q10' := Lib.hid (Q10.out.step b16)
          clear Q10
          have Q10 := Q10'
          clear Q10'
          have Q11' := Lib.hid (Q11.out.step b16)
          clear Q11
          have Q11 := Q11'
          clear Q11'
          have R12' := Lib.hid (R12.out.step b16)
          clear R12
          have R12 := R12'
          clear R12'
          have P13' := Lib.hid (P13.out.step b16)
          clear P13
          have P13 := P13'
          clear P13'
          have Y3' := Lib.hid (Y3.out.step b16)
          clear Y3
          have Y3 := Y3'
          clear Y3'
          have R15' := Lib.hid (R15.out.step b16)
          clear R15
          have R15 := R15'
          clear R15'
          have T16 := step T15 b16
          have Z16 := b16.size
          go_wp2_with fail
          refine (toMethodS_r A1 c1 l1 hz1 _ (by first | exact I1.out | exact I1.out.step (below_drew _) | exact I1.out.step (below_alloc _ _) | exact I1.out.step (step (below_alloc _ _) (below_alloc _ _)))).mono ?_
          rintro e u17 ⟨rfl, r17, d17, z17⟩
          have b17 : Below u16.heap.size u16 u17 := by first | exact d17 | exact und d17 | exact undN d17 | exact below_new d17 | exact und (below_new d17) | exact below_new (und d17) | exact below_new (below_new d17) | exact step (below_drew _) (und (below_new d17))
          have I0' := Lib.hid (I0.out.step b17)
          clear I0
          have I0 := I0'
          clear I0'
          have I1' := Lib.hid (I1.out.step b17)
          clear I1
          have I1 := I1'
          clear I1'
          have I2' := Lib.hid (I2.out.step b17)
          clear I2
          have I2 := I2'
          clear I2'
          have I3' := Lib.hid (I3.out.step b17)
          clear I3
          have I3 := I3'
          clear I3'
          have X3' := Lib.hid (X3.out.step b17)
          clear X3
          have X3 := X3'
          clear X3'
          have P8' := Lib.hid (P8.out.step b17)
          clear P8
          have P8 := P8'
          clear P8'
          have Q9' := Lib.hid (Q9.out.step b17)
          clear Q9
          have Q9 := Q9'
          clear Q9'
          have Q10' := Lib.hid (Q10.out.step b17)
          clear Q10
          have Q10 := Q10'
          clear Q10'
          have Q11' := Lib.hid (Q11.out.step b17)
          clear Q11
          have Q11 := Q11'
          clear Q11'
          have R12' := Lib.hid (R12.out.step b17)
          clear R12
          have R12 := R12'
          clear R12'
          have P13' := Lib.hid (P13.out.step b17)
          clear P13
          have P13 := P13'
          clear P13'
          have Y3' := Lib.hid (Y3.out.step b17)
          clear Y3
          have Y3 := Y3'
          clear Y3'
          have T17 := step T16 b17
          have Z17 := b17.size
          have R17 := Lib.hid r17
          clear r17 z17
          go_wp2_with fail
          refine (eqMethodS_r _ _ _ _ l1 hz1 _ (by first | exact Q10.out.rm | exact (Q10.out.step (below_drew _)).rm | exact (Q10.out.step (below_alloc _ _)).rm) (by first | exact R17.out | exact R17.out.step (below_drew _) | exact R17.out.step (below_alloc _ _) | exact R17.out.step (step (below_alloc _ _) (below_alloc _ _)))).mono ?_
          rintro e u18 ⟨rfl, d18⟩
          have b18 : Below u17.heap.size u17 u18 := by first | exact d18 | exact und d18 | exact undN d18 | exact below_new d18 | exact und (below_new d18) | exact below_new (und d18) | exact below_new (below_new d18) | exact step (below_drew _) (und (below_new d18))
          have I0' := Lib.hid (I0.out.step b18)
          clear I0
          have I0 := I0'
          clear I0'
          have I1' := Lib.hid (I1.out.step b18)
          clear I1
          have I1 := I1'
          clear I1'
          have I2' := Lib.hid (I2.out.step b18)
          clear I2
          have I2 := I2'
          clear I2'
          have I3' := Lib.hid (I3.out.step b18)
          clear I3
          have I3 := I3'
          clear I3'
          have X3' := Lib.hid (X3.out.step b18)
          clear X3
          have X3 := X3'
          clear X3'
          have P8' := Lib.hid (P8.out.step b18)
          clear P8
          have P8 := P8'
          clear P8'
          have Q9' := Lib.hid (Q9.out.step b18)
          clear Q9
          have Q9 := Q9'
          clear Q9'
          have Q10' := Lib.hid (Q10.out.step b18)
          clear Q10
          have Q10 := Q10'
          clear Q10'
          have Q11' := Lib.hid (Q11.out.step b18)
          clear Q11
          have Q11 := Q11'
          clear Q11'
          have R12' := Lib.hid (R12.out.step b18)
          clear R12
          have R12 := R12'
          clear R12'
          have P13' := Lib.hid (P13.out.step b18)
          clear P13
          have P13 := P13'
          clear P13'
          have Y3' := Lib.hid (Y3.out.step b18)
          clear Y3
          have Y3 := Y3'
          clear Y3'
          have R17' := Lib.hid (R17.out.step b18)
          clear R17
          have R17 := R17'
          clear R17'
          have T18 := step T17 b18
          have Z18 := b18.size
          go_wp2_with fail
          refine (toFactS_r A2 c2 l2 hz2 _ (by first | exact I2.out | exact I2.out.step (below_drew _) | exact I2.out.step (below_alloc _ _) | exact I2.out.step (step (below_alloc _ _) (below_alloc _ _)))).mono ?_
          rintro e u19 ⟨rfl, r19, d19, z19⟩
          have b19 : Below u18.heap.size u18 u19 := by first | exact d19 | exact und d19 | exact undN d19 | exact below_new d19 | exact und (below_new d19) | exact below_new (und d19) | exact below_new (below_new d19) | exact step (below_drew _) (und (below_new d19))
          have I0' := Lib.hid (I0.out.step b19)
          clear I0
          have I0 := I0'
          clear I0'
          have I1' := Lib.hid (I1.out.step b19)
          clear I1
          have I1 := I1'
          clear I1'
          have I2' := Lib.hid (I2.out.step b19)
          clear I2
          have I2 := I2'
          clear I2'
          have I3' := Lib.hid (I3.out.step b19)
          clear I3
          have I3 := I3'
          clear I3'
          have X3' := Lib.hid (X3.out.step b19)
          clear X3
          have X3 := X3'
          clear X3'
          have P8' := Lib.hid (P8.out.step b19)
          clear P8
          have P8 := P8'
          clear P8'
          have Q9' := Lib.hid (Q9.out.step b19)
          clear Q9
          have Q9 := Q9'
          clear Q9'
          have Q10' := Lib.hid (Q10.out.step b19)
          clear Q10
          have Q10 := Q10'
          clear Q10'
          have Q11' := Lib.hid (Q11.out.step b19)
          clear Q11
          have Q11 := Q11'
          clear Q11'
          have R12' := Lib.hid (R12.out.step b19)
          clear R12
          have R12 := R12'
          clear R12'
          have P13' := Lib.hid (P13.out.step b19)
          clear P13
          have P13 := P13'
          clear P13'
          have Y3' := Lib.hid (Y3.out.step b19)
          clear Y3
          have Y3 := Y3'
          clear Y3'
          have T19 := step T18 b19
          have Z19 := b19.size
          have R19 := Lib.hid r19
          clear r19 z19
          go_wp2_with fail
          refine (eqFactS_r _ _ _ _ l2 hz2 _ (by first | exact Q11.out.rf | exact (Q11.out.step (below_drew _)).rf | exact (Q11.out.step (below_alloc _ _)).rf) (by first | exact R19.out | exact R19.out.step (below_drew _) | exact R19.out.step (below_alloc _ _) | exact R19.out.step (step (below_alloc _ _) (below_alloc _ _)))).mono ?_
          rintro e u20 ⟨rfl, d20⟩
          have b20 : Below u19.heap.size u19 u20 := by first | exact d20 | exact und d20 | exact undN d20 | exact below_new d20 | exact und (below_new d20) | exact below_new (und d20) | exact below_new (below_new d20) | exact step (below_drew _) (und (below_new d20))
          have I0' := Lib.hid (I0.out.step b20)
          clear I0
          have I0 := I0'
          clear I0'
          have I1' := Lib.hid (I1.out.step b20)
          clear I1
          have I1 := I1'
          clear I1'
          have I2' := Lib.hid (I2.out.step b20)
          clear I2
          have I2 := I2'
          clear I2'
          have I3' := Lib.hid (I3.out.step b20)
          clear I3
          have I3 := I3'
          clear I3'
          have X3' := Lib.hid (X3.out.step b20)
          clear X3
          have X3 := X3'
          clear X3'
          have P8' := Lib.hid (P8.out.step b20)
          clear P8
          have P8 := P8'
          clear P8'
          have Q9' := Lib.hid (Q9.out.step b20)
          clear Q9
          have Q9 := Q9'
          clear Q9'
          have Q10' := Lib.hid (Q10.out.step b20)
          clear Q10
          have Q10 := Q10'
          clear Q10'
          have Q11' := Lib.hid (Q11.out.step b20)
          clear Q11
          have Q11 := Q11'
          clear Q11'
          have R12' := Lib.hid (R12.out.step b20)
          clear R12
          have R12 := R12'
          clear R12'
          have P13' := Lib.hid (P13.out.step b20)
          clear P13
          have P13 := P13'
          clear P13'
          have Y3' := Lib.hid (Y3.out.step b20)
          clear Y3
          have Y3 := Y3'
          clear Y3'
          have R19' := Lib.hid (R19.out.step b20)
          clear R19
          have R19 := R19'
          clear R19'
          have T20 := step T19 b20
          have Z20 := b20.size
          have ge0 := X3.out.cell 0
          have ge1 := X3.out.cell 1
          simp only [List.getElem?_toArray, List.getElem?_cons_zero, List.getElem?_cons_succ] at ge0 ge1
          have gen := X3.out.lt
          have gf0 := Y3.out.cell 0
          have gf1 := Y3.out.cell 1
          simp only [List.getElem?_toArray, List.getElem?_cons_zero, List.getElem?_cons_succ] at gf0 gf1
          have gfn := Y3.out.lt
          have tok21 : True := trivial
          have tok22 : True := trivial
          go_wp2_with fail
          go_region_held3 (fun w' => w'.cell? ⟨w.heap.size, 0, none⟩ = some (.int .i64 r3) ∧ w'.cell? ⟨w.heap.size, 1, none⟩ = some (.slice A3 s3.length c3) ∧ w'.cell? ⟨u12.heap.size, 0, none⟩ = some (.int .i64 r3) ∧ w'.cell? ⟨u12.heap.size, 1, none⟩ = some (.slice (some ⟨u11.heap.size + 3, 0, none⟩) s3.length s3.length))
            (first
              | go_keep
              | (go_split_ands; refine ⟨?_, ?_, ?_, ?_⟩ <;> (rw [d21.cell (by (try simp) <;> omega)]; assumption))
              | (go_split_ands; refine ⟨?_, ?_, ?_, ?_⟩ <;> (rw [d22.cell (by (try simp) <;> omega)]; assumption)))
            (first
              | (go_at_call 27
                 clear tok21
                 refine (toAccess_r r3 s3 A3 c3 hl3 _ (by first | exact I3.out | exact I3.out.step (below_drew _) | exact I3.out.step (below_alloc _ _) | exact I3.out.step (step (below_alloc _ _) (below_alloc _ _)))).mono ?_
                 rintro e u21 ⟨rfl, r21, d21, z21⟩
                 have b21 : Below u20.heap.size u20 u21 := by first | exact d21 | exact und d21 | exact undN d21 | exact below_new d21 | exact und (below_new d21) | exact below_new (und d21) | exact below_new (below_new d21) | exact step (below_drew _) (und (below_new d21))
                 have I0' := Lib.hid (I0.out.step b21)
                 clear I0
                 have I0 := I0'
                 clear I0'
                 have I1' := Lib.hid (I1.out.step b21)
                 clear I1
                 have I1 := I1'
                 clear I1'
                 have I2' := Lib.hid (I2.out.step b21)
                 clear I2
                 have I2 := I2'
                 clear I2'
                 have I3' := Lib.hid (I3.out.step b21)
                 clear I3
                 have I3 := I3'
                 clear I3'
                 have X3' := Lib.hid (X3.out.step b21)
                 clear X3
                 have X3 := X3'
                 clear X3'
                 have P8' := Lib.hid (P8.out.step b21)
                 clear P8
                 have P8 := P8'
                 clear P8'
                 have Q9' := Lib.hid (Q9.out.step b21)
                 clear Q9
                 have Q9 := Q9'
                 clear Q9'
                 have Q10' := Lib.hid (Q10.out.step b21)
                 clear Q10
                 have Q10 := Q10'
                 clear Q10'
                 have Q11' := Lib.hid (Q11.out.step b21)
                 clear Q11
                 have Q11 := Q11'
                 clear Q11'
                 have R12' := Lib.hid (R12.out.step b21)
                 clear R12
                 have R12 := R12'
                 clear R12'
                 have P13' := Lib.hid (P13.out.step b21)
                 clear P13
                 have P13 := P13'
                 clear P13'
                 have Y3' := Lib.hid (Y3.out.step b21)
                 clear Y3
                 have Y3 := Y3'
                 clear Y3'
                 have T21 := step T20 b21
                 have Z21 := b21.size
                 have R21 := Lib.hid r21.ri
                 clear r21 z21)
              | (go_at_call 29
                 clear tok22
                 refine (eqAccess_r r3 s3 _ _ _ _ hl3 _ (by first | exact R12.out.ri | exact (R12.out.step (below_drew _)).ri | exact (R12.out.step (below_alloc _ _)).ri) (by first | exact R21.out | exact R21.out.step (below_drew _) | exact R21.out.step (below_alloc _ _) | exact R21.out.step (step (below_alloc _ _) (below_alloc _ _)))).mono ?_
                 rintro e u22 ⟨rfl, d22⟩
                 have b22 : Below u21.heap.size u21 u22 := by first | exact d22 | exact und d22 | exact undN d22 | exact below_new d22 | exact und (below_new d22) | exact below_new (und d22) | exact below_new (below_new d22) | exact step (below_drew _) (und (below_new d22))
                 have I0' := Lib.hid (I0.out.step b22)
                 clear I0
                 have I0 := I0'
                 clear I0'
                 have I1' := Lib.hid (I1.out.step b22)
                 clear I1
                 have I1 := I1'
                 clear I1'
                 have I2' := Lib.hid (I2.out.step b22)
                 clear I2
                 have I2 := I2'
                 clear I2'
                 have I3' := Lib.hid (I3.out.step b22)
                 clear I3
                 have I3 := I3'
                 clear I3'
                 have X3' := Lib.hid (X3.out.step b22)
                 clear X3
                 have X3 := X3'
                 clear X3'
                 have P8' := Lib.hid (P8.out.step b22)
                 clear P8
                 have P8 := P8'
                 clear P8'
                 have Q9' := Lib.hid (Q9.out.step b22)
                 clear Q9
                 have Q9 := Q9'
                 clear Q9'
                 have Q10' := Lib.hid (Q10.out.step b22)
                 clear Q10
                 have Q10 := Q10'
                 clear Q10'
                 have Q11' := Lib.hid (Q11.out.step b22)
                 clear Q11
                 have Q11 := Q11'
                 clear Q11'
                 have R12' := Lib.hid (R12.out.step b22)
                 clear R12
                 have R12 := R12'
                 clear R12'
                 have P13' := Lib.hid (P13.out.step b22)
                 clear P13
                 have P13 := P13'
                 clear P13'
                 have Y3' := Lib.hid (Y3.out.step b22)
                 clear Y3
                 have Y3 := Y3'
                 clear Y3'
                 have R21' := Lib.hid (R21.out.step b22)
                 clear R21
                 have R21 := R21'
                 clear R21'
                 have T22 := step T21 b22
                 have Z22 := b22.size))
          have wz : w.heap.size ≤ u8.heap.size := by omega
          go_wp2_with fail
          refine (markIntS_any (some ⟨u8.heap.size, 0, none⟩) u8.heap.size s0.length s0.length s0.length 1 _ hl0 (by omega) (by omega) (fun i => .int .i64 (s0.getD i 0)) (fun _ => rfl) (Nat.le_refl _) (fun _ => Q9.out)).mono ?_
          rintro e v0 ⟨rfl, W0, _⟩
          have sv0 : v0.heap.size = u22.heap.size := W0.size
          have PSa := Lib.hid (P8.out.keep (w' := v0) (fun b _ h2 => W0.block b (.inl h2)) (by omega))
          have PIa := Lib.hid (P13.out.keep (w' := v0) (fun b h1 _ => W0.block b (.inr (by omega))) (by omega))
          have Qma := Lib.hid (Q10.out.keep (w' := v0) (fun b h1 _ => W0.block b (.inr (by omega))) (by omega))
          have Qfa := Lib.hid (Q11.out.keep (w' := v0) (fun b h1 _ => W0.block b (.inr (by omega))) (by omega))
          have Raa := Lib.hid (R12.out.of_block (W0.block _ (.inr (by omega))))
          have Y3a := Lib.hid (show Box v0 u12.heap.size _ _ from (W0.block _ (.inr (by omega))).trans Y3.out)
          have X3a := Lib.hid (show Box v0 w.heap.size _ _ from (W0.block _ (.inl (by have := X3.out.lt; omega))).trans X3.out)
          have TA := Lib.hid (T22.trans (W0.below.mono wz))
          clear W0 P8 P13 Q10 Q11 R12 Y3 X3 Q9
          go_wp2_with fail
          refine (markMethodS_any u9.heap.size u10.heap.size u9.heap.size (l1.length * 5) _ (1 + (s0.length : Int)) l1 hz1 (by omega) (by omega) (Nat.le_refl _) _ Qma.out.1).mono ?_
          rintro e v1 ⟨rfl, W1⟩
          have sv1 : v1.heap.size = v0.heap.size := W1.size
          have PSb := Lib.hid (PSa.out.keep (w' := v1) (fun b _ h2 => W1.block b (.inl (by omega))) (by omega))
          have PIb := Lib.hid (PIa.out.keep (w' := v1) (fun b h1 _ => W1.block b (.inr (by omega))) (by omega))
          have Qfb := Lib.hid (Qfa.out.keep (w' := v1) (fun b h1 _ => W1.block b (.inr (by omega))) (by omega))
          have Rab := Lib.hid (Raa.out.of_block (W1.block _ (.inr (by omega))))
          have Y3b := Lib.hid (show Box v1 u12.heap.size _ _ from (W1.block _ (.inr (by omega))).trans Y3a.out)
          have X3b := Lib.hid (show Box v1 w.heap.size _ _ from (W1.block _ (.inl (by omega))).trans X3a.out)
          have TB := Lib.hid (TA.out.trans (W1.below.mono (by omega)))
          have OM := offM_rng (1 + (s0.length : Int)) l1 l1.length (Nat.le_refl _)
          generalize offM (1 + (s0.length : Int)) l1 l1.length = om at OM
          obtain ⟨om0, om1⟩ := OM
          clear W1 PSa PIa Qma Qfa Raa Y3a X3a TA
          go_wp2_with fail
          refine (markFactS_any u10.heap.size u11.heap.size u10.heap.size (l2.length * 2) _ om l2 (by omega) (by omega) (by omega) (Nat.le_refl _) _ Qfb.out.1).mono ?_
          rintro e v2 ⟨rfl, _, W2⟩
          have sv2 : v2.heap.size = v1.heap.size := W2.size
          have PSc := Lib.hid (PSb.out.keep (w' := v2) (fun b _ h2 => W2.block b (.inl (by omega))) (by omega))
          have PIc := Lib.hid (PIb.out.keep (w' := v2) (fun b h1 _ => W2.block b (.inr (by omega))) (by omega))
          have Rac := Lib.hid (Rab.out.of_block (W2.block _ (.inr (by omega))))
          have Y3c := Lib.hid (show Box v2 u12.heap.size _ _ from (W2.block _ (.inr (by omega))).trans Y3b.out)
          have X3c := Lib.hid (show Box v2 w.heap.size _ _ from (W2.block _ (.inl (by omega))).trans X3b.out)
          have TC := Lib.hid (TB.out.trans (W2.below.mono (by omega)))
          have gg0 := Y3c.out.cell 0
          have gg1 := Y3c.out.cell 1
          simp only [List.getElem?_toArray, List.getElem?_cons_zero, List.getElem?_cons_succ] at gg0 gg1
          clear W2 PSb PIb Qfb Rab Y3b X3b TB
          go_wp2_with fail
          refine (markAccess_any 0 (u11.heap.size + 3) s3.length s3.length s3.length r3 (om + szF l2) (some ⟨u11.heap.size + 3, 0, none⟩) (fun i => .int .i64 (s3.getD i 0)) _ hl3 (by omega) (by omega) (fun _ => rfl) (Nat.le_refl _) (by omega) (fun _ => Rac.out)).mono ?_
          rintro e v3 ⟨rfl, K3, B3⟩
          have sv3 := B3.size
          have PSd := Lib.hid (PSc.out.keep (w' := v3) (fun b _ h2 => K3 b (by omega) (by omega)) (by omega))
          have PId := Lib.hid (PIc.out.keep (w' := v3) (fun b h1 h2 => K3 b (by omega) (by have := PIc.out.1; omega)) (by omega))
          have X3d := Lib.hid (show Box v3 w.heap.size _ _ from (K3 _ (by omega) (by omega)).trans X3c.out)
          have TD := Lib.hid (TC.out.trans (B3.mono (by omega)))
          have hk2 : 0 ≤ om + szF l2 + (s3.length : Int) := by omega
          have hk2' : ¬ (om + szF l2 + (s3.length : Int) < 0) := by omega
          clear K3 B3 PSc PIc Rac Y3c X3c TC gg0 gg1
          go_wp2_with fail
          refine (eqFactS_b _ _ _ _ res hzr _ PId.out.rf PSd.out.rf).mono ?_
          rintro e v4 ⟨rfl, D4⟩
          have PSe := Lib.hid (PSd.out.step D4)
          have PIe := Lib.hid (PId.out.step D4)
          have X3e := Lib.hid (X3d.out.step D4)
          have TE := Lib.hid (step TD.out D4)
          have sv4 := D4.size
          clear D4 PSd PId X3d TD
          go_wp2_with fail
          refine (markFactS_o (u12.heap.size + 1) u13.heap.size cp13 1 g13 res hzr (by omega) (by omega) _ PIe.out).mono ?_
          rintro e v5 ⟨rfl, O5, W5⟩
          have PSf := Lib.hid (PSe.out.keep (w' := v5) (fun b _ h2 => W5.block b (.inl (by omega))) (by have := W5.size; omega))
          have X3f := Lib.hid (show Box v5 w.heap.size _ _ from (W5.block _ (.inl (by omega))).trans X3e.out)
          have TV := TE.out.trans (W5.below.mono (by omega))
          have HR := Lib.hid O5
          have I0v := Lib.hid ((show RI w A0 s0 from I0w.out).step TV)
          have I1v := Lib.hid ((show RM w A1 l1 from I1w.out).step TV)
          have I2v := Lib.hid ((show RF w A2 l2 from I2w.out).step TV)
          have I3v := Lib.hid ((show RI w A3 s3 from I3w.out).step TV)
          have hq0 : ¬ (1 + szF res < 0) := by omega
          have hq1 : 0 ≤ 1 + szF res := by omega
          clear W5 O5 PSe X3e TE
          go_wp2_with fail
          refine (heldFactS_any g13 _ 1 res hzr (by omega) (by omega) _ HR.out).mono ?_
          rintro e v6 ⟨rfl, rfl⟩
          have gh0 := X3f.out.cell 0
          have gh1 := X3f.out.cell 1
          simp only [List.getElem?_toArray, List.getElem?_cons_zero, List.getElem?_cons_succ] at gh0 gh1
          have ghn := X3f.out.lt
          have tok51 : True := trivial
          have tok52 : True := trivial
          have tok53 : True := trivial
          have tok54 : True := trivial
          have tok55 : True := trivial
          go_wp2_with fail
          go_region_held3 (fun w' => w'.cell? ⟨w.heap.size, 0, none⟩ = some (.int .i64 r3) ∧ w'.cell? ⟨w.heap.size, 1, none⟩ = some (.slice A3 s3.length c3))
            (first
              | go_keep
              | (go_split_ands; refine ⟨?_, ?_⟩ <;> (rw [d51.cell (by (try simp) <;> omega)]; assumption))
              | (go_split_ands; refine ⟨?_, ?_⟩ <;> (rw [d52.cell (by (try simp) <;> omega)]; assumption))
              | (go_split_ands; refine ⟨?_, ?_⟩ <;> (rw [d53.cell (by (try simp) <;> omega)]; assumption))
              | (go_split_ands; refine ⟨?_, ?_⟩ <;> (rw [d54.cell (by (try simp) <;> omega)]; assumption))
              | (go_split_ands; refine ⟨?_, ?_⟩ <;> (rw [d55.cell (by (try simp) <;> omega)]; assumption)))
            (first
              | (go_at_call 15
                 clear tok51
                 refine (toIntS_r A0 c0 s0 hl0 _ (by first | exact I0v.out | exact I0v.out.step (below_drew _) | exact I0v.out.step (below_alloc _ _) | exact I0v.out.step (step (below_alloc _ _) (below_alloc _ _)))).mono ?_
                 rintro e u51 ⟨rfl, r51, d51, z51⟩
                 have b51 : Below v5.heap.size v5 u51 := by first | exact d51 | exact und d51 | exact undN d51 | exact below_new d51 | exact und (below_new d51) | exact below_new (und d51) | exact below_new (below_new d51) | exact step (below_drew _) (und (below_new d51))
                 have I0v' := Lib.hid (I0v.out.step b51)
                 clear I0v
                 have I0v := I0v'
                 clear I0v'
                 have I1v' := Lib.hid (I1v.out.step b51)
                 clear I1v
                 have I1v := I1v'
                 clear I1v'
                 have I2v' := Lib.hid (I2v.out.step b51)
                 clear I2v
                 have I2v := I2v'
                 clear I2v'
                 have I3v' := Lib.hid (I3v.out.step b51)
                 clear I3v
                 have I3v := I3v'
                 clear I3v'
                 have X3f' := Lib.hid (X3f.out.step b51)
                 clear X3f
                 have X3f := X3f'
                 clear X3f'
                 have PSf' := Lib.hid (PSf.out.step b51)
                 clear PSf
                 have PSf := PSf'
                 clear PSf'
                 have HR' := Lib.hid (HR.out.step b51)
                 clear HR
                 have HR := HR'
                 clear HR'
                 have T51 := step TV b51
                 have Z51 := b51.size
                 have R51 := Lib.hid r51.ri
                 clear r51 z51)
              | (go_at_call 22
                 clear tok52
                 refine (toMethodS_r A1 c1 l1 hz1 _ (by first | exact I1v.out | exact I1v.out.step (below_drew _) | exact I1v.out.step (below_alloc _ _) | exact I1v.out.step (step (below_alloc _ _) (below_alloc _ _)))).mono ?_
                 rintro e u52 ⟨rfl, r52, d52, z52⟩
                 have b52 : Below u51.heap.size u51 u52 := by first | exact d52 | exact und d52 | exact undN d52 | exact below_new d52 | exact und (below_new d52) | exact below_new (und d52) | exact below_new (below_new d52) | exact step (below_drew _) (und (below_new d52))
                 have I0v' := Lib.hid (I0v.out.step b52)
                 clear I0v
                 have I0v := I0v'
                 clear I0v'
                 have I1v' := Lib.hid (I1v.out.step b52)
                 clear I1v
                 have I1v := I1v'
                 clear I1v'
                 have I2v' := Lib.hid (I2v.out.step b52)
                 clear I2v
                 have I2v := I2v'
                 clear I2v'
                 have I3v' := Lib.hid (I3v.out.step b52)
                 clear I3v
                 have I3v := I3v'
                 clear I3v'
                 have X3f' := Lib.hid (X3f.out.step b52)
                 clear X3f
                 have X3f := X3f'
                 clear X3f'
                 have PSf' := Lib.hid (PSf.out.step b52)
                 clear PSf
                 have PSf := PSf'
                 clear PSf'
                 have HR' := Lib.hid (HR.out.step b52)
                 clear HR
                 have HR := HR'
                 clear HR'
                 have R51' := Lib.hid (R51.out.step b52)
                 clear R51
                 have R51 := R51'
                 clear R51'
                 have T52 := step T51 b52
                 have Z52 := b52.size
                 have R52 := Lib.hid r52
                 clear r52 z52)
              | (go_at_call 32
                 clear tok53
                 refine (toFactS_p A2 c2 l2 hz2 _ (by first | exact I2v.out | exact I2v.out.step (below_drew _) | exact I2v.out.step (below_alloc _ _) | exact I2v.out.step (step (below_alloc _ _) (below_alloc _ _)))).mono ?_
                 rintro e u53 ⟨rfl, r53, d53, z53⟩
                 have b53 : Below u52.heap.size u52 u53 := by first | exact d53 | exact und d53 | exact undN d53 | exact below_new d53 | exact und (below_new d53) | exact below_new (und d53) | exact below_new (below_new d53) | exact step (below_drew _) (und (below_new d53))
                 have I0v' := Lib.hid (I0v.out.step b53)
                 clear I0v
                 have I0v := I0v'
                 clear I0v'
                 have I1v' := Lib.hid (I1v.out.step b53)
                 clear I1v
                 have I1v := I1v'
                 clear I1v'
                 have I2v' := Lib.hid (I2v.out.step b53)
                 clear I2v
                 have I2v := I2v'
                 clear I2v'
                 have I3v' := Lib.hid (I3v.out.step b53)
                 clear I3v
                 have I3v := I3v'
                 clear I3v'
                 have X3f' := Lib.hid (X3f.out.step b53)
                 clear X3f
                 have X3f := X3f'
                 clear X3f'
                 have PSf' := Lib.hid (PSf.out.step b53)
                 clear PSf
                 have PSf := PSf'
                 clear PSf'
                 have HR' := Lib.hid (HR.out.step b53)
                 clear HR
                 have HR := HR'
                 clear HR'
                 have R51' := Lib.hid (R51.out.step b53)
                 clear R51
                 have R51 := R51'
                 clear R51'
                 have R52' := Lib.hid (R52.out.step b53)
                 clear R52
                 have R52 := R52'
                 clear R52'
                 have T53 := step T52 b53
                 have Z53 := b53.size
                 have R53 := Lib.hid r53.rf
                 clear r53 z53)
              | (go_at_call 27
                 clear tok54
                 refine (toAccess_r r3 s3 A3 c3 hl3 _ (by first | exact I3v.out | exact I3v.out.step (below_drew _) | exact I3v.out.step (below_alloc _ _) | exact I3v.out.step (step (below_alloc _ _) (below_alloc _ _)))).mono ?_
                 rintro e u54 ⟨rfl, r54, d54, z54⟩
                 have b54 : Below u53.heap.size u53 u54 := by first | exact d54 | exact und d54 | exact undN d54 | exact below_new d54 | exact und (below_new d54) | exact below_new (und d54) | exact below_new (below_new d54) | exact step (below_drew _) (und (below_new d54))
                 have I0v' := Lib.hid (I0v.out.step b54)
                 clear I0v
                 have I0v := I0v'
                 clear I0v'
                 have I1v' := Lib.hid (I1v.out.step b54)
                 clear I1v
                 have I1v := I1v'
                 clear I1v'
                 have I2v' := Lib.hid (I2v.out.step b54)
                 clear I2v
                 have I2v := I2v'
                 clear I2v'
                 have I3v' := Lib.hid (I3v.out.step b54)
                 clear I3v
                 have I3v := I3v'
                 clear I3v'
                 have X3f' := Lib.hid (X3f.out.step b54)
                 clear X3f
                 have X3f := X3f'
                 clear X3f'
                 have PSf' := Lib.hid (PSf.out.step b54)
                 clear PSf
                 have PSf := PSf'
                 clear PSf'
                 have HR' := Lib.hid (HR.out.step b54)
                 clear HR
                 have HR := HR'
                 clear HR'
                 have R51' := Lib.hid (R51.out.step b54)
                 clear R51
                 have R51 := R51'
                 clear R51'
                 have R52' := Lib.hid (R52.out.step b54)
                 clear R52
                 have R52 := R52'
                 clear R52'
                 have R53' := Lib.hid (R53.out.step b54)
                 clear R53
                 have R53 := R53'
                 clear R53'
                 have T54 := step T53 b54
                 have Z54 := b54.size
                 have R54 := Lib.hid r54.ri
                 clear r54 z54)
              | (go_at_call 41
                 clear tok55
                 refine (CI.out _ _ _ _ _ _ _ _ _ (by first | exact R51.out | exact R51.out.step (below_drew _) | exact R51.out.step (below_alloc _ _) | exact R51.out.step (step (below_alloc _ _) (below_alloc _ _))) (by first | exact R52.out | exact R52.out.step (below_drew _) | exact R52.out.step (below_alloc _ _) | exact R52.out.step (step (below_alloc _ _) (below_alloc _ _))) (by first | exact R53.out | exact R53.out.step (below_drew _) | exact R53.out.step (below_alloc _ _) | exact R53.out.step (step (below_alloc _ _) (below_alloc _ _))) (by first | exact R54.out | exact R54.out.step (below_drew _) | exact R54.out.step (below_alloc _ _) | exact R54.out.step (step (below_alloc _ _) (below_alloc _ _)))).mono ?_
                 rintro e u55 ⟨g55, cp55, rfl, p55, d55⟩
                 have b55 : Below u54.heap.size u54 u55 := by first | exact d55 | exact und d55 | exact undN d55 | exact below_new d55 | exact und (below_new d55) | exact below_new (und d55) | exact below_new (below_new d55) | exact step (below_drew _) (und (below_new d55))
                 have I0v' := Lib.hid (I0v.out.step b55)
                 clear I0v
                 have I0v := I0v'
                 clear I0v'
                 have I1v' := Lib.hid (I1v.out.step b55)
                 clear I1v
                 have I1v := I1v'
                 clear I1v'
                 have I2v' := Lib.hid (I2v.out.step b55)
                 clear I2v
                 have I2v := I2v'
                 clear I2v'
                 have I3v' := Lib.hid (I3v.out.step b55)
                 clear I3v
                 have I3v := I3v'
                 clear I3v'
                 have X3f' := Lib.hid (X3f.out.step b55)
                 clear X3f
                 have X3f := X3f'
                 clear X3f'
                 have PSf' := Lib.hid (PSf.out.step b55)
                 clear PSf
                 have PSf := PSf'
                 clear PSf'
                 have HR' := Lib.hid (HR.out.step b55)
                 clear HR
                 have HR := HR'
                 clear HR'
                 have R51' := Lib.hid (R51.out.step b55)
                 clear R51
                 have R51 := R51'
                 clear R51'
                 have R52' := Lib.hid (R52.out.step b55)
                 clear R52
                 have R52 := R52'
                 clear R52'
                 have R53' := Lib.hid (R53.out.step b55)
                 clear R53
                 have R53 := R53'
                 clear R53'
                 have R54' := Lib.hid (R54.out.step b55)
                 clear R54
                 have R54 := R54'
                 clear R54'
                 have T55 := step T54 b55
                 have Z55 := b55.size
                 have P55 := Lib.hid (show PO u55 u54.heap.size u55.heap.size g55 cp55 res from p55)
                 clear p55))
          go_wp2_with fail
          refine (eqFactS_b _ _ _ _ res hzr _ (by first | exact P55.out.rf | exact (P55.out.step (below_drew _)).rf | exact (P55.out.step (below_alloc _ _)).rf) (by first | exact PSf.out.rf | exact (PSf.out.step (below_drew _)).rf | exact (PSf.out.step (below_alloc _ _)).rf)).mono ?_
          rintro e u56 ⟨rfl, d56⟩
          have b56 : Below u55.heap.size u55 u56 := by first | exact d56 | exact und d56 | exact undN d56 | exact below_new d56 | exact und (below_new d56) | exact below_new (und d56) | exact below_new (below_new d56) | exact step (below_drew _) (und (below_new d56))
          have I0v' := Lib.hid (I0v.out.step b56)
          clear I0v
          have I0v := I0v'
          clear I0v'
          have I1v' := Lib.hid (I1v.out.step b56)
          clear I1v
          have I1v := I1v'
          clear I1v'
          have I2v' := Lib.hid (I2v.out.step b56)
          clear I2v
          have I2v := I2v'
          clear I2v'
          have I3v' := Lib.hid (I3v.out.step b56)
          clear I3v
          have I3v := I3v'
          clear I3v'
          have X3f' := Lib.hid (X3f.out.step b56)
          clear X3f
          have X3f := X3f'
          clear X3f'
          have PSf' := Lib.hid (PSf.out.step b56)
          clear PSf
          have PSf := PSf'
          clear PSf'
          have HR' := Lib.hid (HR.out.step b56)
          clear HR
          have HR := HR'
          clear HR'
          have P55' := Lib.hid (P55.out.step b56)
          clear P55
          have P55 := P55'
          clear P55'
          have T56 := step T55 b56
          have Z56 := b56.size
          go_wp2_with fail
          refine (heldFactS_any g13 _ 1 res hzr (by omega) (by omega) _ HR.out).mono ?_
          rintro e v9 ⟨rfl, rfl⟩
          go_wp2
          go_ret
          exact ⟨rfl, T56⟩

set_option maxRecDepth 100000 in
theorem lifted (os : Os) (started : os.Started) (H : Type) (enc : TypeId × Value → H) :
    ReturnsInHanded {} Try.checked os 7 .any (Rows.fnExactRespondToSpec.pre6 enc Try.prog Try.f7 Rows.fnExactRespondToRow.domain false) (Rows.fnExactRespondToSpec.post enc Try.prog Try.f7 false true false false) := by
  refine returnsInHanded_of_change (C := Try.checked) own started (by kernel_rfl) Try.func7
    (ChangeSpec.witness6 (enc := enc) (C := Try.checked) false ⟨#[], #[.slice none 0 0, .slice none 0 0, .slice none 0 0, .agg #[.int .i64 0, .slice none 0 0], .int .i64 0], []⟩ 8 (by kernel_rfl) (by kernel_rfl) (by kernel_rfl) (by kernel_rfl)) ?_
  intro W base args ds gs before hval0 hW hcnd _
  have hval : ∀ (j : Nat) t v, Try.f7.params[j]? = some t → args[j]? = some v → Value.okWide Try.prog W .any base t v := hval0
  have hpost := fun (W' : World) (hfn : Rows.fnExactRespondToSpec.fn H (ds ++ gs) = { results := [.lit (.bool true)], args := ds }) (hb : Below W.heap.size W W') => law_post (enc := enc) laidOut (f := Try.f7) (s := Rows.fnExactRespondToSpec) (args := args) rfl rfl Try.underlying4 (by intro t ht; rw [Try.params7] at ht; simp at ht; rcases ht with rfl | rfl | rfl | rfl | rfl <;> exact ⟨by kernel_rfl, of_decide_eq_true (by kernel_rfl)⟩) hW hfn hb
  obtain ⟨p, q, hA0, hV, rfl, hfz, hnd⟩ := hW
  have hA : DataW.TrodAll enc Try.prog W 0 (fun _ => true) true Try.f7.params.toList args.toList ds p := hA0
  rw [Try.params7] at hA hval
  obtain ⟨v0, vs0, d0, ds0, p0, q0, hargs, rfl, rfl, h0, r0⟩ := trodAll_cons hA
  obtain ⟨v1, vs1, d1, ds1, p1, q1, rfl, rfl, rfl, h1, r1⟩ := trodAll_cons r0
  obtain ⟨v2, vs2, d2, ds2, p2, q2, rfl, rfl, rfl, h2, r2⟩ := trodAll_cons r1
  obtain ⟨v3, vs3, d3, ds3, p3, q3, rfl, rfl, rfl, h3, r3⟩ := trodAll_cons r2
  obtain ⟨v4, vs4, d4, ds4, p4, q4, rfl, rfl, rfl, h4, r4⟩ := trodAll_cons r3
  obtain ⟨rfl, rfl, rfl⟩ := trodAll_nil r4
  obtain rfl : args = #[v0, v1, v2, v3, v4] := by cases args; simp_all
  obtain ⟨rfl, rfl⟩ := trodVars_none hV
  obtain ⟨A0, c0, s0, rfl, l0, m0, w0⟩ := open_numsT Try.underlying22 Try.underlying3 (by kernel_rfl) (hval 0 22 v0 rfl rfl) h0
  obtain ⟨A1, c1, l1, rfl, k1, m1, w1⟩ := open_methodsT (hval 1 33 v1 rfl rfl) h1
  obtain ⟨A2, c2, l2, rfl, k2, m2, w2⟩ := open_factsT (hval 2 48 v2 rfl rfl) h2
  obtain ⟨f3, A3, c3, rfl, l3, m3, w3⟩ := open_accessT (hval 3 41 v3 rfl rfl) h3
  obtain ⟨a4, rfl, rfl, rfl, w4⟩ := open_int Try.underlying3 (hval 4 3 v4 rfl rfl) h4
  refine (walk W A0 c0 s0 l0 m0 w0 A1 c1 l1 k1 m1 w1 A2 c2 l2 k2 m2 w2 f3 A3 c3 l3 m3 w3 a4 w4).mono fun e W' ⟨he, hg⟩ => ?_
  subst he
  exact ⟨_, rfl, hpost W' rfl hg⟩

theorem over : Rows.fnExactRespondToRow.holds Try.pinned (OpenSpec.ofChange Rows.fnExactRespondToSpec) :=
  OpenClaim.holds_of_wide 7 Try.f7 rfl rfl rfl rfl rfl rfl rfl ⟨rfl, rfl, rfl, rfl, rfl⟩ rfl rfl rfl rfl rfl (by kernel_rfl) Try.func7 (by kernel_rfl)
    (of_decide_eq_true (by kernel_rfl)) (by unfold Func.isWrapper; first | (rw [if_pos (by decide +kernel)]; kernel_rfl) | (rw [if_neg (by decide +kernel)]; exact ⟨rfl, rfl⟩))
    (fun os started H enc _ => lifted os started H enc)
end Go.Proofs.Ytenondgjipmhnaa.fnExactRespondTo
namespace Go.Proofs.Ytenondgjipmhnaa
theorem fnExactRespondTo_holds : Rows.FnExactRespondToSaid := fnExactRespondTo.over
#print axioms fnExactRespondTo_holds
end Go.Proofs.Ytenondgjipmhnaa
