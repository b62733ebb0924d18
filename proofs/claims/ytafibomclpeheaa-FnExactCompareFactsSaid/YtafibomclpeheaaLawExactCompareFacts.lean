/- impl.CompareFacts answers as its model at every argument: the law FnExactCompareFacts returns true. Conditions: none beyond the statement's own. -/
import Derived.Test.YtafibomclpeheaaCmpF
namespace Go.Proofs.Ytafibomclpeheaa.fnExactCompareFacts
open Go.ChangeShapes Go.WideShapes Go.ChangeAt Go.RowKit
open Go.ChangeMaps (open_string shut_string)
set_option linter.unusedVariables false
set_option linter.unusedSimpArgs false

set_option maxRecDepth 100000 in
set_option maxHeartbeats 1000000 in
theorem walk (w : World) (f0 : Int × List Int) (A0 : Option Addr) (c0 : Nat) (l0 : f0.2.length ≤ c0) (m0 : c0 ≤ maxLen) (w0 : Ints w 0 w.heap.size A0 f0.2) (f1 : Int × List Int) (A1 : Option Addr) (c1 : Nat) (l1 : f1.2.length ≤ c1) (m1 : c1 ≤ maxLen) (w1 : Ints w 0 w.heap.size A1 f1.2) :
    Calls Try.prog 6 #[.agg #[.int .i64 f0.1, .slice A0 f0.2.length c0], .agg #[.int .i64 f1.1, .slice A1 f1.2.length c1]] w fun e w' => e = .returned (.bool true) ∧ Below w.heap.size w w' := by
  unfold maxLen at m0 m1
  obtain ⟨r0, s0⟩ := f0
  obtain ⟨r1, s1⟩ := f1
  simp only at l0 w0 l1 w1 ⊢
  by_cases hb0 : 1048576 - (s0.length : Int) < 0
  · have I0 := Lib.hid (show RI w A0 s0 from w0)
    have I1 := Lib.hid (show RI w A1 s1 from w1)
    clear w0 w1
    go_enter Try.func6, Try.ntmps6
    go_wp2_with fail
    refine (szFact_any (r0, s0) A0 c0 1048576 (by simp; omega) (by omega) (by omega) _).mono ?_
    rintro e u1 ⟨he, d1⟩
    rw [if_pos (show 1048576 - (s0.length : Int) < 0 by omega)] at he
    subst he
    have X0 := Lib.hid (Box.of_new2 d1).1
    have X1 := Lib.hid (Box.of_new2 d1).2
    have b1 : Below w.heap.size w u1 := by first | exact d1 | exact und d1 | exact undN d1 | exact below_new d1 | exact und (below_new d1) | exact below_new (und d1) | exact below_new (below_new d1) | exact step (below_drew _) (und (below_new d1))
    have I0' := Lib.hid (I0.out.step b1)
    clear I0
    have I0 := I0'
    clear I0'
    have I1' := Lib.hid (I1.out.step b1)
    clear I1
    have I1 := I1'
    clear I1'
    have T1 := b1
    have Z1 := b1.size
    have g100 := X0.out.cell 0
    have g101 := X0.out.cell 1
    simp only [List.getElem?_toArray, List.getElem?_cons_zero, List.getElem?_cons_succ] at g100 g101
    have g10n := X0.out.lt
    have g110 := X1.out.cell 0
    have g111 := X1.out.cell 1
    simp only [List.getElem?_toArray, List.getElem?_cons_zero, List.getElem?_cons_succ] at g110 g111
    have g11n := X1.out.lt
    go_wp2
    go_ret
    exact ⟨rfl, T1⟩
  · skip
    by_cases hb1 : (1048576 - (s0.length : Int)) - (s1.length : Int) < 0
    · have I0 := Lib.hid (show RI w A0 s0 from w0)
      have I1 := Lib.hid (show RI w A1 s1 from w1)
      clear w0 w1
      go_enter Try.func6, Try.ntmps6
      go_wp2_with fail
      refine (szFact_any (r0, s0) A0 c0 1048576 (by simp; omega) (by omega) (by omega) _).mono ?_
      rintro e u1 ⟨he, d1⟩
      rw [if_neg (show ¬ (1048576 - (s0.length : Int) < 0) by omega)] at he
      subst he
      have X0 := Lib.hid (Box.of_new2 d1).1
      have X1 := Lib.hid (Box.of_new2 d1).2
      have b1 : Below w.heap.size w u1 := by first | exact d1 | exact und d1 | exact undN d1 | exact below_new d1 | exact und (below_new d1) | exact below_new (und d1) | exact below_new (below_new d1) | exact step (below_drew _) (und (below_new d1))
      have I0' := Lib.hid (I0.out.step b1)
      clear I0
      have I0 := I0'
      clear I0'
      have I1' := Lib.hid (I1.out.step b1)
      clear I1
      have I1 := I1'
      clear I1'
      have T1 := b1
      have Z1 := b1.size
      have g100 := X0.out.cell 0
      have g101 := X0.out.cell 1
      simp only [List.getElem?_toArray, List.getElem?_cons_zero, List.getElem?_cons_succ] at g100 g101
      have g10n := X0.out.lt
      have g110 := X1.out.cell 0
      have g111 := X1.out.cell 1
      simp only [List.getElem?_toArray, List.getElem?_cons_zero, List.getElem?_cons_succ] at g110 g111
      have g11n := X1.out.lt
      go_wp2_with fail
      refine (szFact_any (r1, s1) A1 c1 (1048576 - (s0.length : Int)) (by simp; omega) (by omega) (by omega) _).mono ?_
      rintro e u2 ⟨he, d2⟩
      rw [if_pos (show (1048576 - (s0.length : Int)) - (s1.length : Int) < 0 by omega)] at he
      subst he
      have b2 : Below u1.heap.size u1 u2 := by first | exact d2 | exact und d2 | exact undN d2 | exact below_new d2 | exact und (below_new d2) | exact below_new (und d2) | exact below_new (below_new d2) | exact step (below_drew _) (und (below_new d2))
      have I0' := Lib.hid (I0.out.step b2)
      clear I0
      have I0 := I0'
      clear I0'
      have I1' := Lib.hid (I1.out.step b2)
      clear I1
      have I1 := I1'
      clear I1'
      have X0' := Lib.hid (X0.out.step b2)
      clear X0
      have X0 := X0'
      clear X0'
      have X1' := Lib.hid (X1.out.step b2)
      clear X1
      have X1 := X1'
      clear X1'
      have T2 := step T1 b2
      have Z2 := b2.size
      have g200 := X0.out.cell 0
      have g201 := X0.out.cell 1
      simp only [List.getElem?_toArray, List.getElem?_cons_zero, List.getElem?_cons_succ] at g200 g201
      have g20n := X0.out.lt
      have g210 := X1.out.cell 0
      have g211 := X1.out.cell 1
      simp only [List.getElem?_toArray, List.getElem?_cons_zero, List.getElem?_cons_succ] at g210 g211
      have g21n := X1.out.lt
      go_wp2
      go_ret
      exact ⟨rfl, T2⟩
    · skip
      have hl0 : s0.length ≤ 1048576 := by omega
      have hL0 : (s0.length : Int) ≤ 1048576 := by omega
      have hl1 : s1.length ≤ 1048576 := by omega
      have hL1 : (s1.length : Int) ≤ 1048576 := by omega
      have I0 := Lib.hid (show RI w A0 s0 from w0)
      have I1 := Lib.hid (show RI w A1 s1 from w1)
      clear w0 w1
      go_enter Try.func6, Try.ntmps6
      go_wp2_with fail
      refine (szFact_any (r0, s0) A0 c0 1048576 (by simp; omega) (by omega) (by omega) _).mono ?_
      rintro e u1 ⟨he, d1⟩
      rw [if_neg (show ¬ (1048576 - (s0.length : Int) < 0) by omega)] at he
      subst he
      have X0 := Lib.hid (Box.of_new2 d1).1
      have X1 := Lib.hid (Box.of_new2 d1).2
      have b1 : Below w.heap.size w u1 := by first | exact d1 | exact und d1 | exact undN d1 | exact below_new d1 | exact und (below_new d1) | exact below_new (und d1) | exact below_new (below_new d1) | exact step (below_drew _) (und (below_new d1))
      have I0' := Lib.hid (I0.out.step b1)
      clear I0
      have I0 := I0'
      clear I0'
      have I1' := Lib.hid (I1.out.step b1)
      clear I1
      have I1 := I1'
      clear I1'
      have T1 := b1
      have Z1 := b1.size
      have g100 := X0.out.cell 0
      have g101 := X0.out.cell 1
      simp only [List.getElem?_toArray, List.getElem?_cons_zero, List.getElem?_cons_succ] at g100 g101
      have g10n := X0.out.lt
      have g110 := X1.out.cell 0
      have g111 := X1.out.cell 1
      simp only [List.getElem?_toArray, List.getElem?_cons_zero, List.getElem?_cons_succ] at g110 g111
      have g11n := X1.out.lt
      go_wp2_with fail
      refine (szFact_any (r1, s1) A1 c1 (1048576 - (s0.length : Int)) (by simp; omega) (by omega) (by omega) _).mono ?_
      rintro e u2 ⟨he, d2⟩
      rw [if_neg (show ¬ ((1048576 - (s0.length : Int)) - (s1.length : Int) < 0) by omega)] at he
      subst he
      have b2 : Below u1.heap.size u1 u2 := by first | exact d2 | exact und d2 | exact undN d2 | exact below_new d2 | exact und (below_new d2) | exact below_new (und d2) | exact below_new (below_new d2) | exact step (below_drew _) (und (below_new d2))
      have I0' := Lib.hid (I0.out.step b2)
      clear I0
      have I0 := I0'
      clear I0'
      have I1' := Lib.hid (I1.out.step b2)
      clear I1
      have I1 := I1'
      clear I1'
      have X0' := Lib.hid (X0.out.step b2)
      clear X0
      have X0 := X0'
      clear X0'
      have X1' := Lib.hid (X1.out.step b2)
      clear X1
      have X1 := X1'
      clear X1'
      have T2 := step T1 b2
      have Z2 := b2.size
      have g200 := X0.out.cell 0
      have g201 := X0.out.cell 1
      simp only [List.getElem?_toArray, List.getElem?_cons_zero, List.getElem?_cons_succ] at g200 g201
      have g20n := X0.out.lt
      have g210 := X1.out.cell 0
      have g211 := X1.out.cell 1
      simp only [List.getElem?_toArray, List.getElem?_cons_zero, List.getElem?_cons_succ] at g210 g211
      have g21n := X1.out.lt
      have tok3 : True := trivial
      have tok4 : True := trivial
      have tok5 : True := trivial
      go_wp2_with fail
      go_region_held3 (fun w' => w'.cell? ⟨w.heap.size, 0, none⟩ = some (.int .i64 r0) ∧ w'.cell? ⟨w.heap.size, 1, none⟩ = some (.slice A0 s0.length c0) ∧ w'.cell? ⟨w.heap.size + 1, 0, none⟩ = some (.int .i64 r1) ∧ w'.cell? ⟨w.heap.size + 1, 1, none⟩ = some (.slice A1 s1.length c1))
        (first
          | go_keep
          | (go_split_ands; refine ⟨?_, ?_, ?_, ?_⟩ <;> (rw [d3.cell (by (try simp) <;> omega)]; assumption))
          | (go_split_ands; refine ⟨?_, ?_, ?_, ?_⟩ <;> (rw [d4.cell (by (try simp) <;> omega)]; assumption))
          | (go_split_ands; refine ⟨?_, ?_, ?_, ?_⟩ <;> (rw [d5.cell (by (try simp) <;> omega)]; assumption)))
        (first
          | (go_at_call 16
             clear tok3
             refine (toFact_r r0 s0 A0 c0 hl0 _ (by first | exact I0.out | exact I0.out.step (below_drew _) | exact I0.out.step (below_alloc _ _))).mono ?_
             rintro e u3 ⟨rfl, r3, d3, z3⟩
             have b3 : Below u2.heap.size u2 u3 := by first | exact d3 | exact und d3 | exact undN d3 | exact below_new d3 | exact und (below_new d3) | exact below_new (und d3) | exact below_new (below_new d3) | exact step (below_drew _) (und (below_new d3))
             have I0' := Lib.hid (I0.out.step b3)
             clear I0
             have I0 := I0'
             clear I0'
             have I1' := Lib.hid (I1.out.step b3)
             clear I1
             have I1 := I1'
             clear I1'
             have X0' := Lib.hid (X0.out.step b3)
             clear X0
             have X0 := X0'
             clear X0'
             have X1' := Lib.hid (X1.out.step b3)
             clear X1
             have X1 := X1'
             clear X1'
             have T3 := step T2 b3
             have Z3 := b3.size
             try rw [al_size] at r3
             have R3 := Lib.hid r3.ri
             clear r3 z3)
          | (go_at_call 16
             clear tok4
             refine (toFact_r r1 s1 A1 c1 hl1 _ (by first | exact I1.out | exact I1.out.step (below_drew _) | exact I1.out.step (below_alloc _ _))).mono ?_
             rintro e u4 ⟨rfl, r4, d4, z4⟩
             have b4 : Below u3.heap.size u3 u4 := by first | exact d4 | exact und d4 | exact undN d4 | exact below_new d4 | exact und (below_new d4) | exact below_new (und d4) | exact below_new (below_new d4) | exact step (below_drew _) (und (below_new d4))
             have I0' := Lib.hid (I0.out.step b4)
             clear I0
             have I0 := I0'
             clear I0'
             have I1' := Lib.hid (I1.out.step b4)
             clear I1
             have I1 := I1'
             clear I1'
             have X0' := Lib.hid (X0.out.step b4)
             clear X0
             have X0 := X0'
             clear X0'
             have X1' := Lib.hid (X1.out.step b4)
             clear X1
             have X1 := X1'
             clear X1'
             have R3' := Lib.hid (R3.out.step b4)
             clear R3
             have R3 := R3'
             clear R3'
             have T4 := step T3 b4
             have Z4 := b4.size
             try rw [al_size] at r4
             have R4 := Lib.hid r4.ri
             clear r4 z4)
          | (go_at_call 24
             clear tok5
             refine (spec_CompareFacts r0 r1 s0 s1 _ _ _ _ (by omega) (by omega) _ (by first | exact R3.out | exact R3.out.step (below_drew _) | exact R3.out.step (below_alloc _ _)) (by first | exact R4.out | exact R4.out.step (below_drew _) | exact R4.out.step (below_alloc _ _))).mono ?_
             rintro e u5 ⟨rfl, d5⟩
             have b5 : Below u4.heap.size u4 u5 := by first | exact d5 | exact und d5 | exact undN d5 | exact below_new d5 | exact und (below_new d5) | exact below_new (und d5) | exact below_new (below_new d5) | exact step (below_drew _) (und (below_new d5))
             have I0' := Lib.hid (I0.out.step b5)
             clear I0
             have I0 := I0'
             clear I0'
             have I1' := Lib.hid (I1.out.step b5)
             clear I1
             have I1 := I1'
             clear I1'
             have X0' := Lib.hid (X0.out.step b5)
             clear X0
             have X0 := X0'
             clear X0'
             have X1' := Lib.hid (X1.out.step b5)
             clear X1
             have X1 := X1'
             clear X1'
             have R3' := Lib.hid (R3.out.step b5)
             clear R3
             have R3 := R3'
             clear R3'
             have R4' := Lib.hid (R4.out.step b5)
             clear R4
             have R4 := R4'
             clear R4'
             have T5 := step T4 b5
             have Z5 := b5.size))
      have h500 := X0.out.cell 0
      have h501 := X0.out.cell 1
      simp only [List.getElem?_toArray, List.getElem?_cons_zero, List.getElem?_cons_succ] at h500 h501
      have h50n := X0.out.lt
      have h510 := X1.out.cell 0
      have h511 := X1.out.cell 1
      simp only [List.getElem?_toArray, List.getElem?_cons_zero, List.getElem?_cons_succ] at h510 h511
      have h51n := X1.out.lt
      go_wp2_with fail
      refine (toFact_r r0 s0 A0 c0 hl0 _ (by first | exact I0.out | exact I0.out.step (below_drew _) | exact I0.out.step (below_alloc _ _))).mono ?_
      rintro e u6 ⟨rfl, r6, d6, z6⟩
      have b6 : Below u5.heap.size u5 u6 := by first | exact d6 | exact und d6 | exact undN d6 | exact below_new d6 | exact und (below_new d6) | exact below_new (und d6) | exact below_new (below_new d6) | exact step (below_drew _) (und (below_new d6))
      have I0' := Lib.hid (I0.out.step b6)
      clear I0
      have I0 := I0'
      clear I0'
      have I1' := Lib.hid (I1.out.step b6)
      clear I1
      have I1 := I1'
      clear I1'
      have X0' := Lib.hid (X0.out.step b6)
      clear X0
      have X0 := X0'
      clear X0'
      have X1' := Lib.hid (X1.out.step b6)
      clear X1
      have X1 := X1'
      clear X1'
      have T6 := step T5 b6
      have Z6 := b6.size
      try rw [al_size] at r6
      have R6 := Lib.hid r6.ri
      clear r6 z6
      have h600 := X0.out.cell 0
      have h601 := X0.out.cell 1
      simp only [List.getElem?_toArray, List.getElem?_cons_zero, List.getElem?_cons_succ] at h600 h601
      have h60n := X0.out.lt
      have h610 := X1.out.cell 0
      have h611 := X1.out.cell 1
      simp only [List.getElem?_toArray, List.getElem?_cons_zero, List.getElem?_cons_succ] at h610 h611
      have h61n := X1.out.lt
      go_wp2_with fail
      refine (toFact_r r1 s1 A1 c1 hl1 _ (by first | exact I1.out | exact I1.out.step (below_drew _) | exact I1.out.step (below_alloc _ _))).mono ?_
      rintro e u7 ⟨rfl, r7, d7, z7⟩
      have Y0 := Lib.hid (Box.of_new d7)
      have b7 : Below u6.heap.size u6 u7 := by first | exact d7 | exact und d7 | exact undN d7 | exact below_new d7 | exact und (below_new d7) | exact below_new (und d7) | exact below_new (below_new d7) | exact step (below_drew _) (und (below_new d7))
      have I0' := Lib.hid (I0.out.step b7)
      clear I0
      have I0 := I0'
      clear I0'
      have I1' := Lib.hid (I1.out.step b7)
      clear I1
      have I1 := I1'
      clear I1'
      have X0' := Lib.hid (X0.out.step b7)
      clear X0
      have X0 := X0'
      clear X0'
      have X1' := Lib.hid (X1.out.step b7)
      clear X1
      have X1 := X1'
      clear X1'
      have R6' := Lib.hid (R6.out.step b7)
      clear R6
      have R6 := R6'
      clear R6'
      have T7 := step T6 b7
      have Z7 := b7.size
      try rw [al_size] at r7
      have R7 := Lib.hid r7.ri
      clear r7 z7
      have H700 := Y0.out.cell 0
      have H701 := Y0.out.cell 1
      simp only [List.getElem?_toArray, List.getElem?_cons_zero, List.getElem?_cons_succ] at H700 H701
      have H70n := Y0.out.lt
      go_wp2_with fail
      refine (impl_CompareFacts r0 r1 s0 s1 _ _ _ _ (by omega) (by omega) _ (by first | exact R6.out | exact R6.out.step (below_drew _) | exact R6.out.step (below_alloc _ _)) (by first | exact R7.out | exact R7.out.step (below_drew _) | exact R7.out.step (below_alloc _ _))).mono ?_
      rintro e u8 ⟨rfl, d8⟩
      have Y1 := Lib.hid (Box.of_new d8)
      have b8 : Below u7.heap.size u7 u8 := by first | exact d8 | exact und d8 | exact undN d8 | exact below_new d8 | exact und (below_new d8) | exact below_new (und d8) | exact below_new (below_new d8) | exact step (below_drew _) (und (below_new d8))
      have I0' := Lib.hid (I0.out.step b8)
      clear I0
      have I0 := I0'
      clear I0'
      have I1' := Lib.hid (I1.out.step b8)
      clear I1
      have I1 := I1'
      clear I1'
      have X0' := Lib.hid (X0.out.step b8)
      clear X0
      have X0 := X0'
      clear X0'
      have X1' := Lib.hid (X1.out.step b8)
      clear X1
      have X1 := X1'
      clear X1'
      have R6' := Lib.hid (R6.out.step b8)
      clear R6
      have R6 := R6'
      clear R6'
      have R7' := Lib.hid (R7.out.step b8)
      clear R7
      have R7 := R7'
      clear R7'
      have Y0' := Lib.hid (Y0.out.step b8)
      clear Y0
      have Y0 := Y0'
      clear Y0'
      have T8 := step T7 b8
      have Z8 := b8.size
      have p800 := X0.out.cell 0
      have p801 := X0.out.cell 1
      simp only [List.getElem?_toArray, List.getElem?_cons_zero, List.getElem?_cons_succ] at p800 p801
      have p80n := X0.out.lt
      have p810 := X1.out.cell 0
      have p811 := X1.out.cell 1
      simp only [List.getElem?_toArray, List.getElem?_cons_zero, List.getElem?_cons_succ] at p810 p811
      have p81n := X1.out.lt
      have q800 := Y0.out.cell 0
      have q801 := Y0.out.cell 1
      simp only [List.getElem?_toArray, List.getElem?_cons_zero, List.getElem?_cons_succ] at q800 q801
      have q80n := Y0.out.lt
      have q810 := Y1.out.cell 0
      have q811 := Y1.out.cell 1
      simp only [List.getElem?_toArray, List.getElem?_cons_zero, List.getElem?_cons_succ] at q810 q811
      have q81n := Y1.out.lt
      have tok9 : True := trivial
      have tok10 : True := trivial
      go_wp2_with fail
      go_region_held3 (fun w' => w'.cell? ⟨w.heap.size, 0, none⟩ = some (.int .i64 r0) ∧ w'.cell? ⟨w.heap.size, 1, none⟩ = some (.slice A0 s0.length c0) ∧ w'.cell? ⟨u6.heap.size, 0, none⟩ = some (.int .i64 r0) ∧ w'.cell? ⟨u6.heap.size, 1, none⟩ = some (.slice (some ⟨u5.heap.size + 3, 0, none⟩) s0.length s0.length))
        (first
          | go_keep
          | (go_split_ands; refine ⟨?_, ?_, ?_, ?_⟩ <;> (rw [d9.cell (by (try simp) <;> omega)]; assumption))
          | (go_split_ands; refine ⟨?_, ?_, ?_, ?_⟩ <;> (rw [d10.cell (by (try simp) <;> omega)]; assumption)))
        (first
          | (go_at_call 16
             clear tok9
             refine (toFact_r r0 s0 A0 c0 hl0 _ (by first | exact I0.out | exact I0.out.step (below_drew _) | exact I0.out.step (below_alloc _ _))).mono ?_
             rintro e u9 ⟨rfl, r9, d9, z9⟩
             have b9 : Below u8.heap.size u8 u9 := by first | exact d9 | exact und d9 | exact undN d9 | exact below_new d9 | exact und (below_new d9) | exact below_new (und d9) | exact below_new (below_new d9) | exact step (below_drew _) (und (below_new d9))
             have I0' := Lib.hid (I0.out.step b9)
             clear I0
             have I0 := I0'
             clear I0'
             have I1' := Lib.hid (I1.out.step b9)
             clear I1
             have I1 := I1'
             clear I1'
             have X0' := Lib.hid (X0.out.step b9)
             clear X0
             have X0 := X0'
             clear X0'
             have X1' := Lib.hid (X1.out.step b9)
             clear X1
             have X1 := X1'
             clear X1'
             have R6' := Lib.hid (R6.out.step b9)
             clear R6
             have R6 := R6'
             clear R6'
             have R7' := Lib.hid (R7.out.step b9)
             clear R7
             have R7 := R7'
             clear R7'
             have Y0' := Lib.hid (Y0.out.step b9)
             clear Y0
             have Y0 := Y0'
             clear Y0'
             have Y1' := Lib.hid (Y1.out.step b9)
             clear Y1
             have Y1 := Y1'
             clear Y1'
             have T9 := step T8 b9
             have Z9 := b9.size
             try rw [al_size] at r9
             have R9 := Lib.hid r9.ri
             clear r9 z9)
          | (go_at_call 18
             clear tok10
             refine (eqFact_r r0 s0 _ _ _ _ hl0 _ (by first | exact R6.out | exact R6.out.step (below_drew _) | exact R6.out.step (below_alloc _ _)) (by first | exact R9.out | exact R9.out.step (below_drew _) | exact R9.out.step (below_alloc _ _))).mono ?_
             rintro e u10 ⟨rfl, d10⟩
             have b10 : Below u9.heap.size u9 u10 := by first | exact d10 | exact und d10 | exact undN d10 | exact below_new d10 | exact und (below_new d10) | exact below_new (und d10) | exact below_new (below_new d10) | exact step (below_drew _) (und (below_new d10))
             have I0' := Lib.hid (I0.out.step b10)
             clear I0
             have I0 := I0'
             clear I0'
             have I1' := Lib.hid (I1.out.step b10)
             clear I1
             have I1 := I1'
             clear I1'
             have X0' := Lib.hid (X0.out.step b10)
             clear X0
             have X0 := X0'
             clear X0'
             have X1' := Lib.hid (X1.out.step b10)
             clear X1
             have X1 := X1'
             clear X1'
             have R6' := Lib.hid (R6.out.step b10)
             clear R6
             have R6 := R6'
             clear R6'
             have R7' := Lib.hid (R7.out.step b10)
             clear R7
             have R7 := R7'
             clear R7'
             have Y0' := Lib.hid (Y0.out.step b10)
             clear Y0
             have Y0 := Y0'
             clear Y0'
             have Y1' := Lib.hid (Y1.out.step b10)
             clear Y1
             have Y1 := Y1'
             clear Y1'
             have R9' := Lib.hid (R9.out.step b10)
             clear R9
             have R9 := R9'
             clear R9'
             have T10 := step T9 b10
             have Z10 := b10.size))
      have p1000 := X0.out.cell 0
      have p1001 := X0.out.cell 1
      simp only [List.getElem?_toArray, List.getElem?_cons_zero, List.getElem?_cons_succ] at p1000 p1001
      have p100n := X0.out.lt
      have p1010 := X1.out.cell 0
      have p1011 := X1.out.cell 1
      simp only [List.getElem?_toArray, List.getElem?_cons_zero, List.getElem?_cons_succ] at p1010 p1011
      have p101n := X1.out.lt
      have q1000 := Y0.out.cell 0
      have q1001 := Y0.out.cell 1
      simp only [List.getElem?_toArray, List.getElem?_cons_zero, List.getElem?_cons_succ] at q1000 q1001
      have q100n := Y0.out.lt
      have q1010 := Y1.out.cell 0
      have q1011 := Y1.out.cell 1
      simp only [List.getElem?_toArray, List.getElem?_cons_zero, List.getElem?_cons_succ] at q1010 q1011
      have q101n := Y1.out.lt
      have tok11 : True := trivial
      have tok12 : True := trivial
      go_wp2_with fail
      go_region_held3 (fun w' => w'.cell? ⟨w.heap.size + 1, 0, none⟩ = some (.int .i64 r1) ∧ w'.cell? ⟨w.heap.size + 1, 1, none⟩ = some (.slice A1 s1.length c1) ∧ w'.cell? ⟨u7.heap.size, 0, none⟩ = some (.int .i64 r1) ∧ w'.cell? ⟨u7.heap.size, 1, none⟩ = some (.slice (some ⟨u6.heap.size + 1 + 3, 0, none⟩) s1.length s1.length))
        (first
          | go_keep
          | (go_split_ands; refine ⟨?_, ?_, ?_, ?_⟩ <;> (rw [d11.cell (by (try simp) <;> omega)]; assumption))
          | (go_split_ands; refine ⟨?_, ?_, ?_, ?_⟩ <;> (rw [d12.cell (by (try simp) <;> omega)]; assumption)))
        (first
          | (go_at_call 16
             clear tok11
             refine (toFact_r r1 s1 A1 c1 hl1 _ (by first | exact I1.out | exact I1.out.step (below_drew _) | exact I1.out.step (below_alloc _ _))).mono ?_
             rintro e u11 ⟨rfl, r11, d11, z11⟩
             have b11 : Below u10.heap.size u10 u11 := by first | exact d11 | exact und d11 | exact undN d11 | exact below_new d11 | exact und (below_new d11) | exact below_new (und d11) | exact below_new (below_new d11) | exact step (below_drew _) (und (below_new d11))
             have I0' := Lib.hid (I0.out.step b11)
             clear I0
             have I0 := I0'
             clear I0'
             have I1' := Lib.hid (I1.out.step b11)
             clear I1
             have I1 := I1'
             clear I1'
             have X0' := Lib.hid (X0.out.step b11)
             clear X0
             have X0 := X0'
             clear X0'
             have X1' := Lib.hid (X1.out.step b11)
             clear X1
             have X1 := X1'
             clear X1'
             have R6' := Lib.hid (R6.out.step b11)
             clear R6
             have R6 := R6'
             clear R6'
             have R7' := Lib.hid (R7.out.step b11)
             clear R7
             have R7 := R7'
             clear R7'
             have Y0' := Lib.hid (Y0.out.step b11)
             clear Y0
             have Y0 := Y0'
             clear Y0'
             have Y1' := Lib.hid (Y1.out.step b11)
             clear Y1
             have Y1 := Y1'
             clear Y1'
             have T11 := step T10 b11
             have Z11 := b11.size
             try rw [al_size] at r11
             have R11 := Lib.hid r11.ri
             clear r11 z11)
          | (go_at_call 18
             clear tok12
             refine (eqFact_r r1 s1 _ _ _ _ hl1 _ (by first | exact R7.out | exact R7.out.step (below_drew _) | exact R7.out.step (below_alloc _ _)) (by first | exact R11.out | exact R11.out.step (below_drew _) | exact R11.out.step (below_alloc _ _))).mono ?_
             rintro e u12 ⟨rfl, d12⟩
             have b12 : Below u11.heap.size u11 u12 := by first | exact d12 | exact und d12 | exact undN d12 | exact below_new d12 | exact und (below_new d12) | exact below_new (und d12) | exact below_new (below_new d12) | exact step (below_drew _) (und (below_new d12))
             have I0' := Lib.hid (I0.out.step b12)
             clear I0
             have I0 := I0'
             clear I0'
             have I1' := Lib.hid (I1.out.step b12)
             clear I1
             have I1 := I1'
             clear I1'
             have X0' := Lib.hid (X0.out.step b12)
             clear X0
             have X0 := X0'
             clear X0'
             have X1' := Lib.hid (X1.out.step b12)
             clear X1
             have X1 := X1'
             clear X1'
             have R6' := Lib.hid (R6.out.step b12)
             clear R6
             have R6 := R6'
             clear R6'
             have R7' := Lib.hid (R7.out.step b12)
             clear R7
             have R7 := R7'
             clear R7'
             have Y0' := Lib.hid (Y0.out.step b12)
             clear Y0
             have Y0 := Y0'
             clear Y0'
             have Y1' := Lib.hid (Y1.out.step b12)
             clear Y1
             have Y1 := Y1'
             clear Y1'
             have R11' := Lib.hid (R11.out.step b12)
             clear R11
             have R11 := R11'
             clear R11'
             have T12 := step T11 b12
             have Z12 := b12.size))
      go_wp2
      go_ret
      exact ⟨rfl, by first | exact T12 | exact T12.drew⟩

set_option maxRecDepth 100000 in
theorem lifted (os : Os) (started : os.Started) (H : Type) (enc : TypeId × Value → H) :
    ReturnsInHanded {} Try.checked os 6 .any (Rows.fnExactCompareFactsSpec.pre6 enc Try.prog Try.f6 Rows.fnExactCompareFactsRow.domain false) (Rows.fnExactCompareFactsSpec.post enc Try.prog Try.f6 false true false false) := by
  refine returnsInHanded_of_change (C := Try.checked) own started (by kernel_rfl) Try.func6
    (ChangeSpec.witness6 (enc := enc) (C := Try.checked) false ⟨#[], #[.agg #[.int .i64 0, .slice none 0 0], .agg #[.int .i64 0, .slice none 0 0]], []⟩ 8 (by kernel_rfl) (by kernel_rfl) (by kernel_rfl) (by kernel_rfl)) ?_
  intro W base args ds gs before hval0 hW hcnd _
  have hval : ∀ (j : Nat) t v, Try.f6.params[j]? = some t → args[j]? = some v → Value.okWide Try.prog W .any base t v := hval0
  have hpost := fun (W' : World) (hfn : Rows.fnExactCompareFactsSpec.fn H (ds ++ gs) = { results := [.lit (.bool true)], args := ds }) (hb : Below W.heap.size W W') => law_post (enc := enc) laidOut (f := Try.f6) (s := Rows.fnExactCompareFactsSpec) (args := args) rfl rfl Try.underlying4 (by intro t ht; rw [Try.params6] at ht; simp at ht; rcases ht with rfl | rfl <;> exact ⟨by kernel_rfl, of_decide_eq_true (by kernel_rfl)⟩) hW hfn hb
  obtain ⟨p, q, hA0, hV, rfl, hfz, hnd⟩ := hW
  have hA : DataW.TrodAll enc Try.prog W 0 (fun _ => true) true Try.f6.params.toList args.toList ds p := hA0
  rw [Try.params6] at hA hval
  obtain ⟨v0, vs0, d0, ds0, p0, q0, hargs, rfl, rfl, h0, r0⟩ := trodAll_cons hA
  obtain ⟨v1, vs1, d1, ds1, p1, q1, rfl, rfl, rfl, h1, r1⟩ := trodAll_cons r0
  obtain ⟨rfl, rfl, rfl⟩ := trodAll_nil r1
  obtain rfl : args = #[v0, v1] := by cases args; simp_all
  obtain ⟨rfl, rfl⟩ := trodVars_none hV
  obtain ⟨f0, A0, c0, rfl, l0, m0, w0⟩ := open_factT (hval 0 27 v0 rfl rfl) h0
  obtain ⟨f1, A1, c1, rfl, l1, m1, w1⟩ := open_factT (hval 1 27 v1 rfl rfl) h1
  refine (walk W f0 A0 c0 l0 m0 w0 f1 A1 c1 l1 m1 w1).mono fun e W' ⟨he, hg⟩ => ?_
  subst he
  exact ⟨_, rfl, hpost W' rfl hg⟩

theorem over : Rows.fnExactCompareFactsRow.holds Try.pinned (OpenSpec.ofChange Rows.fnExactCompareFactsSpec) :=
  OpenClaim.holds_of_wide 6 Try.f6 rfl rfl rfl rfl rfl rfl rfl ⟨rfl, rfl, rfl, rfl, rfl⟩ rfl rfl rfl rfl rfl (by kernel_rfl) Try.func6 (by kernel_rfl)
    (of_decide_eq_true (by kernel_rfl)) (by unfold Func.isWrapper; first | (rw [if_pos (by decide +kernel)]; kernel_rfl) | (rw [if_neg (by decide +kernel)]; exact ⟨rfl, rfl⟩))
    (fun os started H enc _ => lifted os started H enc)
end Go.Proofs.Ytafibomclpeheaa.fnExactCompareFacts
namespace Go.Proofs.Ytafibomclpeheaa
theorem fnExactCompareFacts_holds : Rows.FnExactCompareFactsSaid := fnExactCompareFacts.over
#print axioms fnExactCompareFacts_holds
end Go.Proofs.Ytafibomclpeheaa
