/- impl.MatchAtom answers as its model at every argument: the law FnExactMatchAtom returns true. Conditions: none beyond the statement's own. -/
import Derived.Test.YtigakhkhjjbboaaMatR
namespace Go.Proofs.Ytigakhkhjjbboaa.fnExactMatchAtom
open Go.ChangeShapes Go.WideShapes Go.ChangeAt Go.RowKit
open Go.ChangeMaps (open_string shut_string)
set_option linter.unusedVariables false
set_option linter.unusedSimpArgs false

set_option maxRecDepth 100000 in
set_option maxHeartbeats 100000000 in
theorem walk (w : World) (H0 A0 : Option Addr) (x0 c0 : Nat) (s0 l0 : List Int) (y0 : s0.length ≤ x0) (z0 : x0 ≤ maxLen) (k0 : l0.length ≤ c0) (m0 : c0 ≤ maxLen) (w0 : Ints w 0 w.heap.size H0 s0 ∧ Ints w 0 w.heap.size A0 l0) (g0 : (∀ n ∈ s0, (Lit.int .i64 n).wf = true) ∧ ∀ n ∈ l0, (Lit.int .i64 n).wf = true) (f1 : Int × List Int) (A1 : Option Addr) (c1 : Nat) (l1 : f1.2.length ≤ c1) (m1 : c1 ≤ maxLen) (w1 : Ints w 0 w.heap.size A1 f1.2) (g1 : ∀ n ∈ f1.2, (Lit.int .i64 n).wf = true) (f2 : Int × List Int) (A2 : Option Addr) (c2 : Nat) (l2 : f2.2.length ≤ c2) (m2 : c2 ≤ maxLen) (w2 : Ints w 0 w.heap.size A2 f2.2) (g2 : ∀ n ∈ f2.2, (Lit.int .i64 n).wf = true) :
    Calls Try.prog 3 #[.agg #[.slice H0 s0.length x0, .slice A0 l0.length c0], .agg #[.int .i64 f1.1, .slice A1 f1.2.length c1], .agg #[.int .i64 f2.1, .slice A2 f2.2.length c2]] w fun e w' => e = .returned (.bool true) ∧ Below w.heap.size w w' := by
  unfold maxLen at z0 m0 m1 m2
  obtain ⟨G0a, G0b⟩ := g0
  have EQ := Lib.hid (show szB s0 l0 = (s0.length : Int) + (l0.length : Int) from rfl)
  have hq : 0 ≤ szB s0 l0 := by rw [EQ.out]; omega
  obtain ⟨w3, hw3⟩ : ∃ W, W = ((w.alloc (.cells #[.slice H0 s0.length x0, .slice A0 l0.length c0] 24)).alloc (.cells #[.int .i64 f1.1, .slice A1 f1.2.length c1] 26)).alloc (.cells #[.int .i64 f2.1, .slice A2 f2.2.length c2] 28) := ⟨_, rfl⟩
  have E3 := Lib.hid hw3
  have T0 : Below w.heap.size w w3 := by rw [hw3]; exact step (step (below_alloc w _) (below_alloc _ _)) (below_alloc _ _)
  have XB := Lib.hid (show Box w3 w.heap.size #[.slice H0 s0.length x0, .slice A0 l0.length c0] 24 by rw [hw3]; exact ((Box.new w _ _).step (below_alloc _ _)).step (below_alloc _ _))
  have XA := Lib.hid (show Box w3 (w.heap.size + 1) #[.int .i64 f1.1, .slice A1 f1.2.length c1] 26 by rw [hw3]; have h := (Box.new (w.alloc (.cells #[.slice H0 s0.length x0, .slice A0 l0.length c0] 24)) #[.int .i64 f1.1, .slice A1 f1.2.length c1] 26).step (below_alloc _ (.cells #[.int .i64 f2.1, .slice A2 f2.2.length c2] 28)); simp only [al_size] at h; exact h)
  have XF := Lib.hid (show Box w3 (w.heap.size + 1 + 1) #[.int .i64 f2.1, .slice A2 f2.2.length c2] 28 by rw [hw3]; have h := Box.new ((w.alloc (.cells #[.slice H0 s0.length x0, .slice A0 l0.length c0] 24)).alloc (.cells #[.int .i64 f1.1, .slice A1 f1.2.length c1] 26)) #[.int .i64 f2.1, .slice A2 f2.2.length c2] 28; simp only [al_size] at h; exact h)
  have I0 := Lib.hid ((show RI w H0 s0 from w0.1).step T0)
  have F0 := Lib.hid ((show RI w A0 l0 from w0.2).step T0)
  have J1 := Lib.hid ((show RI w A1 f1.2 from w1).step T0)
  have J2 := Lib.hid ((show RI w A2 f2.2 from w2).step T0)
  have Z0 := T0.size
  have hz3 : w.heap.size + 3 = w3.heap.size := by rw [hw3, al_size, al_size, al_size]
  have I0w := I0
  have F0w := F0
  have J1w := J1
  have J2w := J2
  have XBw := XB
  have XAw := XA
  have XFw := XF
  clear w0 w1 w2 hw3
  have WG := Lib.hid (And.intro G0a (And.intro G0b (And.intro g1 g2)))
  clear G0a G0b g1 g2
  obtain ⟨r1, ts⟩ := f1
  obtain ⟨r2, vs⟩ := f2
  dsimp only at *
  obtain ⟨zb, hzb⟩ : ∃ z, z = 1048576 - szB s0 l0 := ⟨_, rfl⟩
  have HZB := Lib.hid hzb
  have hz1 : zb ≤ 1048576 - szB s0 l0 := by omega
  have hz2 : 1048576 - szB s0 l0 ≤ zb := by omega
  clear hzb
  by_cases hb0 : zb < 0
  · skip
    have TB0 := Below.refl w3.heap.size w3
    have ga0 := XB.out.cell 0
    have ga1 := XB.out.cell 1
    simp only [List.getElem?_toArray, List.getElem?_cons_zero, List.getElem?_cons_succ] at ga0 ga1
    have gan := XB.out.lt
    have gb0 := XA.out.cell 0
    have gb1 := XA.out.cell 1
    simp only [List.getElem?_toArray, List.getElem?_cons_zero, List.getElem?_cons_succ] at gb0 gb1
    have gbn := XA.out.lt
    have gc0 := XF.out.cell 0
    have gc1 := XF.out.cell 1
    simp only [List.getElem?_toArray, List.getElem?_cons_zero, List.getElem?_cons_succ] at gc0 gc1
    have gcn := XF.out.lt
    go_enter Try.func3, Try.ntmps3
    go_upto_region 1 with fail
    rw [← E3.out]
    go_wp2_with fail
    refine (szBinding_any H0 A0 x0 c0 s0 l0 1048576 (by omega) (by omega) (by omega) (by omega) _).mono ?_
    rintro e u1 ⟨he, d1⟩
    rw [szR_neg (show 1048576 - szB s0 l0 < 0 by omega)] at he
    subst he
    have b1 : Below w3.heap.size w3 u1 := by first | exact d1 | exact und d1 | exact undN d1 | exact below_new d1 | exact und (below_new d1) | exact below_new (und d1) | exact below_new (below_new d1) | exact step (below_drew _) (und (below_new d1))
    have I0' := Lib.hid (I0.out.step b1)
    clear I0
    have I0 := I0'
    clear I0'
    have F0' := Lib.hid (F0.out.step b1)
    clear F0
    have F0 := F0'
    clear F0'
    have J1' := Lib.hid (J1.out.step b1)
    clear J1
    have J1 := J1'
    clear J1'
    have J2' := Lib.hid (J2.out.step b1)
    clear J2
    have J2 := J2'
    clear J2'
    have XB' := Lib.hid (XB.out.step b1)
    clear XB
    have XB := XB'
    clear XB'
    have XA' := Lib.hid (XA.out.step b1)
    clear XA
    have XA := XA'
    clear XA'
    have XF' := Lib.hid (XF.out.step b1)
    clear XF
    have XF := XF'
    clear XF'
    have T1 := step TB0 b1
    have Z1 := b1.size
    have h0a0 := XB.out.cell 0
    have h0a1 := XB.out.cell 1
    simp only [List.getElem?_toArray, List.getElem?_cons_zero, List.getElem?_cons_succ] at h0a0 h0a1
    have h0an := XB.out.lt
    have h0b0 := XA.out.cell 0
    have h0b1 := XA.out.cell 1
    simp only [List.getElem?_toArray, List.getElem?_cons_zero, List.getElem?_cons_succ] at h0b0 h0b1
    have h0bn := XA.out.lt
    have h0c0 := XF.out.cell 0
    have h0c1 := XF.out.cell 1
    simp only [List.getElem?_toArray, List.getElem?_cons_zero, List.getElem?_cons_succ] at h0c0 h0c1
    have h0cn := XF.out.lt
    go_wp2
    go_ret
    exact ⟨rfl, T0.trans (T1.mono T0.size)⟩
  by_cases hb1 : zb - (ts.length : Int) < 0
  · have hp0 : 0 ≤ zb := by omega
    have TB0 := Below.refl w3.heap.size w3
    have ga0 := XB.out.cell 0
    have ga1 := XB.out.cell 1
    simp only [List.getElem?_toArray, List.getElem?_cons_zero, List.getElem?_cons_succ] at ga0 ga1
    have gan := XB.out.lt
    have gb0 := XA.out.cell 0
    have gb1 := XA.out.cell 1
    simp only [List.getElem?_toArray, List.getElem?_cons_zero, List.getElem?_cons_succ] at gb0 gb1
    have gbn := XA.out.lt
    have gc0 := XF.out.cell 0
    have gc1 := XF.out.cell 1
    simp only [List.getElem?_toArray, List.getElem?_cons_zero, List.getElem?_cons_succ] at gc0 gc1
    have gcn := XF.out.lt
    go_enter Try.func3, Try.ntmps3
    go_upto_region 1 with fail
    rw [← E3.out]
    go_wp2_with fail
    refine (szBinding_any H0 A0 x0 c0 s0 l0 1048576 (by omega) (by omega) (by omega) (by omega) _).mono ?_
    rintro e u1 ⟨he, d1⟩
    rw [szR_pos (show ¬ (1048576 - szB s0 l0 < 0) by omega), ← HZB.out] at he
    subst he
    have b1 : Below w3.heap.size w3 u1 := by first | exact d1 | exact und d1 | exact undN d1 | exact below_new d1 | exact und (below_new d1) | exact below_new (und d1) | exact below_new (below_new d1) | exact step (below_drew _) (und (below_new d1))
    have I0' := Lib.hid (I0.out.step b1)
    clear I0
    have I0 := I0'
    clear I0'
    have F0' := Lib.hid (F0.out.step b1)
    clear F0
    have F0 := F0'
    clear F0'
    have J1' := Lib.hid (J1.out.step b1)
    clear J1
    have J1 := J1'
    clear J1'
    have J2' := Lib.hid (J2.out.step b1)
    clear J2
    have J2 := J2'
    clear J2'
    have XB' := Lib.hid (XB.out.step b1)
    clear XB
    have XB := XB'
    clear XB'
    have XA' := Lib.hid (XA.out.step b1)
    clear XA
    have XA := XA'
    clear XA'
    have XF' := Lib.hid (XF.out.step b1)
    clear XF
    have XF := XF'
    clear XF'
    have T1 := step TB0 b1
    have Z1 := b1.size
    have h0a0 := XB.out.cell 0
    have h0a1 := XB.out.cell 1
    simp only [List.getElem?_toArray, List.getElem?_cons_zero, List.getElem?_cons_succ] at h0a0 h0a1
    have h0an := XB.out.lt
    have h0b0 := XA.out.cell 0
    have h0b1 := XA.out.cell 1
    simp only [List.getElem?_toArray, List.getElem?_cons_zero, List.getElem?_cons_succ] at h0b0 h0b1
    have h0bn := XA.out.lt
    have h0c0 := XF.out.cell 0
    have h0c1 := XF.out.cell 1
    simp only [List.getElem?_toArray, List.getElem?_cons_zero, List.getElem?_cons_succ] at h0c0 h0c1
    have h0cn := XF.out.lt
    go_wp2_with fail
    refine (atom.szAtom_any (r1, ts) A1 c1 zb (by dsimp only; omega) (by omega) (by omega) _).mono ?_
    rintro e u2 ⟨he, d2⟩
    dsimp only at he
    rw [if_pos (show zb - (ts.length : Int) < 0 by omega)] at he
    subst he
    have b2 : Below u1.heap.size u1 u2 := by first | exact d2 | exact und d2 | exact undN d2 | exact below_new d2 | exact und (below_new d2) | exact below_new (und d2) | exact below_new (below_new d2) | exact step (below_drew _) (und (below_new d2))
    have I0' := Lib.hid (I0.out.step b2)
    clear I0
    have I0 := I0'
    clear I0'
    have F0' := Lib.hid (F0.out.step b2)
    clear F0
    have F0 := F0'
    clear F0'
    have J1' := Lib.hid (J1.out.step b2)
    clear J1
    have J1 := J1'
    clear J1'
    have J2' := Lib.hid (J2.out.step b2)
    clear J2
    have J2 := J2'
    clear J2'
    have XB' := Lib.hid (XB.out.step b2)
    clear XB
    have XB := XB'
    clear XB'
    have XA' := Lib.hid (XA.out.step b2)
    clear XA
    have XA := XA'
    clear XA'
    have XF' := Lib.hid (XF.out.step b2)
    clear XF
    have XF := XF'
    clear XF'
    have T2 := step T1 b2
    have Z2 := b2.size
    have h1a0 := XB.out.cell 0
    have h1a1 := XB.out.cell 1
    simp only [List.getElem?_toArray, List.getElem?_cons_zero, List.getElem?_cons_succ] at h1a0 h1a1
    have h1an := XB.out.lt
    have h1b0 := XA.out.cell 0
    have h1b1 := XA.out.cell 1
    simp only [List.getElem?_toArray, List.getElem?_cons_zero, List.getElem?_cons_succ] at h1b0 h1b1
    have h1bn := XA.out.lt
    have h1c0 := XF.out.cell 0
    have h1c1 := XF.out.cell 1
    simp only [List.getElem?_toArray, List.getElem?_cons_zero, List.getElem?_cons_succ] at h1c0 h1c1
    have h1cn := XF.out.lt
    go_wp2
    go_ret
    exact ⟨rfl, T0.trans (T2.mono T0.size)⟩
  by_cases hb2 : zb - (ts.length : Int) - (vs.length : Int) < 0
  · have hp0 : 0 ≤ zb := by omega
    have hp1 : 0 ≤ zb - (ts.length : Int) := by omega
    have TB0 := Below.refl w3.heap.size w3
    have ga0 := XB.out.cell 0
    have ga1 := XB.out.cell 1
    simp only [List.getElem?_toArray, List.getElem?_cons_zero, List.getElem?_cons_succ] at ga0 ga1
    have gan := XB.out.lt
    have gb0 := XA.out.cell 0
    have gb1 := XA.out.cell 1
    simp only [List.getElem?_toArray, List.getElem?_cons_zero, List.getElem?_cons_succ] at gb0 gb1
    have gbn := XA.out.lt
    have gc0 := XF.out.cell 0
    have gc1 := XF.out.cell 1
    simp only [List.getElem?_toArray, List.getElem?_cons_zero, List.getElem?_cons_succ] at gc0 gc1
    have gcn := XF.out.lt
    go_enter Try.func3, Try.ntmps3
    go_upto_region 1 with fail
    rw [← E3.out]
    go_wp2_with fail
    refine (szBinding_any H0 A0 x0 c0 s0 l0 1048576 (by omega) (by omega) (by omega) (by omega) _).mono ?_
    rintro e u1 ⟨he, d1⟩
    rw [szR_pos (show ¬ (1048576 - szB s0 l0 < 0) by omega), ← HZB.out] at he
    subst he
    have b1 : Below w3.heap.size w3 u1 := by first | exact d1 | exact und d1 | exact undN d1 | exact below_new d1 | exact und (below_new d1) | exact below_new (und d1) | exact below_new (below_new d1) | exact step (below_drew _) (und (below_new d1))
    have I0' := Lib.hid (I0.out.step b1)
    clear I0
    have I0 := I0'
    clear I0'
    have F0' := Lib.hid (F0.out.step b1)
    clear F0
    have F0 := F0'
    clear F0'
    have J1' := Lib.hid (J1.out.step b1)
    clear J1
    have J1 := J1'
    clear J1'
    have J2' := Lib.hid (J2.out.step b1)
    clear J2
    have J2 := J2'
    clear J2'
    have XB' := Lib.hid (XB.out.step b1)
    clear XB
    have XB := XB'
    clear XB'
    have XA' := Lib.hid (XA.out.step b1)
    clear XA
    have XA := XA'
    clear XA'
    have XF' := Lib.hid (XF.out.step b1)
    clear XF
    have XF := XF'
    clear XF'
    have T1 := step TB0 b1
    have Z1 := b1.size
    have h0a0 := XB.out.cell 0
    have h0a1 := XB.out.cell 1
    simp only [List.getElem?_toArray, List.getElem?_cons_zero, List.getElem?_cons_succ] at h0a0 h0a1
    have h0an := XB.out.lt
    have h0b0 := XA.out.cell 0
    have h0b1 := XA.out.cell 1
    simp only [List.getElem?_toArray, List.getElem?_cons_zero, List.getElem?_cons_succ] at h0b0 h0b1
    have h0bn := XA.out.lt
    have h0c0 := XF.out.cell 0
    have h0c1 := XF.out.cell 1
    simp only [List.getElem?_toArray, List.getElem?_cons_zero, List.getElem?_cons_succ] at h0c0 h0c1
    have h0cn := XF.out.lt
    go_wp2_with fail
    refine (atom.szAtom_any (r1, ts) A1 c1 zb (by dsimp only; omega) (by omega) (by omega) _).mono ?_
    rintro e u2 ⟨he, d2⟩
    dsimp only at he
    rw [if_neg (show ¬ (zb - (ts.length : Int) < 0) by omega)] at he
    subst he
    have b2 : Below u1.heap.size u1 u2 := by first | exact d2 | exact und d2 | exact undN d2 | exact below_new d2 | exact und (below_new d2) | exact below_new (und d2) | exact below_new (below_new d2) | exact step (below_drew _) (und (below_new d2))
    have I0' := Lib.hid (I0.out.step b2)
    clear I0
    have I0 := I0'
    clear I0'
    have F0' := Lib.hid (F0.out.step b2)
    clear F0
    have F0 := F0'
    clear F0'
    have J1' := Lib.hid (J1.out.step b2)
    clear J1
    have J1 := J1'
    clear J1'
    have J2' := Lib.hid (J2.out.step b2)
    clear J2
    have J2 := J2'
    clear J2'
    have XB' := Lib.hid (XB.out.step b2)
    clear XB
    have XB := XB'
    clear XB'
    have XA' := Lib.hid (XA.out.step b2)
    clear XA
    have XA := XA'
    clear XA'
    have XF' := Lib.hid (XF.out.step b2)
    clear XF
    have XF := XF'
    clear XF'
    have T2 := step T1 b2
    have Z2 := b2.size
    have h1a0 := XB.out.cell 0
    have h1a1 := XB.out.cell 1
    simp only [List.getElem?_toArray, List.getElem?_cons_zero, List.getElem?_cons_succ] at h1a0 h1a1
    have h1an := XB.out.lt
    have h1b0 := XA.out.cell 0
    have h1b1 := XA.out.cell 1
    simp only [List.getElem?_toArray, List.getElem?_cons_zero, List.getElem?_cons_succ] at h1b0 h1b1
    have h1bn := XA.out.lt
    have h1c0 := XF.out.cell 0
    have h1c1 := XF.out.cell 1
    simp only [List.getElem?_toArray, List.getElem?_cons_zero, List.getElem?_cons_succ] at h1c0 h1c1
    have h1cn := XF.out.lt
    go_wp2_with fail
    refine (szFact_any (r2, vs) A2 c2 (zb - (ts.length : Int)) (by dsimp only; omega) (by omega) (by omega) _).mono ?_
    rintro e u3 ⟨he, d3⟩
    dsimp only at he
    rw [if_pos (show zb - (ts.length : Int) - (vs.length : Int) < 0 by omega)] at he
    subst he
    have b3 : Below u2.heap.size u2 u3 := by first | exact d3 | exact und d3 | exact undN d3 | exact below_new d3 | exact und (below_new d3) | exact below_new (und d3) | exact below_new (below_new d3) | exact step (below_drew _) (und (below_new d3))
    have I0' := Lib.hid (I0.out.step b3)
    clear I0
    have I0 := I0'
    clear I0'
    have F0' := Lib.hid (F0.out.step b3)
    clear F0
    have F0 := F0'
    clear F0'
    have J1' := Lib.hid (J1.out.step b3)
    clear J1
    have J1 := J1'
    clear J1'
    have J2' := Lib.hid (J2.out.step b3)
    clear J2
    have J2 := J2'
    clear J2'
    have XB' := Lib.hid (XB.out.step b3)
    clear XB
    have XB := XB'
    clear XB'
    have XA' := Lib.hid (XA.out.step b3)
    clear XA
    have XA := XA'
    clear XA'
    have XF' := Lib.hid (XF.out.step b3)
    clear XF
    have XF := XF'
    clear XF'
    have T3 := step T2 b3
    have Z3 := b3.size
    have h2a0 := XB.out.cell 0
    have h2a1 := XB.out.cell 1
    simp only [List.getElem?_toArray, List.getElem?_cons_zero, List.getElem?_cons_succ] at h2a0 h2a1
    have h2an := XB.out.lt
    have h2b0 := XA.out.cell 0
    have h2b1 := XA.out.cell 1
    simp only [List.getElem?_toArray, List.getElem?_cons_zero, List.getElem?_cons_succ] at h2b0 h2b1
    have h2bn := XA.out.lt
    have h2c0 := XF.out.cell 0
    have h2c1 := XF.out.cell 1
    simp only [List.getElem?_toArray, List.getElem?_cons_zero, List.getElem?_cons_succ] at h2c0 h2c1
    have h2cn := XF.out.lt
    go_wp2
    go_ret
    exact ⟨rfl, T0.trans (T3.mono T0.size)⟩
  have hp0 : 0 ≤ zb := by omega
  have hp1 : 0 ≤ zb - (ts.length : Int) := by omega
  have hp2 : 0 ≤ zb - (ts.length : Int) - (vs.length : Int) := by omega
  have hs0 : s0.length ≤ 1048576 := by rw [EQ.out] at hz1; omega
  have hl0 : l0.length ≤ 1048576 := by rw [EQ.out] at hz1; omega
  have hst : s0.length + ts.length ≤ 1048576 := by rw [EQ.out] at hz1; omega
  have hvs : vs.length ≤ 1048576 := by rw [EQ.out] at hz1; omega
  have hts : ts.length ≤ 1048576 := by omega
  have HLZ := Lib.hid hst
  have CS := Lib.hid fun (A B T V : Option Addr) (c d tc vc : Nat) (w : World) (a : RI w A s0) (b : RI w B l0) (e : RI w T ts) (f : RI w V vs) => spec_MatU A B T V c d tc vc r1 r2 s0 l0 ts vs hst hl0 hvs w a b e f
  have CI := Lib.hid fun (A B T V : Option Addr) (c d tc vc : Nat) (w : World) (a : RI w A s0) (b : RI w B l0) (e : RI w T ts) (f : RI w V vs) => impl_MatU A B T V c d tc vc r1 r2 s0 l0 ts vs hst hl0 hvs WG.out.1 WG.out.2.1 WG.out.2.2.1 WG.out.2.2.2 w a b e f
  have hres := mres_len (p := (s0, l0)) (r := r1) (r' := r2) (ts := ts) (vs := vs)
  dsimp only at hres
  generalize (matB (s0, l0) r1 ts r2 vs).isSome = flag at CS CI
  generalize mres (matB (s0, l0) r1 ts r2 vs) = res at CS CI hres
  obtain ⟨hrm, hrn⟩ := hres
  have hr1 : res.1.length ≤ 1048576 := by omega
  have hr2 : res.2.length ≤ 1048576 := by omega
  clear hrm hrn
  have TB0 := Below.refl w3.heap.size w3
  have ga0 := XB.out.cell 0
  have ga1 := XB.out.cell 1
  simp only [List.getElem?_toArray, List.getElem?_cons_zero, List.getElem?_cons_succ] at ga0 ga1
  have gan := XB.out.lt
  have gb0 := XA.out.cell 0
  have gb1 := XA.out.cell 1
  simp only [List.getElem?_toArray, List.getElem?_cons_zero, List.getElem?_cons_succ] at gb0 gb1
  have gbn := XA.out.lt
  have gc0 := XF.out.cell 0
  have gc1 := XF.out.cell 1
  simp only [List.getElem?_toArray, List.getElem?_cons_zero, List.getElem?_cons_succ] at gc0 gc1
  have gcn := XF.out.lt
  go_enter Try.func3, Try.ntmps3
  go_upto_region 1 with fail
  rw [← E3.out]
  go_wp2_with fail
  refine (szBinding_any H0 A0 x0 c0 s0 l0 1048576 (by omega) (by omega) (by omega) (by omega) _).mono ?_
  rintro e u1 ⟨he, d1⟩
  rw [szR_pos (show ¬ (1048576 - szB s0 l0 < 0) by omega), ← HZB.out] at he
  subst he
  have b1 : Below w3.heap.size w3 u1 := by first | exact d1 | exact und d1 | exact undN d1 | exact below_new d1 | exact und (below_new d1) | exact below_new (und d1) | exact below_new (below_new d1) | exact step (below_drew _) (und (below_new d1))
  have I0' := Lib.hid (I0.out.step b1)
  clear I0
  have I0 := I0'
  clear I0'
  have F0' := Lib.hid (F0.out.step b1)
  clear F0
  have F0 := F0'
  clear F0'
  have J1' := Lib.hid (J1.out.step b1)
  clear J1
  have J1 := J1'
  clear J1'
  have J2' := Lib.hid (J2.out.step b1)
  clear J2
  have J2 := J2'
  clear J2'
  have XB' := Lib.hid (XB.out.step b1)
  clear XB
  have XB := XB'
  clear XB'
  have XA' := Lib.hid (XA.out.step b1)
  clear XA
  have XA := XA'
  clear XA'
  have XF' := Lib.hid (XF.out.step b1)
  clear XF
  have XF := XF'
  clear XF'
  have T1 := step TB0 b1
  have Z1 := b1.size
  have h0a0 := XB.out.cell 0
  have h0a1 := XB.out.cell 1
  simp only [List.getElem?_toArray, List.getElem?_cons_zero, List.getElem?_cons_succ] at h0a0 h0a1
  have h0an := XB.out.lt
  have h0b0 := XA.out.cell 0
  have h0b1 := XA.out.cell 1
  simp only [List.getElem?_toArray, List.getElem?_cons_zero, List.getElem?_cons_succ] at h0b0 h0b1
  have h0bn := XA.out.lt
  have h0c0 := XF.out.cell 0
  have h0c1 := XF.out.cell 1
  simp only [List.getElem?_toArray, List.getElem?_cons_zero, List.getElem?_cons_succ] at h0c0 h0c1
  have h0cn := XF.out.lt
  go_wp2_with fail
  refine (atom.szAtom_any (r1, ts) A1 c1 zb (by dsimp only; omega) (by omega) (by omega) _).mono ?_
  rintro e u2 ⟨he, d2⟩
  dsimp only at he
  rw [if_neg (show ¬ (zb - (ts.length : Int) < 0) by omega)] at he
  subst he
  have b2 : Below u1.heap.size u1 u2 := by first | exact d2 | exact und d2 | exact undN d2 | exact below_new d2 | exact und (below_new d2) | exact below_new (und d2) | exact below_new (below_new d2) | exact step (below_drew _) (und (below_new d2))
  have I0' := Lib.hid (I0.out.step b2)
  clear I0
  have I0 := I0'
  clear I0'
  have F0' := Lib.hid (F0.out.step b2)
  clear F0
  have F0 := F0'
  clear F0'
  have J1' := Lib.hid (J1.out.step b2)
  clear J1
  have J1 := J1'
  clear J1'
  have J2' := Lib.hid (J2.out.step b2)
  clear J2
  have J2 := J2'
  clear J2'
  have XB' := Lib.hid (XB.out.step b2)
  clear XB
  have XB := XB'
  clear XB'
  have XA' := Lib.hid (XA.out.step b2)
  clear XA
  have XA := XA'
  clear XA'
  have XF' := Lib.hid (XF.out.step b2)
  clear XF
  have XF := XF'
  clear XF'
  have T2 := step T1 b2
  have Z2 := b2.size
  have h1a0 := XB.out.cell 0
  have h1a1 := XB.out.cell 1
  simp only [List.getElem?_toArray, List.getElem?_cons_zero, List.getElem?_cons_succ] at h1a0 h1a1
  have h1an := XB.out.lt
  have h1b0 := XA.out.cell 0
  have h1b1 := XA.out.cell 1
  simp only [List.getElem?_toArray, List.getElem?_cons_zero, List.getElem?_cons_succ] at h1b0 h1b1
  have h1bn := XA.out.lt
  have h1c0 := XF.out.cell 0
  have h1c1 := XF.out.cell 1
  simp only [List.getElem?_toArray, List.getElem?_cons_zero, List.getElem?_cons_succ] at h1c0 h1c1
  have h1cn := XF.out.lt
  go_wp2_with fail
  refine (szFact_any (r2, vs) A2 c2 (zb - (ts.length : Int)) (by dsimp only; omega) (by omega) (by omega) _).mono ?_
  rintro e u3 ⟨he, d3⟩
  dsimp only at he
  rw [if_neg (show ¬ (zb - (ts.length : Int) - (vs.length : Int) < 0) by omega)] at he
  subst he
  have b3 : Below u2.heap.size u2 u3 := by first | exact d3 | exact und d3 | exact undN d3 | exact below_new d3 | exact und (below_new d3) | exact below_new (und d3) | exact below_new (below_new d3) | exact step (below_drew _) (und (below_new d3))
  have I0' := Lib.hid (I0.out.step b3)
  clear I0
  have I0 := I0'
  clear I0'
  have F0' := Lib.hid (F0.out.step b3)
  clear F0
  have F0 := F0'
  clear F0'
  have J1' := Lib.hid (J1.out.step b3)
  clear J1
  have J1 := J1'
  clear J1'
  have J2' := Lib.hid (J2.out.step b3)
  clear J2
  have J2 := J2'
  clear J2'
  have XB' := Lib.hid (XB.out.step b3)
  clear XB
  have XB := XB'
  clear XB'
  have XA' := Lib.hid (XA.out.step b3)
  clear XA
  have XA := XA'
  clear XA'
  have XF' := Lib.hid (XF.out.step b3)
  clear XF
  have XF := XF'
  clear XF'
  have T3 := step T2 b3
  have Z3 := b3.size
  have h2a0 := XB.out.cell 0
  have h2a1 := XB.out.cell 1
  simp only [List.getElem?_toArray, List.getElem?_cons_zero, List.getElem?_cons_succ] at h2a0 h2a1
  have h2an := XB.out.lt
  have h2b0 := XA.out.cell 0
  have h2b1 := XA.out.cell 1
  simp only [List.getElem?_toArray, List.getElem?_cons_zero, List.getElem?_cons_succ] at h2b0 h2b1
  have h2bn := XA.out.lt
  have h2c0 := XF.out.cell 0
  have h2c1 := XF.out.cell 1
  simp only [List.getElem?_toArray, List.getElem?_cons_zero, List.getElem?_cons_succ] at h2c0 h2c1
  have h2cn := XF.out.lt
  go_wp2_with fail
  refine wp_region_inv rfl (by kernel_rfl) (fun listed a u => ∃ T : Nat → Value, a = (⟨#[Value.agg #[Value.slice H0 s0.length x0, Value.slice A0 l0.length c0], Value.agg #[Value.int IntKind.i64 r1, Value.slice A1 ts.length c1], Value.agg #[Value.int IntKind.i64 r2, Value.slice A2 vs.length c2], Value.pointer (some { block := w.heap.size, off := 0 }), Value.pointer (some { block := w.heap.size + 1, off := 0 }), Value.pointer (some { block := w.heap.size + 1 + 1, off := 0 }), Value.bool false, Value.int IntKind.i64 (zb - ↑ts.length - ↑vs.length), T 10, T 12, undef, undef, undef, undef, undef, undef, undef, undef, undef, undef, Value.agg #[Value.slice H0 s0.length x0, Value.slice A0 l0.length c0], Value.int IntKind.i64 1048576, Value.int IntKind.i64 zb, Value.int IntKind.i64 zb, Value.bool (decide (zb < 0)), Value.agg #[Value.int IntKind.i64 r1, Value.slice A1 ts.length c1], Value.int IntKind.i64 zb, Value.int IntKind.i64 (zb - ↑ts.length), Value.int IntKind.i64 (zb - ↑ts.length), Value.bool (decide (zb - ↑ts.length < 0)), Value.agg #[Value.int IntKind.i64 r2, Value.slice A2 vs.length c2], Value.int IntKind.i64 (zb - ↑ts.length), Value.int IntKind.i64 (zb - ↑ts.length - ↑vs.length), Value.int IntKind.i64 (zb - ↑ts.length - ↑vs.length), Value.bool (decide (zb - ↑ts.length - ↑vs.length < 0)), T 7, T 0, T 1, T 2, T 3, T 4, T 5, T 6, T 8, T 9, undef, undef, undef, undef, undef, undef, undef, undef, undef, undef, undef, undef, undef, undef, undef, undef, undef, undef, undef, undef, undef, undef, undef, undef, undef, undef, undef, undef, undef, undef, undef, undef, undef, undef, undef, undef, undef, undef, undef, undef, undef, undef, undef, undef, undef, undef, undef, undef, undef, undef, undef, undef, undef, undef, undef, undef, undef, undef, undef, undef, undef, undef, undef, undef, undef, undef, undef, undef, undef, undef, undef, undef, undef, undef, undef, undef, undef, undef, undef, undef, undef, undef, undef, undef, undef, undef, undef, undef, undef, undef, undef, undef, undef, undef, undef, undef, undef], []⟩ : Act) ∧ MRI res flag s0 l0 ts vs r1 r2 (.agg #[.slice H0 s0.length x0, .slice A0 l0.length c0]) (.agg #[.int .i64 r1, .slice A1 ts.length c1]) (.agg #[.int .i64 r2, .slice A2 vs.length c2]) u3 listed T u) ?_ ?_ ?_
  · exact ⟨fun _ => undef, rfl, MRI.start⟩
  · rintro listed a u i hi hz hc ⟨T, rfl, hM⟩
    have hlt : i < 13 := ready_lt hi
    have hs : i < listed.size := by rw [hz]; exact ready_lt hi
    have hn := ready_new hi hz
    have hbu := hM.below
    obtain rfl | rfl | rfl | rfl | rfl | rfl | rfl | rfl | rfl | rfl | rfl | rfl | rfl : i = 0 ∨ i = 1 ∨ i = 2 ∨ i = 3 ∨ i = 4 ∨ i = 5 ∨ i = 6 ∨ i = 7 ∨ i = 8 ∨ i = 9 ∨ i = 10 ∨ i = 11 ∨ i = 12 := by omega
    · refine wpOp_plain rfl rfl (fun K' hK => ?_)
      have q0 := (XB.out.step hbu).cell 0
      have q1 := (XB.out.step hbu).cell 1
      simp only [List.getElem?_toArray, List.getElem?_cons_zero, List.getElem?_cons_succ] at q0 q1
      go_simp
      exact hK _ _ ⟨upd T 0 (.agg #[.slice H0 s0.length x0, .slice A0 l0.length c0]), rfl, hM.quiet hs (by decide) (by rintro x ⟨⟩; rfl)⟩
    · refine wpOp_plain rfl rfl (fun K' hK => ?_)
      have e0 := hM.fv 0 _ rfl (ready_dep hi (j := 0) (by kernel_rfl))
      rw [e0]
      go_simp
      go_at_call 8
      refine (toBinding_r H0 A0 x0 c0 s0 l0 hs0 hl0 u (I0.out.step hbu) (F0.out.step hbu)).mono ?_
      rintro e u2 ⟨rfl, rr, dd, _⟩
      exact hK _ _ ⟨upd T 1 (.agg #[.slice (some ⟨u.heap.size + 3, 0, none⟩) s0.length s0.length, .slice (some ⟨u.heap.size + 3 + 1, 0, none⟩) l0.length l0.length]), by simp [upd, e0], hM.fresh hs dd (by rintro x ⟨⟩) (fun _ => ⟨_, _, _, _, rfl, rr.ri, rr.rv⟩) (fun e => absurd e (by decide)) (fun e => absurd e (by decide)) (fun e => absurd e (by decide)) (fun e => absurd e (by decide)) (fun e => absurd e (by decide)) (fun e => absurd e (by decide)) (by decide)⟩
    · refine wpOp_plain rfl rfl (fun K' hK => ?_)
      have q0 := (XA.out.step hbu).cell 0
      have q1 := (XA.out.step hbu).cell 1
      simp only [List.getElem?_toArray, List.getElem?_cons_zero, List.getElem?_cons_succ] at q0 q1
      go_simp
      exact hK _ _ ⟨upd T 2 (.agg #[.int .i64 r1, .slice A1 ts.length c1]), rfl, hM.quiet hs (by decide) (by rintro x ⟨⟩; rfl)⟩
    · refine wpOp_plain rfl rfl (fun K' hK => ?_)
      have e0 := hM.fv 2 _ rfl (ready_dep hi (j := 2) (by kernel_rfl))
      rw [e0]
      go_simp
      go_at_call 9
      refine (atom.toAtom_r r1 ts A1 c1 hts u (J1.out.step hbu)).mono ?_
      rintro e u2 ⟨rfl, rr, dd, _⟩
      exact hK _ _ ⟨upd T 3 (.agg #[.int .i64 r1, .slice (some ⟨u.heap.size + 3, 0, none⟩) ts.length ts.length]), by simp [upd, e0], hM.fresh hs dd (by rintro x ⟨⟩) (fun e => absurd e (by decide)) (fun _ => ⟨_, _, rfl, rr.ri⟩) (fun e => absurd e (by decide)) (fun e => absurd e (by decide)) (fun e => absurd e (by decide)) (fun e => absurd e (by decide)) (fun e => absurd e (by decide)) (by decide)⟩
    · refine wpOp_plain rfl rfl (fun K' hK => ?_)
      have q0 := (XF.out.step hbu).cell 0
      have q1 := (XF.out.step hbu).cell 1
      simp only [List.getElem?_toArray, List.getElem?_cons_zero, List.getElem?_cons_succ] at q0 q1
      go_simp
      exact hK _ _ ⟨upd T 4 (.agg #[.int .i64 r2, .slice A2 vs.length c2]), rfl, hM.quiet hs (by decide) (by rintro x ⟨⟩; rfl)⟩
    · refine wpOp_plain rfl rfl (fun K' hK => ?_)
      have e0 := hM.fv 4 _ rfl (ready_dep hi (j := 4) (by kernel_rfl))
      rw [e0]
      go_simp
      go_at_call 10
      refine (toFact_r r2 vs A2 c2 hvs u (J2.out.step hbu)).mono ?_
      rintro e u2 ⟨rfl, rr, dd, _⟩
      exact hK _ _ ⟨upd T 5 (.agg #[.int .i64 r2, .slice (some ⟨u.heap.size + 3, 0, none⟩) vs.length vs.length]), by simp [upd, e0], hM.fresh hs dd (by rintro x ⟨⟩) (fun e => absurd e (by decide)) (fun e => absurd e (by decide)) (fun _ => ⟨_, _, rfl, rr.ri⟩) (fun e => absurd e (by decide)) (fun e => absurd e (by decide)) (fun e => absurd e (by decide)) (fun e => absurd e (by decide)) (by decide)⟩
    · refine wpOp_plain rfl rfl (fun K' hK => ?_)
      obtain ⟨X1, k1, Y1, k2, e1, i1, i2⟩ := hM.p1 hn (ready_dep hi (j := 1) (by kernel_rfl))
      obtain ⟨X3, k3, e3, i3⟩ := hM.p3 hn (ready_dep hi (j := 3) (by kernel_rfl))
      obtain ⟨X5, k5, e5, i5⟩ := hM.p5 hn (ready_dep hi (j := 5) (by kernel_rfl))
      have n7 := not_yet hc hn 0 7 (by kernel_rfl)
      have n8 := not_yet hc hn 1 8 (by kernel_rfl)
      rw [e1, e3, e5]
      go_simp
      go_at_call 7
      refine (CS.out X1 Y1 X3 X5 k1 k2 k3 k5 u i1 i2 i3 i5).mono ?_
      rintro e u2 ⟨X, cX, Y, cY, rfl, hbi, dd⟩
      exact hK _ _ ⟨upd T 6 (.tuple #[.agg #[.slice X res.1.length cX, .slice Y res.2.length cY], .bool flag]), by simp [upd, e1, e3, e5], hM.fresh hs dd (by rintro x ⟨⟩) (fun e => absurd e (by decide)) (fun e => absurd e (by decide)) (fun e => absurd e (by decide)) (fun _ => ⟨n7, n8, X, cX, Y, cY, rfl, hbi.1, hbi.2⟩) (fun e => absurd e (by decide)) (fun e => absurd e (by decide)) (fun e => absurd e (by decide)) (by decide)⟩
    · refine wpOp_plain rfl rfl (fun K' hK => ?_)
      obtain ⟨X, cX, Y, cY, e6, k7, k8, k9, k10⟩ := hM.p6 (ready_dep hi (j := 6) (by kernel_rfl))
      rw [e6]
      go_simp
      exact hK _ _ ⟨upd T 7 (.tuple #[.agg #[.slice X res.1.length cX, .slice Y res.2.length cY], .bool flag]), by simp [upd, e6], hM.fresh hs (Below.refl _ _) (by rintro x ⟨⟩) (fun e => absurd e (by decide)) (fun e => absurd e (by decide)) (fun e => absurd e (by decide)) (fun e => absurd e (by decide)) (fun _ => e6.symm) (fun e => absurd e (by decide)) (fun e => absurd e (by decide)) (by decide)⟩
    · refine wpOp_plain rfl rfl (fun K' hK => ?_)
      have d7 := ready_dep hi (j := 7) (by kernel_rfl)
      obtain ⟨X, cX, Y, cY, e6, k7, k8, k9, k10⟩ := hM.p6 (closed_reach hc 0 7 6 (by kernel_rfl) d7)
      have e7 := (k7 d7).trans e6
      rw [e7]
      go_simp
      exact hK _ _ ⟨upd T 8 (.agg #[.slice X res.1.length cX, .slice Y res.2.length cY]), by simp [upd, e7, e6], hM.fresh hs (Below.refl _ _) (by rintro x ⟨⟩) (fun e => absurd e (by decide)) (fun e => absurd e (by decide)) (fun e => absurd e (by decide)) (fun e => absurd e (by decide)) (fun e => absurd e (by decide)) (fun _ X' c' Y' d' h => by rw [e6] at h; injection h with h; injection h with h; injection h) (fun e => absurd e (by decide)) (by decide)⟩
    · refine wpOp_plain rfl rfl (fun K' hK => ?_)
      have d7 := ready_dep hi (j := 7) (by kernel_rfl)
      obtain ⟨X, cX, Y, cY, e6, k7, k8, k9, k10⟩ := hM.p6 (closed_reach hc 0 7 6 (by kernel_rfl) d7)
      have e7 := (k7 d7).trans e6
      rw [e7]
      go_simp
      exact hK _ _ ⟨upd T 9 (.bool flag), by simp [upd, e7, e6], hM.quiet hs (by decide) (by rintro x ⟨⟩; rfl)⟩
    · refine wpOp_plain rfl rfl (fun K' hK => ?_)
      have n11 := not_yet hc hn 0 11 (by kernel_rfl)
      go_simp
      exact hK _ _ ⟨upd T 10 (.pointer (some ⟨u.heap.size, 0, none⟩)), by simp [upd], hM.fresh hs (below_alloc _ _) (by rintro x ⟨⟩) (fun e => absurd e (by decide)) (fun e => absurd e (by decide)) (fun e => absurd e (by decide)) (fun e => absurd e (by decide)) (fun e => absurd e (by decide)) (fun e => absurd e (by decide)) (fun _ => ⟨n11, _, rfl, Box.new _ _ _, hbu.size⟩) (by decide)⟩
    · refine wpOp_plain rfl rfl (fun K' hK => ?_)
      have d8 := ready_dep hi (j := 8) (by kernel_rfl)
      have d6 := closed_reach hc 1 8 6 (by kernel_rfl) d8
      obtain ⟨X, cX, Y, cY, e6, k7, k8, k9, k10⟩ := hM.p6 d6
      obtain ⟨gb, e10, hB, hgb⟩ := hM.p10 hn (ready_dep hi (j := 10) (by kernel_rfl))
      have e8 := k8 d8
      have y0 := hB.cell 0
      have y1 := hB.cell 1
      have y2 := hB.frozen 0
      have y3 := hB.frozen 1
      simp only [List.getElem?_toArray, List.getElem?_cons_zero, List.getElem?_cons_succ] at y0 y1
      rw [e8, e10]
      go_simp
      exact hK _ _ ⟨T, (by first | (rw [e8, e10, e6]; done) | (rw [e8, e10, e6]; rfl) | simp [e8, e10, e6]), hM.store hs d6 e6 e10 hB hgb k9 k10⟩
    · refine wpOp_plain rfl rfl (fun K' hK => ?_)
      have e9 := hM.fv 9 _ rfl (ready_dep hi (j := 9) (by kernel_rfl))
      rw [e9]
      go_simp
      exact hK _ _ ⟨upd T 12 (.bool flag), by simp [upd, e9], hM.quiet hs (by decide) (by rintro x ⟨⟩; rfl)⟩
  rintro listed a u4 hz hall ⟨TT, rfl, hM⟩
  obtain ⟨gbs, Xs, cXs, Ys, cYs, e10, hG, hg, hbi⟩ := hM.p11 (hall 11 (by decide))
  have e12 := hM.fv 12 _ rfl (hall 12 (by decide))
  rw [e10, e12]
  clear e10 e12
  have d4 := hM.below
  have b4 : Below u3.heap.size u3 u4 := by first | exact d4 | exact und d4 | exact undN d4 | exact below_new d4 | exact und (below_new d4) | exact below_new (und d4) | exact below_new (below_new d4) | exact step (below_drew _) (und (below_new d4))
  have I0' := Lib.hid (I0.out.step b4)
  clear I0
  have I0 := I0'
  clear I0'
  have F0' := Lib.hid (F0.out.step b4)
  clear F0
  have F0 := F0'
  clear F0'
  have J1' := Lib.hid (J1.out.step b4)
  clear J1
  have J1 := J1'
  clear J1'
  have J2' := Lib.hid (J2.out.step b4)
  clear J2
  have J2 := J2'
  clear J2'
  have XB' := Lib.hid (XB.out.step b4)
  clear XB
  have XB := XB'
  clear XB'
  have XA' := Lib.hid (XA.out.step b4)
  clear XA
  have XA := XA'
  clear XA'
  have XF' := Lib.hid (XF.out.step b4)
  clear XF
  have XF := XF'
  clear XF'
  have T4 := step T3 b4
  have Z4 := b4.size
  have Gs := Lib.hid hG
  have Ns := hg
  have Bs := Lib.hid hbi
  clear hM hG hbi hall hz listed hg
  dsimp only
  have BS := Lib.hid (show BB u4 u4.heap.size Xs Ys res from ⟨Bs.out.1, Bs.out.2, Nat.le_refl _⟩)
  clear Bs
  have Ns2 := Gs.out.lt
  have h4a0 := XB.out.cell 0
  have h4a1 := XB.out.cell 1
  simp only [List.getElem?_toArray, List.getElem?_cons_zero, List.getElem?_cons_succ] at h4a0 h4a1
  have h4an := XB.out.lt
  have h4b0 := XA.out.cell 0
  have h4b1 := XA.out.cell 1
  simp only [List.getElem?_toArray, List.getElem?_cons_zero, List.getElem?_cons_succ] at h4b0 h4b1
  have h4bn := XA.out.lt
  have h4c0 := XF.out.cell 0
  have h4c1 := XF.out.cell 1
  simp only [List.getElem?_toArray, List.getElem?_cons_zero, List.getElem?_cons_succ] at h4c0 h4c1
  have h4cn := XF.out.lt
  go_wp2_with fail
  refine (toBinding_r H0 A0 x0 c0 s0 l0 hs0 hl0 _ (by first | exact I0.out | exact I0.out.step (below_drew _) | exact I0.out.step (below_alloc _ _) | exact I0.out.step (step (below_alloc _ _) (below_alloc _ _))) (by first | exact F0.out | exact F0.out.step (below_drew _) | exact F0.out.step (below_alloc _ _) | exact F0.out.step (step (below_alloc _ _) (below_alloc _ _)))).mono ?_
  rintro e u5 ⟨rfl, r5, d5, z5⟩
  have b5 : Below u4.heap.size u4 u5 := by first | exact d5 | exact und d5 | exact undN d5 | exact below_new d5 | exact und (below_new d5) | exact below_new (und d5) | exact below_new (below_new d5) | exact step (below_drew _) (und (below_new d5))
  have I0' := Lib.hid (I0.out.step b5)
  clear I0
  have I0 := I0'
  clear I0'
  have F0' := Lib.hid (F0.out.step b5)
  clear F0
  have F0 := F0'
  clear F0'
  have J1' := Lib.hid (J1.out.step b5)
  clear J1
  have J1 := J1'
  clear J1'
  have J2' := Lib.hid (J2.out.step b5)
  clear J2
  have J2 := J2'
  clear J2'
  have XB' := Lib.hid (XB.out.step b5)
  clear XB
  have XB := XB'
  clear XB'
  have XA' := Lib.hid (XA.out.step b5)
  clear XA
  have XA := XA'
  clear XA'
  have XF' := Lib.hid (XF.out.step b5)
  clear XF
  have XF := XF'
  clear XF'
  have Gs' := Lib.hid (Gs.out.step b5)
  clear Gs
  have Gs := Gs'
  clear Gs'
  have BS' := Lib.hid (BS.out.step b5)
  clear BS
  have BS := BS'
  clear BS'
  have T5 := step T4 b5
  have Z5 := b5.size
  have Q5 := Lib.hid r5
  have zl5 := Nat.le_of_eq z5
  have zg5 := Nat.le_of_eq z5.symm
  clear r5 z5
  have h5b0 := XA.out.cell 0
  have h5b1 := XA.out.cell 1
  simp only [List.getElem?_toArray, List.getElem?_cons_zero, List.getElem?_cons_succ] at h5b0 h5b1
  have h5bn := XA.out.lt
  have h5c0 := XF.out.cell 0
  have h5c1 := XF.out.cell 1
  simp only [List.getElem?_toArray, List.getElem?_cons_zero, List.getElem?_cons_succ] at h5c0 h5c1
  have h5cn := XF.out.lt
  go_wp2_with fail
  refine (atom.toAtom_r r1 ts A1 c1 hts _ (by first | exact J1.out | exact J1.out.step (below_drew _) | exact J1.out.step (below_alloc _ _) | exact J1.out.step (step (below_alloc _ _) (below_alloc _ _)))).mono ?_
  rintro e u6 ⟨rfl, r6, d6, z6⟩
  have Y10 := Lib.hid (Box.of_new d6)
  have b6 : Below u5.heap.size u5 u6 := by first | exact d6 | exact und d6 | exact undN d6 | exact below_new d6 | exact und (below_new d6) | exact below_new (und d6) | exact below_new (below_new d6) | exact step (below_drew _) (und (below_new d6))
  have I0' := Lib.hid (I0.out.step b6)
  clear I0
  have I0 := I0'
  clear I0'
  have F0' := Lib.hid (F0.out.step b6)
  clear F0
  have F0 := F0'
  clear F0'
  have J1' := Lib.hid (J1.out.step b6)
  clear J1
  have J1 := J1'
  clear J1'
  have J2' := Lib.hid (J2.out.step b6)
  clear J2
  have J2 := J2'
  clear J2'
  have XB' := Lib.hid (XB.out.step b6)
  clear XB
  have XB := XB'
  clear XB'
  have XA' := Lib.hid (XA.out.step b6)
  clear XA
  have XA := XA'
  clear XA'
  have XF' := Lib.hid (XF.out.step b6)
  clear XF
  have XF := XF'
  clear XF'
  have Gs' := Lib.hid (Gs.out.step b6)
  clear Gs
  have Gs := Gs'
  clear Gs'
  have BS' := Lib.hid (BS.out.step b6)
  clear BS
  have BS := BS'
  clear BS'
  have Q5' := Lib.hid (Q5.out.step b6)
  clear Q5
  have Q5 := Q5'
  clear Q5'
  have T6 := step T5 b6
  have Z6 := b6.size
  try rw [al_size] at r6 z6
  have Q6 := Lib.hid r6
  have zl6 := Nat.le_of_eq z6
  have zg6 := Nat.le_of_eq z6.symm
  clear r6 z6
  have h6c0 := XF.out.cell 0
  have h6c1 := XF.out.cell 1
  simp only [List.getElem?_toArray, List.getElem?_cons_zero, List.getElem?_cons_succ] at h6c0 h6c1
  have h6cn := XF.out.lt
  go_wp2_with fail
  refine (toFact_r r2 vs A2 c2 hvs _ (by first | exact J2.out | exact J2.out.step (below_drew _) | exact J2.out.step (below_alloc _ _) | exact J2.out.step (step (below_alloc _ _) (below_alloc _ _)))).mono ?_
  rintro e u7 ⟨rfl, r7, d7, z7⟩
  have Y11 := Lib.hid (Box.of_new d7)
  have b7 : Below u6.heap.size u6 u7 := by first | exact d7 | exact und d7 | exact undN d7 | exact below_new d7 | exact und (below_new d7) | exact below_new (und d7) | exact below_new (below_new d7) | exact step (below_drew _) (und (below_new d7))
  have I0' := Lib.hid (I0.out.step b7)
  clear I0
  have I0 := I0'
  clear I0'
  have F0' := Lib.hid (F0.out.step b7)
  clear F0
  have F0 := F0'
  clear F0'
  have J1' := Lib.hid (J1.out.step b7)
  clear J1
  have J1 := J1'
  clear J1'
  have J2' := Lib.hid (J2.out.step b7)
  clear J2
  have J2 := J2'
  clear J2'
  have XB' := Lib.hid (XB.out.step b7)
  clear XB
  have XB := XB'
  clear XB'
  have XA' := Lib.hid (XA.out.step b7)
  clear XA
  have XA := XA'
  clear XA'
  have XF' := Lib.hid (XF.out.step b7)
  clear XF
  have XF := XF'
  clear XF'
  have Gs' := Lib.hid (Gs.out.step b7)
  clear Gs
  have Gs := Gs'
  clear Gs'
  have BS' := Lib.hid (BS.out.step b7)
  clear BS
  have BS := BS'
  clear BS'
  have Q5' := Lib.hid (Q5.out.step b7)
  clear Q5
  have Q5 := Q5'
  clear Q5'
  have Y10' := Lib.hid (Y10.out.step b7)
  clear Y10
  have Y10 := Y10'
  clear Y10'
  have Q6' := Lib.hid (Q6.out.step b7)
  clear Q6
  have Q6 := Q6'
  clear Q6'
  have T7 := step T6 b7
  have Z7 := b7.size
  try rw [al_size] at r7 z7
  have Q7 := Lib.hid r7
  have zl7 := Nat.le_of_eq z7
  have zg7 := Nat.le_of_eq z7.symm
  clear r7 z7
  have h7a0 := Y10.out.cell 0
  have h7a1 := Y10.out.cell 1
  simp only [List.getElem?_toArray, List.getElem?_cons_zero, List.getElem?_cons_succ] at h7a0 h7a1
  have h7an := Y10.out.lt
  have h7b0 := Y11.out.cell 0
  have h7b1 := Y11.out.cell 1
  simp only [List.getElem?_toArray, List.getElem?_cons_zero, List.getElem?_cons_succ] at h7b0 h7b1
  have h7bn := Y11.out.lt
  go_wp2_with fail
  refine (CI.out _ _ _ _ _ _ _ _ _ (by first | exact Q5.out.ri | exact (Q5.out.step (below_drew _)).ri | exact (Q5.out.step (below_alloc _ _)).ri | exact (Q5.out.step (step (below_alloc _ _) (below_alloc _ _))).ri) (by first | exact Q5.out.rv | exact (Q5.out.step (below_drew _)).rv | exact (Q5.out.step (below_alloc _ _)).rv | exact (Q5.out.step (step (below_alloc _ _) (below_alloc _ _))).rv) (by first | exact Q6.out.ri | exact (Q6.out.step (below_drew _)).ri | exact (Q6.out.step (below_alloc _ _)).ri | exact (Q6.out.step (step (below_alloc _ _) (below_alloc _ _))).ri) (by first | exact Q7.out.ri | exact (Q7.out.step (below_drew _)).ri | exact (Q7.out.step (below_alloc _ _)).ri | exact (Q7.out.step (step (below_alloc _ _) (below_alloc _ _))).ri)).mono ?_
  rintro e u8 ⟨Xg, cXg, Yg, cYg, rfl, p8, d8⟩
  have Y12 := Lib.hid (Box.of_new d8)
  have b8 : Below u7.heap.size u7 u8 := by first | exact d8 | exact und d8 | exact undN d8 | exact below_new d8 | exact und (below_new d8) | exact below_new (und d8) | exact below_new (below_new d8) | exact step (below_drew _) (und (below_new d8))
  have I0' := Lib.hid (I0.out.step b8)
  clear I0
  have I0 := I0'
  clear I0'
  have F0' := Lib.hid (F0.out.step b8)
  clear F0
  have F0 := F0'
  clear F0'
  have J1' := Lib.hid (J1.out.step b8)
  clear J1
  have J1 := J1'
  clear J1'
  have J2' := Lib.hid (J2.out.step b8)
  clear J2
  have J2 := J2'
  clear J2'
  have XB' := Lib.hid (XB.out.step b8)
  clear XB
  have XB := XB'
  clear XB'
  have XA' := Lib.hid (XA.out.step b8)
  clear XA
  have XA := XA'
  clear XA'
  have XF' := Lib.hid (XF.out.step b8)
  clear XF
  have XF := XF'
  clear XF'
  have Gs' := Lib.hid (Gs.out.step b8)
  clear Gs
  have Gs := Gs'
  clear Gs'
  have BS' := Lib.hid (BS.out.step b8)
  clear BS
  have BS := BS'
  clear BS'
  have Q5' := Lib.hid (Q5.out.step b8)
  clear Q5
  have Q5 := Q5'
  clear Q5'
  have Y10' := Lib.hid (Y10.out.step b8)
  clear Y10
  have Y10 := Y10'
  clear Y10'
  have Q6' := Lib.hid (Q6.out.step b8)
  clear Q6
  have Q6 := Q6'
  clear Q6'
  have Y11' := Lib.hid (Y11.out.step b8)
  clear Y11
  have Y11 := Y11'
  clear Y11'
  have Q7' := Lib.hid (Q7.out.step b8)
  clear Q7
  have Q7 := Q7'
  clear Q7'
  have T8 := step T7 b8
  have Z8 := b8.size
  try rw [al_size] at p8
  have PG := Lib.hid p8
  clear p8
  have h8s0 := Gs.out.cell 0
  have h8s1 := Gs.out.cell 1
  simp only [List.getElem?_toArray, List.getElem?_cons_zero, List.getElem?_cons_succ] at h8s0 h8s1
  have h8sn := Gs.out.lt
  have dfl : (flag != flag) = false := by simp
  go_wp2_with fail
  refine (eqBinding_b _ _ _ _ _ _ _ _ res.1 res.2 hr1 hr2 _ (by first | exact PG.out.ri | exact (PG.out.step (below_drew _)).ri | exact (PG.out.step (below_alloc _ _)).ri | exact (PG.out.step (step (below_alloc _ _) (below_alloc _ _))).ri) (by first | exact PG.out.rv | exact (PG.out.step (below_drew _)).rv | exact (PG.out.step (below_alloc _ _)).rv | exact (PG.out.step (step (below_alloc _ _) (below_alloc _ _))).rv) (by first | exact BS.out.ri | exact (BS.out.step (below_drew _)).ri | exact (BS.out.step (below_alloc _ _)).ri | exact (BS.out.step (step (below_alloc _ _) (below_alloc _ _))).ri) (by first | exact BS.out.rv | exact (BS.out.step (below_drew _)).rv | exact (BS.out.step (below_alloc _ _)).rv | exact (BS.out.step (step (below_alloc _ _) (below_alloc _ _))).rv)).mono ?_
  rintro e u9 ⟨rfl, d9⟩
  have Y13 := Lib.hid (Box.of_new d9)
  have b9 : Below u8.heap.size u8 u9 := by first | exact d9 | exact und d9 | exact undN d9 | exact below_new d9 | exact und (below_new d9) | exact below_new (und d9) | exact below_new (below_new d9) | exact step (below_drew _) (und (below_new d9))
  have I0' := Lib.hid (I0.out.step b9)
  clear I0
  have I0 := I0'
  clear I0'
  have F0' := Lib.hid (F0.out.step b9)
  clear F0
  have F0 := F0'
  clear F0'
  have J1' := Lib.hid (J1.out.step b9)
  clear J1
  have J1 := J1'
  clear J1'
  have J2' := Lib.hid (J2.out.step b9)
  clear J2
  have J2 := J2'
  clear J2'
  have XB' := Lib.hid (XB.out.step b9)
  clear XB
  have XB := XB'
  clear XB'
  have XA' := Lib.hid (XA.out.step b9)
  clear XA
  have XA := XA'
  clear XA'
  have XF' := Lib.hid (XF.out.step b9)
  clear XF
  have XF := XF'
  clear XF'
  have Gs' := Lib.hid (Gs.out.step b9)
  clear Gs
  have Gs := Gs'
  clear Gs'
  have BS' := Lib.hid (BS.out.step b9)
  clear BS
  have BS := BS'
  clear BS'
  have Q5' := Lib.hid (Q5.out.step b9)
  clear Q5
  have Q5 := Q5'
  clear Q5'
  have Y10' := Lib.hid (Y10.out.step b9)
  clear Y10
  have Y10 := Y10'
  clear Y10'
  have Q6' := Lib.hid (Q6.out.step b9)
  clear Q6
  have Q6 := Q6'
  clear Q6'
  have Y11' := Lib.hid (Y11.out.step b9)
  clear Y11
  have Y11 := Y11'
  clear Y11'
  have Q7' := Lib.hid (Q7.out.step b9)
  clear Q7
  have Q7 := Q7'
  clear Q7'
  have Y12' := Lib.hid (Y12.out.step b9)
  clear Y12
  have Y12 := Y12'
  clear Y12'
  have PG' := Lib.hid (PG.out.step b9)
  clear PG
  have PG := PG'
  clear PG'
  have T9 := step T8 b9
  have Z9 := b9.size
  have q00 := Y10.out.cell 0
  have q01 := Y10.out.cell 1
  simp only [List.getElem?_toArray, List.getElem?_cons_zero, List.getElem?_cons_succ] at q00 q01
  have q0n := Y10.out.lt
  have q10 := XB.out.cell 0
  have q11 := XB.out.cell 1
  simp only [List.getElem?_toArray, List.getElem?_cons_zero, List.getElem?_cons_succ] at q10 q11
  have q1n := XB.out.lt
  have tok10 : True := trivial
  have tok11 : True := trivial
  go_wp2_with fail
  go_region_held3 (fun w' => w'.cell? ⟨u5.heap.size, 0, none⟩ = some (.slice (some ⟨u4.heap.size + 3, 0, none⟩) s0.length s0.length) ∧ w'.cell? ⟨u5.heap.size, 1, none⟩ = some (.slice (some ⟨u4.heap.size + 3 + 1, 0, none⟩) l0.length l0.length) ∧ w'.cell? ⟨w.heap.size, 0, none⟩ = some (.slice H0 s0.length x0) ∧ w'.cell? ⟨w.heap.size, 1, none⟩ = some (.slice A0 l0.length c0))
    (first
      | go_keep
      | (go_split_ands; refine ⟨?_, ?_, ?_, ?_⟩ <;> (rw [d10.cell (by (try simp) <;> omega)]; assumption))
      | (go_split_ands; refine ⟨?_, ?_, ?_, ?_⟩ <;> (rw [d11.cell (by (try simp) <;> omega)]; assumption)))
    (first
      | (go_at_call 8
         clear tok10
         refine (toBinding_r H0 A0 x0 c0 s0 l0 hs0 hl0 _ (by first | exact I0.out | exact I0.out.step (below_drew _) | exact I0.out.step (below_alloc _ _) | exact I0.out.step (step (below_alloc _ _) (below_alloc _ _))) (by first | exact F0.out | exact F0.out.step (below_drew _) | exact F0.out.step (below_alloc _ _) | exact F0.out.step (step (below_alloc _ _) (below_alloc _ _)))).mono ?_
         rintro e u10 ⟨rfl, r10, d10, z10⟩
         have b10 : Below u9.heap.size u9 u10 := by first | exact d10 | exact und d10 | exact undN d10 | exact below_new d10 | exact und (below_new d10) | exact below_new (und d10) | exact below_new (below_new d10) | exact step (below_drew _) (und (below_new d10))
         have I0' := Lib.hid (I0.out.step b10)
         clear I0
         have I0 := I0'
         clear I0'
         have F0' := Lib.hid (F0.out.step b10)
         clear F0
         have F0 := F0'
         clear F0'
         have J1' := Lib.hid (J1.out.step b10)
         clear J1
         have J1 := J1'
         clear J1'
         have J2' := Lib.hid (J2.out.step b10)
         clear J2
         have J2 := J2'
         clear J2'
         have XB' := Lib.hid (XB.out.step b10)
         clear XB
         have XB := XB'
         clear XB'
         have XA' := Lib.hid (XA.out.step b10)
         clear XA
         have XA := XA'
         clear XA'
         have XF' := Lib.hid (XF.out.step b10)
         clear XF
         have XF := XF'
         clear XF'
         have Gs' := Lib.hid (Gs.out.step b10)
         clear Gs
         have Gs := Gs'
         clear Gs'
         have BS' := Lib.hid (BS.out.step b10)
         clear BS
         have BS := BS'
         clear BS'
         have Q5' := Lib.hid (Q5.out.step b10)
         clear Q5
         have Q5 := Q5'
         clear Q5'
         have Y10' := Lib.hid (Y10.out.step b10)
         clear Y10
         have Y10 := Y10'
         clear Y10'
         have Q6' := Lib.hid (Q6.out.step b10)
         clear Q6
         have Q6 := Q6'
         clear Q6'
         have Y11' := Lib.hid (Y11.out.step b10)
         clear Y11
         have Y11 := Y11'
         clear Y11'
         have Q7' := Lib.hid (Q7.out.step b10)
         clear Q7
         have Q7 := Q7'
         clear Q7'
         have Y12' := Lib.hid (Y12.out.step b10)
         clear Y12
         have Y12 := Y12'
         clear Y12'
         have PG' := Lib.hid (PG.out.step b10)
         clear PG
         have PG := PG'
         clear PG'
         have Y13' := Lib.hid (Y13.out.step b10)
         clear Y13
         have Y13 := Y13'
         clear Y13'
         have T10 := step T9 b10
         have Z10 := b10.size
         try rw [al_size] at r10
         have Q10 := Lib.hid r10
         clear r10 z10)
      | (go_at_call 12
         clear tok11
         refine (eqBinding_b _ _ _ _ _ _ _ _ s0 l0 hs0 hl0 _ (by first | exact Q5.out.ri | exact (Q5.out.step (below_drew _)).ri | exact (Q5.out.step (below_alloc _ _)).ri | exact (Q5.out.step (step (below_alloc _ _) (below_alloc _ _))).ri) (by first | exact Q5.out.rv | exact (Q5.out.step (below_drew _)).rv | exact (Q5.out.step (below_alloc _ _)).rv | exact (Q5.out.step (step (below_alloc _ _) (below_alloc _ _))).rv) (by first | exact Q10.out.ri | exact (Q10.out.step (below_drew _)).ri | exact (Q10.out.step (below_alloc _ _)).ri | exact (Q10.out.step (step (below_alloc _ _) (below_alloc _ _))).ri) (by first | exact Q10.out.rv | exact (Q10.out.step (below_drew _)).rv | exact (Q10.out.step (below_alloc _ _)).rv | exact (Q10.out.step (step (below_alloc _ _) (below_alloc _ _))).rv)).mono ?_
         rintro e u11 ⟨rfl, d11⟩
         have b11 : Below u10.heap.size u10 u11 := by first | exact d11 | exact und d11 | exact undN d11 | exact below_new d11 | exact und (below_new d11) | exact below_new (und d11) | exact below_new (below_new d11) | exact step (below_drew _) (und (below_new d11))
         have I0' := Lib.hid (I0.out.step b11)
         clear I0
         have I0 := I0'
         clear I0'
         have F0' := Lib.hid (F0.out.step b11)
         clear F0
         have F0 := F0'
         clear F0'
         have J1' := Lib.hid (J1.out.step b11)
         clear J1
         have J1 := J1'
         clear J1'
         have J2' := Lib.hid (J2.out.step b11)
         clear J2
         have J2 := J2'
         clear J2'
         have XB' := Lib.hid (XB.out.step b11)
         clear XB
         have XB := XB'
         clear XB'
         have XA' := Lib.hid (XA.out.step b11)
         clear XA
         have XA := XA'
         clear XA'
         have XF' := Lib.hid (XF.out.step b11)
         clear XF
         have XF := XF'
         clear XF'
         have Gs' := Lib.hid (Gs.out.step b11)
         clear Gs
         have Gs := Gs'
         clear Gs'
         have BS' := Lib.hid (BS.out.step b11)
         clear BS
         have BS := BS'
         clear BS'
         have Q5' := Lib.hid (Q5.out.step b11)
         clear Q5
         have Q5 := Q5'
         clear Q5'
         have Y10' := Lib.hid (Y10.out.step b11)
         clear Y10
         have Y10 := Y10'
         clear Y10'
         have Q6' := Lib.hid (Q6.out.step b11)
         clear Q6
         have Q6 := Q6'
         clear Q6'
         have Y11' := Lib.hid (Y11.out.step b11)
         clear Y11
         have Y11 := Y11'
         clear Y11'
         have Q7' := Lib.hid (Q7.out.step b11)
         clear Q7
         have Q7 := Q7'
         clear Q7'
         have Y12' := Lib.hid (Y12.out.step b11)
         clear Y12
         have Y12 := Y12'
         clear Y12'
         have PG' := Lib.hid (PG.out.step b11)
         clear PG
         have PG := PG'
         clear PG'
         have Y13' := Lib.hid (Y13.out.step b11)
         clear Y13
         have Y13 := Y13'
         clear Y13'
         have Q10' := Lib.hid (Q10.out.step b11)
         clear Q10
         have Q10 := Q10'
         clear Q10'
         have T11 := step T10 b11
         have Z11 := b11.size))
  have q20 := Y11.out.cell 0
  have q21 := Y11.out.cell 1
  simp only [List.getElem?_toArray, List.getElem?_cons_zero, List.getElem?_cons_succ] at q20 q21
  have q2n := Y11.out.lt
  have q30 := XA.out.cell 0
  have q31 := XA.out.cell 1
  simp only [List.getElem?_toArray, List.getElem?_cons_zero, List.getElem?_cons_succ] at q30 q31
  have q3n := XA.out.lt
  have tok12 : True := trivial
  have tok13 : True := trivial
  go_wp2_with fail
  go_region_held3 (fun w' => w'.cell? ⟨u6.heap.size, 0, none⟩ = some (.int .i64 r1) ∧ w'.cell? ⟨u6.heap.size, 1, none⟩ = some (.slice (some ⟨u5.heap.size + 1 + 3, 0, none⟩) ts.length ts.length) ∧ w'.cell? ⟨w.heap.size + 1, 0, none⟩ = some (.int .i64 r1) ∧ w'.cell? ⟨w.heap.size + 1, 1, none⟩ = some (.slice A1 ts.length c1))
    (first
      | go_keep
      | (go_split_ands; refine ⟨?_, ?_, ?_, ?_⟩ <;> (rw [d12.cell (by (try simp) <;> omega)]; assumption))
      | (go_split_ands; refine ⟨?_, ?_, ?_, ?_⟩ <;> (rw [d13.cell (by (try simp) <;> omega)]; assumption)))
    (first
      | (go_at_call 9
         clear tok12
         refine (atom.toAtom_r r1 ts A1 c1 hts _ (by first | exact J1.out | exact J1.out.step (below_drew _) | exact J1.out.step (below_alloc _ _) | exact J1.out.step (step (below_alloc _ _) (below_alloc _ _)))).mono ?_
         rintro e u12 ⟨rfl, r12, d12, z12⟩
         have b12 : Below u11.heap.size u11 u12 := by first | exact d12 | exact und d12 | exact undN d12 | exact below_new d12 | exact und (below_new d12) | exact below_new (und d12) | exact below_new (below_new d12) | exact step (below_drew _) (und (below_new d12))
         have I0' := Lib.hid (I0.out.step b12)
         clear I0
         have I0 := I0'
         clear I0'
         have F0' := Lib.hid (F0.out.step b12)
         clear F0
         have F0 := F0'
         clear F0'
         have J1' := Lib.hid (J1.out.step b12)
         clear J1
         have J1 := J1'
         clear J1'
         have J2' := Lib.hid (J2.out.step b12)
         clear J2
         have J2 := J2'
         clear J2'
         have XB' := Lib.hid (XB.out.step b12)
         clear XB
         have XB := XB'
         clear XB'
         have XA' := Lib.hid (XA.out.step b12)
         clear XA
         have XA := XA'
         clear XA'
         have XF' := Lib.hid (XF.out.step b12)
         clear XF
         have XF := XF'
         clear XF'
         have Gs' := Lib.hid (Gs.out.step b12)
         clear Gs
         have Gs := Gs'
         clear Gs'
         have BS' := Lib.hid (BS.out.step b12)
         clear BS
         have BS := BS'
         clear BS'
         have Q5' := Lib.hid (Q5.out.step b12)
         clear Q5
         have Q5 := Q5'
         clear Q5'
         have Y10' := Lib.hid (Y10.out.step b12)
         clear Y10
         have Y10 := Y10'
         clear Y10'
         have Q6' := Lib.hid (Q6.out.step b12)
         clear Q6
         have Q6 := Q6'
         clear Q6'
         have Y11' := Lib.hid (Y11.out.step b12)
         clear Y11
         have Y11 := Y11'
         clear Y11'
         have Q7' := Lib.hid (Q7.out.step b12)
         clear Q7
         have Q7 := Q7'
         clear Q7'
         have Y12' := Lib.hid (Y12.out.step b12)
         clear Y12
         have Y12 := Y12'
         clear Y12'
         have PG' := Lib.hid (PG.out.step b12)
         clear PG
         have PG := PG'
         clear PG'
         have Y13' := Lib.hid (Y13.out.step b12)
         clear Y13
         have Y13 := Y13'
         clear Y13'
         have T12 := step T11 b12
         have Z12 := b12.size
         try rw [al_size] at r12
         have Q12 := Lib.hid r12
         clear r12 z12)
      | (go_at_call 13
         clear tok13
         refine (atom.eqAtom_r r1 ts _ _ _ _ hts _ (by first | exact Q6.out.ri | exact (Q6.out.step (below_drew _)).ri | exact (Q6.out.step (below_alloc _ _)).ri | exact (Q6.out.step (step (below_alloc _ _) (below_alloc _ _))).ri) (by first | exact Q12.out.ri | exact (Q12.out.step (below_drew _)).ri | exact (Q12.out.step (below_alloc _ _)).ri | exact (Q12.out.step (step (below_alloc _ _) (below_alloc _ _))).ri)).mono ?_
         rintro e u13 ⟨rfl, d13⟩
         have b13 : Below u12.heap.size u12 u13 := by first | exact d13 | exact und d13 | exact undN d13 | exact below_new d13 | exact und (below_new d13) | exact below_new (und d13) | exact below_new (below_new d13) | exact step (below_drew _) (und (below_new d13))
         have I0' := Lib.hid (I0.out.step b13)
         clear I0
         have I0 := I0'
         clear I0'
         have F0' := Lib.hid (F0.out.step b13)
         clear F0
         have F0 := F0'
         clear F0'
         have J1' := Lib.hid (J1.out.step b13)
         clear J1
         have J1 := J1'
         clear J1'
         have J2' := Lib.hid (J2.out.step b13)
         clear J2
         have J2 := J2'
         clear J2'
         have XB' := Lib.hid (XB.out.step b13)
         clear XB
         have XB := XB'
         clear XB'
         have XA' := Lib.hid (XA.out.step b13)
         clear XA
         have XA := XA'
         clear XA'
         have XF' := Lib.hid (XF.out.step b13)
         clear XF
         have XF := XF'
         clear XF'
         have Gs' := Lib.hid (Gs.out.step b13)
         clear Gs
         have Gs := Gs'
         clear Gs'
         have BS' := Lib.hid (BS.out.step b13)
         clear BS
         have BS := BS'
         clear BS'
         have Q5' := Lib.hid (Q5.out.step b13)
         clear Q5
         have Q5 := Q5'
         clear Q5'
         have Y10' := Lib.hid (Y10.out.step b13)
         clear Y10
         have Y10 := Y10'
         clear Y10'
         have Q6' := Lib.hid (Q6.out.step b13)
         clear Q6
         have Q6 := Q6'
         clear Q6'
         have Y11' := Lib.hid (Y11.out.step b13)
         clear Y11
         have Y11 := Y11'
         clear Y11'
         have Q7' := Lib.hid (Q7.out.step b13)
         clear Q7
         have Q7 := Q7'
         clear Q7'
         have Y12' := Lib.hid (Y12.out.step b13)
         clear Y12
         have Y12 := Y12'
         clear Y12'
         have PG' := Lib.hid (PG.out.step b13)
         clear PG
         have PG := PG'
         clear PG'
         have Y13' := Lib.hid (Y13.out.step b13)
         clear Y13
         have Y13 := Y13'
         clear Y13'
         have Q12' := Lib.hid (Q12.out.step b13)
         clear Q12
         have Q12 := Q12'
         clear Q12'
         have T13 := step T12 b13
         have Z13 := b13.size))
  have q40 := Y12.out.cell 0
  have q41 := Y12.out.cell 1
  simp only [List.getElem?_toArray, List.getElem?_cons_zero, List.getElem?_cons_succ] at q40 q41
  have q4n := Y12.out.lt
  have q50 := XF.out.cell 0
  have q51 := XF.out.cell 1
  simp only [List.getElem?_toArray, List.getElem?_cons_zero, List.getElem?_cons_succ] at q50 q51
  have q5n := XF.out.lt
  have tok14 : True := trivial
  have tok15 : True := trivial
  go_wp2_with fail
  go_region_held3 (fun w' => w'.cell? ⟨u7.heap.size, 0, none⟩ = some (.int .i64 r2) ∧ w'.cell? ⟨u7.heap.size, 1, none⟩ = some (.slice (some ⟨u6.heap.size + 1 + 3, 0, none⟩) vs.length vs.length) ∧ w'.cell? ⟨w.heap.size + 1 + 1, 0, none⟩ = some (.int .i64 r2) ∧ w'.cell? ⟨w.heap.size + 1 + 1, 1, none⟩ = some (.slice A2 vs.length c2))
    (first
      | go_keep
      | (go_split_ands; refine ⟨?_, ?_, ?_, ?_⟩ <;> (rw [d14.cell (by (try simp) <;> omega)]; assumption))
      | (go_split_ands; refine ⟨?_, ?_, ?_, ?_⟩ <;> (rw [d15.cell (by (try simp) <;> omega)]; assumption)))
    (first
      | (go_at_call 10
         clear tok14
         refine (toFact_r r2 vs A2 c2 hvs _ (by first | exact J2.out | exact J2.out.step (below_drew _) | exact J2.out.step (below_alloc _ _) | exact J2.out.step (step (below_alloc _ _) (below_alloc _ _)))).mono ?_
         rintro e u14 ⟨rfl, r14, d14, z14⟩
         have b14 : Below u13.heap.size u13 u14 := by first | exact d14 | exact und d14 | exact undN d14 | exact below_new d14 | exact und (below_new d14) | exact below_new (und d14) | exact below_new (below_new d14) | exact step (below_drew _) (und (below_new d14))
         have I0' := Lib.hid (I0.out.step b14)
         clear I0
         have I0 := I0'
         clear I0'
         have F0' := Lib.hid (F0.out.step b14)
         clear F0
         have F0 := F0'
         clear F0'
         have J1' := Lib.hid (J1.out.step b14)
         clear J1
         have J1 := J1'
         clear J1'
         have J2' := Lib.hid (J2.out.step b14)
         clear J2
         have J2 := J2'
         clear J2'
         have XB' := Lib.hid (XB.out.step b14)
         clear XB
         have XB := XB'
         clear XB'
         have XA' := Lib.hid (XA.out.step b14)
         clear XA
         have XA := XA'
         clear XA'
         have XF' := Lib.hid (XF.out.step b14)
         clear XF
         have XF := XF'
         clear XF'
         have Gs' := Lib.hid (Gs.out.step b14)
         clear Gs
         have Gs := Gs'
         clear Gs'
         have BS' := Lib.hid (BS.out.step b14)
         clear BS
         have BS := BS'
         clear BS'
         have Q5' := Lib.hid (Q5.out.step b14)
         clear Q5
         have Q5 := Q5'
         clear Q5'
         have Y10' := Lib.hid (Y10.out.step b14)
         clear Y10
         have Y10 := Y10'
         clear Y10'
         have Q6' := Lib.hid (Q6.out.step b14)
         clear Q6
         have Q6 := Q6'
         clear Q6'
         have Y11' := Lib.hid (Y11.out.step b14)
         clear Y11
         have Y11 := Y11'
         clear Y11'
         have Q7' := Lib.hid (Q7.out.step b14)
         clear Q7
         have Q7 := Q7'
         clear Q7'
         have Y12' := Lib.hid (Y12.out.step b14)
         clear Y12
         have Y12 := Y12'
         clear Y12'
         have PG' := Lib.hid (PG.out.step b14)
         clear PG
         have PG := PG'
         clear PG'
         have Y13' := Lib.hid (Y13.out.step b14)
         clear Y13
         have Y13 := Y13'
         clear Y13'
         have T14 := step T13 b14
         have Z14 := b14.size
         try rw [al_size] at r14
         have Q14 := Lib.hid r14
         clear r14 z14)
      | (go_at_call 14
         clear tok15
         refine (eqFact_r r2 vs _ _ _ _ hvs _ (by first | exact Q7.out.ri | exact (Q7.out.step (below_drew _)).ri | exact (Q7.out.step (below_alloc _ _)).ri | exact (Q7.out.step (step (below_alloc _ _) (below_alloc _ _))).ri) (by first | exact Q14.out.ri | exact (Q14.out.step (below_drew _)).ri | exact (Q14.out.step (below_alloc _ _)).ri | exact (Q14.out.step (step (below_alloc _ _) (below_alloc _ _))).ri)).mono ?_
         rintro e u15 ⟨rfl, d15⟩
         have b15 : Below u14.heap.size u14 u15 := by first | exact d15 | exact und d15 | exact undN d15 | exact below_new d15 | exact und (below_new d15) | exact below_new (und d15) | exact below_new (below_new d15) | exact step (below_drew _) (und (below_new d15))
         have I0' := Lib.hid (I0.out.step b15)
         clear I0
         have I0 := I0'
         clear I0'
         have F0' := Lib.hid (F0.out.step b15)
         clear F0
         have F0 := F0'
         clear F0'
         have J1' := Lib.hid (J1.out.step b15)
         clear J1
         have J1 := J1'
         clear J1'
         have J2' := Lib.hid (J2.out.step b15)
         clear J2
         have J2 := J2'
         clear J2'
         have XB' := Lib.hid (XB.out.step b15)
         clear XB
         have XB := XB'
         clear XB'
         have XA' := Lib.hid (XA.out.step b15)
         clear XA
         have XA := XA'
         clear XA'
         have XF' := Lib.hid (XF.out.step b15)
         clear XF
         have XF := XF'
         clear XF'
         have Gs' := Lib.hid (Gs.out.step b15)
         clear Gs
         have Gs := Gs'
         clear Gs'
         have BS' := Lib.hid (BS.out.step b15)
         clear BS
         have BS := BS'
         clear BS'
         have Q5' := Lib.hid (Q5.out.step b15)
         clear Q5
         have Q5 := Q5'
         clear Q5'
         have Y10' := Lib.hid (Y10.out.step b15)
         clear Y10
         have Y10 := Y10'
         clear Y10'
         have Q6' := Lib.hid (Q6.out.step b15)
         clear Q6
         have Q6 := Q6'
         clear Q6'
         have Y11' := Lib.hid (Y11.out.step b15)
         clear Y11
         have Y11 := Y11'
         clear Y11'
         have Q7' := Lib.hid (Q7.out.step b15)
         clear Q7
         have Q7 := Q7'
         clear Q7'
         have Y12' := Lib.hid (Y12.out.step b15)
         clear Y12
         have Y12 := Y12'
         clear Y12'
         have PG' := Lib.hid (PG.out.step b15)
         clear PG
         have PG := PG'
         clear PG'
         have Y13' := Lib.hid (Y13.out.step b15)
         clear Y13
         have Y13 := Y13'
         clear Y13'
         have Q14' := Lib.hid (Q14.out.step b15)
         clear Q14
         have Q14 := Q14'
         clear Q14'
         have T15 := step T14 b15
         have Z15 := b15.size))
  have q60 := Y10.out.cell 0
  have q61 := Y10.out.cell 1
  simp only [List.getElem?_toArray, List.getElem?_cons_zero, List.getElem?_cons_succ] at q60 q61
  have q6n := Y10.out.lt
  have q70 := Y11.out.cell 0
  have q71 := Y11.out.cell 1
  simp only [List.getElem?_toArray, List.getElem?_cons_zero, List.getElem?_cons_succ] at q70 q71
  have q7n := Y11.out.lt
  have q80 := Y12.out.cell 0
  have q81 := Y12.out.cell 1
  simp only [List.getElem?_toArray, List.getElem?_cons_zero, List.getElem?_cons_succ] at q80 q81
  have q8n := Y12.out.lt
  have w3u : w3.heap.size ≤ u4.heap.size := T4.size
  clear I0 F0 J1 J2 XB XA XF
  go_wp2_with fail
  refine (markBinding_o (u4.heap.size + 3) (u4.heap.size + 3 + 2) s0.length l0.length _ _ (s0, l0) 1 hs0 hl0 (by omega) (by omega) u15 (Q5.out.br hs0 hl0)).mono ?_
  rintro e v1 ⟨rfl, W1, _⟩
  clear Q5
  have Gs' := Lib.hid (Gs.out.turnB W1 (by omega))
  clear Gs
  have Gs := Gs'
  clear Gs'
  have Y10' := Lib.hid (Y10.out.turnB W1 (by omega))
  clear Y10
  have Y10 := Y10'
  clear Y10'
  have Y11' := Lib.hid (Y11.out.turnB W1 (by omega))
  clear Y11
  have Y11 := Y11'
  clear Y11'
  have Y12' := Lib.hid (Y12.out.turnB W1 (by omega))
  clear Y12
  have Y12 := Y12'
  clear Y12'
  have Y13' := Lib.hid (Y13.out.turnB W1 (by omega))
  clear Y13
  have Y13 := Y13'
  clear Y13'
  have Q6' := Lib.hid (Q6.out.turnB W1 (by omega))
  clear Q6
  have Q6 := Q6'
  clear Q6'
  have Q7' := Lib.hid (Q7.out.turnB W1 (by omega))
  clear Q7
  have Q7 := Q7'
  clear Q7'
  have PG' := Lib.hid (PG.out.turnB W1 (by omega))
  clear PG
  have PG := PG'
  clear PG'
  have BS' := Lib.hid (BS.out.turnB W1 (by omega))
  clear BS
  have BS := BS'
  clear BS'
  have TA := Lib.hid (T15.trans (W1.below.mono (by omega)))
  have sv1 := W1.size
  clear W1
  dsimp only
  have hK1 : 0 ≤ 1 + (s0.length : Int) + (l0.length : Int) := by omega
  have hK1' : 1 + (s0.length : Int) + (l0.length : Int) ≤ 4194304 := by omega
  have q90 := Y11.out.cell 0
  have q91 := Y11.out.cell 1
  simp only [List.getElem?_toArray, List.getElem?_cons_zero, List.getElem?_cons_succ] at q90 q91
  have q9n := Y11.out.lt
  go_wp2_with fail
  refine (atom.markAtom_any 0 (u5.heap.size + 1 + 3) ts.length ts.length ts.length r1 (1 + (s0.length : Int) + (l0.length : Int)) _ (fun i => .int .i64 (ts.getD i 0)) v1 hts hK1 hK1' (fun _ => rfl) (Nat.le_refl _) (World.rowIs.lt Q6.out) (fun _ => Q6.out)).mono ?_
  rintro e v2 ⟨rfl, hne, hbw⟩
  have W2 := TurnB.of_ne hne hbw
  clear Q6 hne hbw
  have Gs' := Lib.hid (Gs.out.turnB W2 (by omega))
  clear Gs
  have Gs := Gs'
  clear Gs'
  have Y10' := Lib.hid (Y10.out.turnB W2 (by omega))
  clear Y10
  have Y10 := Y10'
  clear Y10'
  have Y11' := Lib.hid (Y11.out.turnB W2 (by omega))
  clear Y11
  have Y11 := Y11'
  clear Y11'
  have Y12' := Lib.hid (Y12.out.turnB W2 (by omega))
  clear Y12
  have Y12 := Y12'
  clear Y12'
  have Y13' := Lib.hid (Y13.out.turnB W2 (by omega))
  clear Y13
  have Y13 := Y13'
  clear Y13'
  have Q7' := Lib.hid (Q7.out.turnB W2 (by omega))
  clear Q7
  have Q7 := Q7'
  clear Q7'
  have PG' := Lib.hid (PG.out.turnB W2 (by omega))
  clear PG
  have PG := PG'
  clear PG'
  have BS' := Lib.hid (BS.out.turnB W2 (by omega))
  clear BS
  have BS := BS'
  clear BS'
  have TB := Lib.hid (TA.out.trans (W2.below.mono (by omega)))
  have sv2 := W2.size
  clear W2 TA
  have hK2 : 0 ≤ 1 + (s0.length : Int) + (l0.length : Int) + (ts.length : Int) := by omega
  have hK2' : 1 + (s0.length : Int) + (l0.length : Int) + (ts.length : Int) ≤ 4194304 := by omega
  have p10 := Y12.out.cell 0
  have p11 := Y12.out.cell 1
  simp only [List.getElem?_toArray, List.getElem?_cons_zero, List.getElem?_cons_succ] at p10 p11
  have p1n := Y12.out.lt
  go_wp2_with fail
  refine (markFact_any 0 (u6.heap.size + 1 + 3) vs.length vs.length vs.length r2 (1 + (s0.length : Int) + (l0.length : Int) + (ts.length : Int)) _ (fun i => .int .i64 (vs.getD i 0)) v2 hvs hK2 hK2' (fun _ => rfl) (Nat.le_refl _) (World.rowIs.lt Q7.out) (fun _ => Q7.out)).mono ?_
  rintro e v3 ⟨rfl, hne, hbw⟩
  have W3 := TurnB.of_ne hne hbw
  clear Q7 hne hbw Y10 Y11 Y12
  have Gs' := Lib.hid (Gs.out.turnB W3 (by omega))
  clear Gs
  have Gs := Gs'
  clear Gs'
  have Y13' := Lib.hid (Y13.out.turnB W3 (by omega))
  clear Y13
  have Y13 := Y13'
  clear Y13'
  have PG' := Lib.hid (PG.out.turnB W3 (by omega))
  clear PG
  have PG := PG'
  clear PG'
  have BS' := Lib.hid (BS.out.turnB W3 (by omega))
  clear BS
  have BS := BS'
  clear BS'
  have TC := Lib.hid (TB.out.trans (W3.below.mono (by omega)))
  have sv3 := W3.size
  clear W3 TB
  have hK3 : 0 ≤ 1 + (s0.length : Int) + (l0.length : Int) + (ts.length : Int) + (vs.length : Int) := by omega
  have hK3' : ¬ (1 + (s0.length : Int) + (l0.length : Int) + (ts.length : Int) + (vs.length : Int) < 0) := by omega
  have p20 := Y13.out.cell 0
  have p21 := Y13.out.cell 1
  simp only [List.getElem?_toArray, List.getElem?_cons_zero, List.getElem?_cons_succ] at p20 p21
  have p2n := Y13.out.lt
  have p30 := Gs.out.cell 0
  have p31 := Gs.out.cell 1
  simp only [List.getElem?_toArray, List.getElem?_cons_zero, List.getElem?_cons_succ] at p30 p31
  have p3n := Gs.out.lt
  go_wp2_with fail
  refine (eqBinding_b _ _ _ _ _ _ _ _ res.1 res.2 hr1 hr2 _ PG.out.ri PG.out.rv BS.out.ri BS.out.rv).mono ?_
  rintro e v4 ⟨rfl, D4⟩
  have PG4 := Lib.hid (PG.out.step D4)
  have BS4 := Lib.hid (BS.out.step D4)
  have Gs4 := Lib.hid (Gs.out.step D4)
  have Y134 := Lib.hid (Y13.out.step D4)
  have TD := Lib.hid (step TC.out D4)
  have sv4 := D4.size
  clear PG BS Gs Y13 TC D4
  have p40 := Y134.out.cell 0
  have p41 := Y134.out.cell 1
  simp only [List.getElem?_toArray, List.getElem?_cons_zero, List.getElem?_cons_succ] at p40 p41
  have p4n := Y134.out.lt
  go_wp2_with fail
  refine (markBinding_o (u7.heap.size + 1) u8.heap.size cXg cYg Xg Yg res 1 hr1 hr2 (by omega) (by omega) v4 PG4.out).mono ?_
  rintro e v5 ⟨rfl, W5, hM⟩
  clear PG4
  have BM5 := Lib.hid hM
  have Gs4' := Lib.hid (Gs4.out.turnB W5 (by omega))
  clear Gs4
  have Gs4 := Gs4'
  clear Gs4'
  have Y134' := Lib.hid (Y134.out.turnB W5 (by omega))
  clear Y134
  have Y134 := Y134'
  clear Y134'
  have BS4' := Lib.hid (BS4.out.turnB W5 (by omega))
  clear BS4
  have BS4 := BS4'
  clear BS4'
  have TE := Lib.hid (TD.out.trans (W5.below.mono (by omega)))
  have sv5 := W5.size
  clear W5 hM TD
  have hM1 : ¬ (1 + (res.1.length : Int) + (res.2.length : Int) < 0) := by omega
  have p50 := Y134.out.cell 0
  have p51 := Y134.out.cell 1
  simp only [List.getElem?_toArray, List.getElem?_cons_zero, List.getElem?_cons_succ] at p50 p51
  have p5n := Y134.out.lt
  go_wp2_with fail
  refine (heldBinding_o (u7.heap.size + 1) u8.heap.size cXg cYg Xg Yg res 1 hr1 hr2 (by omega) (by omega) v5 BM5.out).mono ?_
  rintro e v6 ⟨rfl, D6⟩
  have BM6 := Lib.hid (BM5.out.step D6)
  have BS6 := Lib.hid (BS4.out.step D6)
  have Gs6 := Lib.hid (Gs4.out.step D6)
  have Y136 := Lib.hid (Y134.out.step D6)
  have TF6 := step TE.out D6
  have sv6 := D6.size
  clear BM5 BS4 Gs4 Y134 TE D6
  have I0v := Lib.hid (I0w.out.step TF6)
  have F0v := Lib.hid (F0w.out.step TF6)
  have J1v := Lib.hid (J1w.out.step TF6)
  have J2v := Lib.hid (J2w.out.step TF6)
  have XBv := Lib.hid (XBw.out.step TF6)
  have XAv := Lib.hid (XAw.out.step TF6)
  have XFv := Lib.hid (XFw.out.step TF6)
  have CJ := Lib.hid fun (A B T V : Option Addr) (c d tc vc : Nat) (w : World) (a : RI w A s0) (b : RI w B l0) (e : RI w T ts) (f : RI w V vs) => (show Calls Try.prog 11 #[.agg #[.slice A s0.length c, .slice B l0.length d], .agg #[.int .i64 r1, .slice T ts.length tc], .agg #[.int .i64 r2, .slice V vs.length vc]] w fun e w' => ∃ X c Y d, e = .returned (.tuple #[.agg #[.slice X res.1.length c, .slice Y res.2.length d], .bool flag]) ∧ BI w' X Y res ∧ Below w.heap.size w w' from (CI.out A B T V c d tc vc w a b e f).mono (fun e w' ⟨X, c, Y, d, he, hp, hb⟩ => ⟨X, c, Y, d, he, ⟨hp.ri, hp.rv⟩, hb⟩))
  go_wp2_with fail
  refine wp_region_inv rfl (by kernel_rfl) (fun listed a u => ∃ T : Nat → Value, a = (⟨#[Value.agg #[Value.slice H0 s0.length x0, Value.slice A0 l0.length c0], Value.agg #[Value.int IntKind.i64 r1, Value.slice A1 ts.length c1], Value.agg #[Value.int IntKind.i64 r2, Value.slice A2 vs.length c2], Value.pointer (some { block := w.heap.size, off := 0 }), Value.pointer (some { block := w.heap.size + 1, off := 0 }), Value.pointer (some { block := w.heap.size + 1 + 1, off := 0 }), Value.bool false, Value.int IntKind.i64 (zb - ↑ts.length - ↑vs.length), Value.pointer (some { block := gbs, off := 0 }), Value.bool flag, Value.pointer (some { block := u5.heap.size, off := 0 }), Value.pointer (some { block := u6.heap.size, off := 0 }), Value.pointer (some { block := u7.heap.size, off := 0 }), Value.pointer (some { block := u8.heap.size, off := 0 }), Value.bool flag, Value.int IntKind.i64 (1 + ↑s0.length + ↑l0.length + ↑ts.length + ↑vs.length), Value.int IntKind.i64 (1 + ↑res.fst.length + ↑res.snd.length), Value.int IntKind.i64 (1 + ↑res.fst.length + ↑res.snd.length), T 10, T 12, Value.agg #[Value.slice H0 s0.length x0, Value.slice A0 l0.length c0], Value.int IntKind.i64 1048576, Value.int IntKind.i64 zb, Value.int IntKind.i64 zb, Value.bool (decide (zb < 0)), Value.agg #[Value.int IntKind.i64 r1, Value.slice A1 ts.length c1], Value.int IntKind.i64 zb, Value.int IntKind.i64 (zb - ↑ts.length), Value.int IntKind.i64 (zb - ↑ts.length), Value.bool (decide (zb - ↑ts.length < 0)), Value.agg #[Value.int IntKind.i64 r2, Value.slice A2 vs.length c2], Value.int IntKind.i64 (zb - ↑ts.length), Value.int IntKind.i64 (zb - ↑ts.length - ↑vs.length), Value.int IntKind.i64 (zb - ↑ts.length - ↑vs.length), Value.bool (decide (zb - ↑ts.length - ↑vs.length < 0)), TT 7, TT 0, TT 1, TT 2, TT 3, TT 4, TT 5, TT 6, TT 8, TT 9, Value.agg #[Value.slice H0 s0.length x0, Value.slice A0 l0.length c0], Value.agg #[Value.slice (some { block := u4.heap.size + 3, off := 0 }) s0.length s0.length, Value.slice (some { block := u4.heap.size + 3 + 1, off := 0 }) l0.length l0.length], Value.agg #[Value.int IntKind.i64 r1, Value.slice A1 ts.length c1], Value.agg #[Value.int IntKind.i64 r1, Value.slice (some { block := u5.heap.size + 1 + 3, off := 0 }) ts.length ts.length], Value.agg #[Value.int IntKind.i64 r2, Value.slice A2 vs.length c2], Value.agg #[Value.int IntKind.i64 r2, Value.slice (some { block := u6.heap.size + 1 + 3, off := 0 }) vs.length vs.length], Value.tuple #[Value.agg #[Value.slice Xg res.fst.length cXg, Value.slice Yg res.snd.length cYg], Value.bool flag], Value.agg #[Value.slice (some { block := u4.heap.size + 3, off := 0 }) s0.length s0.length, Value.slice (some { block := u4.heap.size + 3 + 1, off := 0 }) l0.length l0.length], Value.agg #[Value.int IntKind.i64 r1, Value.slice (some { block := u5.heap.size + 1 + 3, off := 0 }) ts.length ts.length], Value.agg #[Value.int IntKind.i64 r2, Value.slice (some { block := u6.heap.size + 1 + 3, off := 0 }) vs.length vs.length], Value.tuple #[Value.agg #[Value.slice Xg res.fst.length cXg, Value.slice Yg res.snd.length cYg], Value.bool flag], Value.agg #[Value.slice Xg res.fst.length cXg, Value.slice Yg res.snd.length cYg], Value.bool flag, Value.agg #[Value.slice Xg res.fst.length cXg, Value.slice Yg res.snd.length cYg], Value.agg #[Value.slice Xs res.fst.length cXs, Value.slice Ys res.snd.length cYs], Value.bool true, Value.bool false, Value.bool false, Value.bool flag, Value.bool flag, Value.bool false, Value.bool false, Value.agg #[Value.slice (some { block := u4.heap.size + 3, off := 0 }) s0.length s0.length, Value.slice (some { block := u4.heap.size + 3 + 1, off := 0 }) l0.length l0.length], Value.agg #[Value.slice H0 s0.length x0, Value.slice A0 l0.length c0], Value.agg #[Value.slice (some { block := u9.heap.size + 3, off := 0 }) s0.length s0.length, Value.slice (some { block := u9.heap.size + 3 + 1, off := 0 }) l0.length l0.length], Value.bool true, Value.bool false, Value.agg #[Value.int IntKind.i64 r1, Value.slice (some { block := u5.heap.size + 1 + 3, off := 0 }) ts.length ts.length], Value.agg #[Value.int IntKind.i64 r1, Value.slice A1 ts.length c1], Value.agg #[Value.int IntKind.i64 r1, Value.slice (some { block := u11.heap.size + 3, off := 0 }) ts.length ts.length], Value.bool true, Value.bool false, Value.agg #[Value.int IntKind.i64 r2, Value.slice (some { block := u6.heap.size + 1 + 3, off := 0 }) vs.length vs.length], Value.agg #[Value.int IntKind.i64 r2, Value.slice A2 vs.length c2], Value.agg #[Value.int IntKind.i64 r2, Value.slice (some { block := u13.heap.size + 3, off := 0 }) vs.length vs.length], Value.bool true, Value.bool false, Value.agg #[Value.slice (some { block := u4.heap.size + 3, off := 0 }) s0.length s0.length, Value.slice (some { block := u4.heap.size + 3 + 1, off := 0 }) l0.length l0.length], Value.int IntKind.i64 1, Value.int IntKind.i64 (1 + ↑s0.length + ↑l0.length), Value.agg #[Value.int IntKind.i64 r1, Value.slice (some { block := u5.heap.size + 1 + 3, off := 0 }) ts.length ts.length], Value.int IntKind.i64 (1 + ↑s0.length + ↑l0.length), Value.int IntKind.i64 (1 + ↑s0.length + ↑l0.length + ↑ts.length), Value.agg #[Value.int IntKind.i64 r2, Value.slice (some { block := u6.heap.size + 1 + 3, off := 0 }) vs.length vs.length], Value.int IntKind.i64 (1 + ↑s0.length + ↑l0.length + ↑ts.length), Value.int IntKind.i64 (1 + ↑s0.length + ↑l0.length + ↑ts.length + ↑vs.length), Value.int IntKind.i64 (1 + ↑s0.length + ↑l0.length + ↑ts.length + ↑vs.length), Value.bool (decide (1 + ↑s0.length + ↑l0.length + ↑ts.length + ↑vs.length < 0)), Value.bool (decide (1 + ↑s0.length + ↑l0.length + ↑ts.length + ↑vs.length < 0)), Value.agg #[Value.slice Xg res.fst.length cXg, Value.slice Yg res.snd.length cYg], Value.agg #[Value.slice Xs res.fst.length cXs, Value.slice Ys res.snd.length cYs], Value.bool true, Value.bool false, Value.bool (decide (1 + ↑s0.length + ↑l0.length + ↑ts.length + ↑vs.length < 0)), Value.bool (decide (1 + ↑s0.length + ↑l0.length + ↑ts.length + ↑vs.length < 0)), Value.bool flag, Value.bool flag, Value.bool false, Value.bool (decide (1 + ↑s0.length + ↑l0.length + ↑ts.length + ↑vs.length < 0)), Value.agg #[Value.slice Xg res.fst.length cXg, Value.slice Yg res.snd.length cYg], Value.int IntKind.i64 1, Value.int IntKind.i64 (1 + ↑res.fst.length + ↑res.snd.length), Value.agg #[Value.slice Xg res.fst.length cXg, Value.slice Yg res.snd.length cYg], Value.int IntKind.i64 1, Value.int IntKind.i64 (1 + ↑res.fst.length + ↑res.snd.length), Value.int IntKind.i64 (1 + ↑res.fst.length + ↑res.snd.length), Value.bool (decide (1 + ↑res.fst.length + ↑res.snd.length < 0)), Value.int IntKind.i64 (1 + ↑res.fst.length + ↑res.snd.length), Value.int IntKind.i64 (1 + ↑res.fst.length + ↑res.snd.length), Value.bool false, T 7, T 0, T 1, T 2, T 3, T 4, T 5, T 6, T 8, T 9, undef, undef, undef, undef, undef, undef, undef, undef, undef, undef, undef, undef, undef, undef, undef, undef, undef], []⟩ : Act) ∧ MRI res flag s0 l0 ts vs r1 r2 (.agg #[.slice H0 s0.length x0, .slice A0 l0.length c0]) (.agg #[.int .i64 r1, .slice A1 ts.length c1]) (.agg #[.int .i64 r2, .slice A2 vs.length c2]) v6 listed T u) ?_ ?_ ?_
  · exact ⟨fun _ => undef, rfl, MRI.start⟩
  · rintro listed a u i hi hz hc ⟨T, rfl, hM⟩
    have hlt : i < 13 := ready_lt hi
    have hs : i < listed.size := by rw [hz]; exact ready_lt hi
    have hn := ready_new hi hz
    have hbu := hM.below
    obtain rfl | rfl | rfl | rfl | rfl | rfl | rfl | rfl | rfl | rfl | rfl | rfl | rfl : i = 0 ∨ i = 1 ∨ i = 2 ∨ i = 3 ∨ i = 4 ∨ i = 5 ∨ i = 6 ∨ i = 7 ∨ i = 8 ∨ i = 9 ∨ i = 10 ∨ i = 11 ∨ i = 12 := by omega
    · refine wpOp_plain rfl rfl (fun K' hK => ?_)
      have q0 := (XBv.out.step hbu).cell 0
      have q1 := (XBv.out.step hbu).cell 1
      simp only [List.getElem?_toArray, List.getElem?_cons_zero, List.getElem?_cons_succ] at q0 q1
      go_simp
      exact hK _ _ ⟨upd T 0 (.agg #[.slice H0 s0.length x0, .slice A0 l0.length c0]), rfl, hM.quiet hs (by decide) (by rintro x ⟨⟩; rfl)⟩
    · refine wpOp_plain rfl rfl (fun K' hK => ?_)
      have e0 := hM.fv 0 _ rfl (ready_dep hi (j := 0) (by kernel_rfl))
      rw [e0]
      go_simp
      go_at_call 8
      refine (toBinding_r H0 A0 x0 c0 s0 l0 hs0 hl0 u (I0v.out.step hbu) (F0v.out.step hbu)).mono ?_
      rintro e u2 ⟨rfl, rr, dd, _⟩
      exact hK _ _ ⟨upd T 1 (.agg #[.slice (some ⟨u.heap.size + 3, 0, none⟩) s0.length s0.length, .slice (some ⟨u.heap.size + 3 + 1, 0, none⟩) l0.length l0.length]), by simp [upd, e0], hM.fresh hs dd (by rintro x ⟨⟩) (fun _ => ⟨_, _, _, _, rfl, rr.ri, rr.rv⟩) (fun e => absurd e (by decide)) (fun e => absurd e (by decide)) (fun e => absurd e (by decide)) (fun e => absurd e (by decide)) (fun e => absurd e (by decide)) (fun e => absurd e (by decide)) (by decide)⟩
    · refine wpOp_plain rfl rfl (fun K' hK => ?_)
      have q0 := (XAv.out.step hbu).cell 0
      have q1 := (XAv.out.step hbu).cell 1
      simp only [List.getElem?_toArray, List.getElem?_cons_zero, List.getElem?_cons_succ] at q0 q1
      go_simp
      exact hK _ _ ⟨upd T 2 (.agg #[.int .i64 r1, .slice A1 ts.length c1]), rfl, hM.quiet hs (by decide) (by rintro x ⟨⟩; rfl)⟩
    · refine wpOp_plain rfl rfl (fun K' hK => ?_)
      have e0 := hM.fv 2 _ rfl (ready_dep hi (j := 2) (by kernel_rfl))
      rw [e0]
      go_simp
      go_at_call 9
      refine (atom.toAtom_r r1 ts A1 c1 hts u (J1v.out.step hbu)).mono ?_
      rintro e u2 ⟨rfl, rr, dd, _⟩
      exact hK _ _ ⟨upd T 3 (.agg #[.int .i64 r1, .slice (some ⟨u.heap.size + 3, 0, none⟩) ts.length ts.length]), by simp [upd, e0], hM.fresh hs dd (by rintro x ⟨⟩) (fun e => absurd e (by decide)) (fun _ => ⟨_, _, rfl, rr.ri⟩) (fun e => absurd e (by decide)) (fun e => absurd e (by decide)) (fun e => absurd e (by decide)) (fun e => absurd e (by decide)) (fun e => absurd e (by decide)) (by decide)⟩
    · refine wpOp_plain rfl rfl (fun K' hK => ?_)
      have q0 := (XFv.out.step hbu).cell 0
      have q1 := (XFv.out.step hbu).cell 1
      simp only [List.getElem?_toArray, List.getElem?_cons_zero, List.getElem?_cons_succ] at q0 q1
      go_simp
      exact hK _ _ ⟨upd T 4 (.agg #[.int .i64 r2, .slice A2 vs.length c2]), rfl, hM.quiet hs (by decide) (by rintro x ⟨⟩; rfl)⟩
    · refine wpOp_plain rfl rfl (fun K' hK => ?_)
      have e0 := hM.fv 4 _ rfl (ready_dep hi (j := 4) (by kernel_rfl))
      rw [e0]
      go_simp
      go_at_call 10
      refine (toFact_r r2 vs A2 c2 hvs u (J2v.out.step hbu)).mono ?_
      rintro e u2 ⟨rfl, rr, dd, _⟩
      exact hK _ _ ⟨upd T 5 (.agg #[.int .i64 r2, .slice (some ⟨u.heap.size + 3, 0, none⟩) vs.length vs.length]), by simp [upd, e0], hM.fresh hs dd (by rintro x ⟨⟩) (fun e => absurd e (by decide)) (fun e => absurd e (by decide)) (fun _ => ⟨_, _, rfl, rr.ri⟩) (fun e => absurd e (by decide)) (fun e => absurd e (by decide)) (fun e => absurd e (by decide)) (fun e => absurd e (by decide)) (by decide)⟩
    · refine wpOp_plain rfl rfl (fun K' hK => ?_)
      obtain ⟨X1, k1, Y1, k2, e1, i1, i2⟩ := hM.p1 hn (ready_dep hi (j := 1) (by kernel_rfl))
      obtain ⟨X3, k3, e3, i3⟩ := hM.p3 hn (ready_dep hi (j := 3) (by kernel_rfl))
      obtain ⟨X5, k5, e5, i5⟩ := hM.p5 hn (ready_dep hi (j := 5) (by kernel_rfl))
      have n7 := not_yet hc hn 0 7 (by kernel_rfl)
      have n8 := not_yet hc hn 1 8 (by kernel_rfl)
      rw [e1, e3, e5]
      go_simp
      go_at_call 11
      refine (CJ.out X1 Y1 X3 X5 k1 k2 k3 k5 u i1 i2 i3 i5).mono ?_
      rintro e u2 ⟨X, cX, Y, cY, rfl, hbi, dd⟩
      exact hK _ _ ⟨upd T 6 (.tuple #[.agg #[.slice X res.1.length cX, .slice Y res.2.length cY], .bool flag]), by simp [upd, e1, e3, e5], hM.fresh hs dd (by rintro x ⟨⟩) (fun e => absurd e (by decide)) (fun e => absurd e (by decide)) (fun e => absurd e (by decide)) (fun _ => ⟨n7, n8, X, cX, Y, cY, rfl, hbi.1, hbi.2⟩) (fun e => absurd e (by decide)) (fun e => absurd e (by decide)) (fun e => absurd e (by decide)) (by decide)⟩
    · refine wpOp_plain rfl rfl (fun K' hK => ?_)
      obtain ⟨X, cX, Y, cY, e6, k7, k8, k9, k10⟩ := hM.p6 (ready_dep hi (j := 6) (by kernel_rfl))
      rw [e6]
      go_simp
      exact hK _ _ ⟨upd T 7 (.tuple #[.agg #[.slice X res.1.length cX, .slice Y res.2.length cY], .bool flag]), by simp [upd, e6], hM.fresh hs (Below.refl _ _) (by rintro x ⟨⟩) (fun e => absurd e (by decide)) (fun e => absurd e (by decide)) (fun e => absurd e (by decide)) (fun e => absurd e (by decide)) (fun _ => e6.symm) (fun e => absurd e (by decide)) (fun e => absurd e (by decide)) (by decide)⟩
    · refine wpOp_plain rfl rfl (fun K' hK => ?_)
      have d7 := ready_dep hi (j := 7) (by kernel_rfl)
      obtain ⟨X, cX, Y, cY, e6, k7, k8, k9, k10⟩ := hM.p6 (closed_reach hc 0 7 6 (by kernel_rfl) d7)
      have e7 := (k7 d7).trans e6
      rw [e7]
      go_simp
      exact hK _ _ ⟨upd T 8 (.agg #[.slice X res.1.length cX, .slice Y res.2.length cY]), by simp [upd, e7, e6], hM.fresh hs (Below.refl _ _) (by rintro x ⟨⟩) (fun e => absurd e (by decide)) (fun e => absurd e (by decide)) (fun e => absurd e (by decide)) (fun e => absurd e (by decide)) (fun e => absurd e (by decide)) (fun _ X' c' Y' d' h => by rw [e6] at h; injection h with h; injection h with h; injection h) (fun e => absurd e (by decide)) (by decide)⟩
    · refine wpOp_plain rfl rfl (fun K' hK => ?_)
      have d7 := ready_dep hi (j := 7) (by kernel_rfl)
      obtain ⟨X, cX, Y, cY, e6, k7, k8, k9, k10⟩ := hM.p6 (closed_reach hc 0 7 6 (by kernel_rfl) d7)
      have e7 := (k7 d7).trans e6
      rw [e7]
      go_simp
      exact hK _ _ ⟨upd T 9 (.bool flag), by simp [upd, e7, e6], hM.quiet hs (by decide) (by rintro x ⟨⟩; rfl)⟩
    · refine wpOp_plain rfl rfl (fun K' hK => ?_)
      have n11 := not_yet hc hn 0 11 (by kernel_rfl)
      go_simp
      exact hK _ _ ⟨upd T 10 (.pointer (some ⟨u.heap.size, 0, none⟩)), by simp [upd], hM.fresh hs (below_alloc _ _) (by rintro x ⟨⟩) (fun e => absurd e (by decide)) (fun e => absurd e (by decide)) (fun e => absurd e (by decide)) (fun e => absurd e (by decide)) (fun e => absurd e (by decide)) (fun e => absurd e (by decide)) (fun _ => ⟨n11, _, rfl, Box.new _ _ _, hbu.size⟩) (by decide)⟩
    · refine wpOp_plain rfl rfl (fun K' hK => ?_)
      have d8 := ready_dep hi (j := 8) (by kernel_rfl)
      have d6 := closed_reach hc 1 8 6 (by kernel_rfl) d8
      obtain ⟨X, cX, Y, cY, e6, k7, k8, k9, k10⟩ := hM.p6 d6
      obtain ⟨gb, e10, hB, hgb⟩ := hM.p10 hn (ready_dep hi (j := 10) (by kernel_rfl))
      have e8 := k8 d8
      have y0 := hB.cell 0
      have y1 := hB.cell 1
      have y2 := hB.frozen 0
      have y3 := hB.frozen 1
      simp only [List.getElem?_toArray, List.getElem?_cons_zero, List.getElem?_cons_succ] at y0 y1
      rw [e8, e10]
      go_simp
      exact hK _ _ ⟨T, (by first | (rw [e8, e10, e6]; done) | (rw [e8, e10, e6]; rfl) | simp [e8, e10, e6]), hM.store hs d6 e6 e10 hB hgb k9 k10⟩
    · refine wpOp_plain rfl rfl (fun K' hK => ?_)
      have e9 := hM.fv 9 _ rfl (ready_dep hi (j := 9) (by kernel_rfl))
      rw [e9]
      go_simp
      exact hK _ _ ⟨upd T 12 (.bool flag), by simp [upd, e9], hM.quiet hs (by decide) (by rintro x ⟨⟩; rfl)⟩
  rintro listed a u31 hz hall ⟨TT2, rfl, hM⟩
  obtain ⟨gbh, Xh, cXh, Yh, cYh, e10, hG, hg, hbi⟩ := hM.p11 (hall 11 (by decide))
  have e12 := hM.fv 12 _ rfl (hall 12 (by decide))
  rw [e10, e12]
  clear e10 e12
  have d31 := hM.below
  have b31 : Below v6.heap.size v6 u31 := by first | exact d31 | exact und d31 | exact undN d31 | exact below_new d31 | exact und (below_new d31) | exact below_new (und d31) | exact below_new (below_new d31) | exact step (below_drew _) (und (below_new d31))
  have I0v' := Lib.hid (I0v.out.step b31)
  clear I0v
  have I0v := I0v'
  clear I0v'
  have F0v' := Lib.hid (F0v.out.step b31)
  clear F0v
  have F0v := F0v'
  clear F0v'
  have J1v' := Lib.hid (J1v.out.step b31)
  clear J1v
  have J1v := J1v'
  clear J1v'
  have J2v' := Lib.hid (J2v.out.step b31)
  clear J2v
  have J2v := J2v'
  clear J2v'
  have XBv' := Lib.hid (XBv.out.step b31)
  clear XBv
  have XBv := XBv'
  clear XBv'
  have XAv' := Lib.hid (XAv.out.step b31)
  clear XAv
  have XAv := XAv'
  clear XAv'
  have XFv' := Lib.hid (XFv.out.step b31)
  clear XFv
  have XFv := XFv'
  clear XFv'
  have Gs6' := Lib.hid (Gs6.out.step b31)
  clear Gs6
  have Gs6 := Gs6'
  clear Gs6'
  have BS6' := Lib.hid (BS6.out.step b31)
  clear BS6
  have BS6 := BS6'
  clear BS6'
  have BM6' := Lib.hid (BM6.out.step b31)
  clear BM6
  have BM6 := BM6'
  clear BM6'
  have Y136' := Lib.hid (Y136.out.step b31)
  clear Y136
  have Y136 := Y136'
  clear Y136'
  have T31 := step TF6 b31
  have Z31 := b31.size
  have Gh := Lib.hid hG
  have Nh := hg
  have Bh := Lib.hid hbi
  clear hM hG hbi hall hz listed hg
  dsimp only
  have Bh1 := Lib.hid Bh.out.1
  have Bh2 := Lib.hid Bh.out.2
  have o10 := Gh.out.cell 0
  have o11 := Gh.out.cell 1
  simp only [List.getElem?_toArray, List.getElem?_cons_zero, List.getElem?_cons_succ] at o10 o11
  have o1n := Gh.out.lt
  have o20 := Gs6.out.cell 0
  have o21 := Gs6.out.cell 1
  simp only [List.getElem?_toArray, List.getElem?_cons_zero, List.getElem?_cons_succ] at o20 o21
  have o2n := Gs6.out.lt
  go_wp2_with fail
  refine (eqBinding_b _ _ _ _ _ _ _ _ res.1 res.2 hr1 hr2 _ Bh1.out Bh2.out BS6.out.ri BS6.out.rv).mono ?_
  rintro e u32 ⟨rfl, d32⟩
  have b32 : Below u31.heap.size u31 u32 := by first | exact d32 | exact und d32 | exact undN d32 | exact below_new d32 | exact und (below_new d32) | exact below_new (und d32) | exact below_new (below_new d32) | exact step (below_drew _) (und (below_new d32))
  have I0v' := Lib.hid (I0v.out.step b32)
  clear I0v
  have I0v := I0v'
  clear I0v'
  have F0v' := Lib.hid (F0v.out.step b32)
  clear F0v
  have F0v := F0v'
  clear F0v'
  have J1v' := Lib.hid (J1v.out.step b32)
  clear J1v
  have J1v := J1v'
  clear J1v'
  have J2v' := Lib.hid (J2v.out.step b32)
  clear J2v
  have J2v := J2v'
  clear J2v'
  have XBv' := Lib.hid (XBv.out.step b32)
  clear XBv
  have XBv := XBv'
  clear XBv'
  have XAv' := Lib.hid (XAv.out.step b32)
  clear XAv
  have XAv := XAv'
  clear XAv'
  have XFv' := Lib.hid (XFv.out.step b32)
  clear XFv
  have XFv := XFv'
  clear XFv'
  have Gs6' := Lib.hid (Gs6.out.step b32)
  clear Gs6
  have Gs6 := Gs6'
  clear Gs6'
  have BS6' := Lib.hid (BS6.out.step b32)
  clear BS6
  have BS6 := BS6'
  clear BS6'
  have BM6' := Lib.hid (BM6.out.step b32)
  clear BM6
  have BM6 := BM6'
  clear BM6'
  have Y136' := Lib.hid (Y136.out.step b32)
  clear Y136
  have Y136 := Y136'
  clear Y136'
  have T32 := step T31 b32
  have Z32 := b32.size
  have o30 := Y136.out.cell 0
  have o31 := Y136.out.cell 1
  simp only [List.getElem?_toArray, List.getElem?_cons_zero, List.getElem?_cons_succ] at o30 o31
  have o3n := Y136.out.lt
  go_wp2_with fail
  refine (heldBinding_o (u7.heap.size + 1) u8.heap.size cXg cYg Xg Yg res 1 hr1 hr2 (by omega) (by omega) _ BM6.out).mono ?_
  rintro e u33 ⟨rfl, d33⟩
  have b33 : Below u32.heap.size u32 u33 := by first | exact d33 | exact und d33 | exact undN d33 | exact below_new d33 | exact und (below_new d33) | exact below_new (und d33) | exact below_new (below_new d33) | exact step (below_drew _) (und (below_new d33))
  have I0v' := Lib.hid (I0v.out.step b33)
  clear I0v
  have I0v := I0v'
  clear I0v'
  have F0v' := Lib.hid (F0v.out.step b33)
  clear F0v
  have F0v := F0v'
  clear F0v'
  have J1v' := Lib.hid (J1v.out.step b33)
  clear J1v
  have J1v := J1v'
  clear J1v'
  have J2v' := Lib.hid (J2v.out.step b33)
  clear J2v
  have J2v := J2v'
  clear J2v'
  have XBv' := Lib.hid (XBv.out.step b33)
  clear XBv
  have XBv := XBv'
  clear XBv'
  have XAv' := Lib.hid (XAv.out.step b33)
  clear XAv
  have XAv := XAv'
  clear XAv'
  have XFv' := Lib.hid (XFv.out.step b33)
  clear XFv
  have XFv := XFv'
  clear XFv'
  have Gs6' := Lib.hid (Gs6.out.step b33)
  clear Gs6
  have Gs6 := Gs6'
  clear Gs6'
  have BS6' := Lib.hid (BS6.out.step b33)
  clear BS6
  have BS6 := BS6'
  clear BS6'
  have BM6' := Lib.hid (BM6.out.step b33)
  clear BM6
  have BM6 := BM6'
  clear BM6'
  have Y136' := Lib.hid (Y136.out.step b33)
  clear Y136
  have Y136 := Y136'
  clear Y136'
  have T33 := step T32 b33
  have Z33 := b33.size
  go_wp2
  go_ret
  exact ⟨rfl, T0.trans (T33.mono T0.size)⟩

set_option maxRecDepth 100000 in
theorem lifted (os : Os) (started : os.Started) (H : Type) (enc : TypeId × Value → H) :
    ReturnsInHanded {} Try.checked os 3 .any (Rows.fnExactMatchAtomSpec.pre6 enc Try.prog Try.f3 Rows.fnExactMatchAtomRow.domain false) (Rows.fnExactMatchAtomSpec.post enc Try.prog Try.f3 false true false false) := by
  refine returnsInHanded_of_change (C := Try.checked) own started (by kernel_rfl) Try.func3
    (ChangeSpec.witness6 (enc := enc) (C := Try.checked) false ⟨#[], #[.agg #[.slice none 0 0, .slice none 0 0], .agg #[.int .i64 0, .slice none 0 0], .agg #[.int .i64 0, .slice none 0 0]], []⟩ 8 (by kernel_rfl) (by kernel_rfl) (by kernel_rfl) (by kernel_rfl)) ?_
  intro W base args ds gs before hval0 hW hcnd _
  have hval : ∀ (j : Nat) t v, Try.f3.params[j]? = some t → args[j]? = some v → Value.okWide Try.prog W .any base t v := hval0
  have hpost := fun (W' : World) (hfn : Rows.fnExactMatchAtomSpec.fn H (ds ++ gs) = { results := [.lit (.bool true)], args := ds }) (hb : Below W.heap.size W W') => law_post (enc := enc) laidOut (f := Try.f3) (s := Rows.fnExactMatchAtomSpec) (args := args) rfl rfl Try.underlying4 (by intro t ht; rw [Try.params3] at ht; simp at ht; rcases ht with rfl | rfl | rfl <;> exact ⟨by kernel_rfl, of_decide_eq_true (by kernel_rfl)⟩) hW hfn hb
  obtain ⟨p, q, hA0, hV, rfl, hfz, hnd⟩ := hW
  have hA : DataW.TrodAll enc Try.prog W 0 (fun _ => true) true Try.f3.params.toList args.toList ds p := hA0
  rw [Try.params3] at hA hval
  obtain ⟨v0, vs0, d0, ds0, p0, q0, hargs, rfl, rfl, h0, r0⟩ := trodAll_cons hA
  obtain ⟨v1, vs1, d1, ds1, p1, q1, rfl, rfl, rfl, h1, r1⟩ := trodAll_cons r0
  obtain ⟨v2, vs2, d2, ds2, p2, q2, rfl, rfl, rfl, h2, r2⟩ := trodAll_cons r1
  obtain ⟨rfl, rfl, rfl⟩ := trodAll_nil r2
  obtain rfl : args = #[v0, v1, v2] := by cases args; simp_all
  obtain ⟨rfl, rfl⟩ := trodVars_none hV
  obtain ⟨H0, A0, x0, c0, s0, l0, rfl, y0, z0, k0, m0, w0, g0⟩ := open_bindingW (hval 0 24 v0 rfl rfl) h0
  obtain ⟨f1, A1, c1, rfl, l1, m1, w1, g1⟩ := open_atomW (hval 1 26 v1 rfl rfl) h1
  obtain ⟨f2, A2, c2, rfl, l2, m2, w2, g2⟩ := open_factW (hval 2 28 v2 rfl rfl) h2
  refine (walk W H0 A0 x0 c0 s0 l0 y0 z0 k0 m0 w0 g0 f1 A1 c1 l1 m1 w1 g1 f2 A2 c2 l2 m2 w2 g2).mono fun e W' ⟨he, hg⟩ => ?_
  subst he
  exact ⟨_, rfl, hpost W' rfl hg⟩

theorem over : Rows.fnExactMatchAtomRow.holds Try.pinned (OpenSpec.ofChange Rows.fnExactMatchAtomSpec) :=
  OpenClaim.holds_of_wide 3 Try.f3 rfl rfl rfl rfl rfl rfl rfl ⟨rfl, rfl, rfl, rfl, rfl⟩ rfl rfl rfl rfl rfl (by kernel_rfl) Try.func3 (by kernel_rfl)
    (of_decide_eq_true (by kernel_rfl)) (by unfold Func.isWrapper; first | (rw [if_pos (by decide +kernel)]; kernel_rfl) | (rw [if_neg (by decide +kernel)]; exact ⟨rfl, rfl⟩))
    (fun os started H enc _ => lifted os started H enc)
end Go.Proofs.Ytigakhkhjjbboaa.fnExactMatchAtom
namespace Go.Proofs.Ytigakhkhjjbboaa
theorem fnExactMatchAtom_holds : Rows.FnExactMatchAtomSaid := fnExactMatchAtom.over
#print axioms fnExactMatchAtom_holds
end Go.Proofs.Ytigakhkhjjbboaa
