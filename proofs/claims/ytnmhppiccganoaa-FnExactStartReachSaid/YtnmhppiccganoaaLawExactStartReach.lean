/- impl.StartReach answers as its model at every argument: the law FnExactStartReach returns true. Conditions: none beyond the statement's own. -/
import Derived.Test.YtnmhppiccganoaaStR
import Derived.Test.YtnmhppiccganoaaMrkA
namespace Go.Proofs.Ytnmhppiccganoaa.fnExactStartReach
open Go.ChangeShapes Go.WideShapes Go.ChangeAt Go.RowKit
open Go.ChangeMaps (open_string shut_string)
set_option linter.unusedVariables false
set_option linter.unusedSimpArgs false

set_option maxRecDepth 100000 in
set_option maxHeartbeats 1000000 in
theorem walk (w : World) (A0 : Option Addr) (c0 : Nat) (s0 : List Int) (l0 : s0.length ≤ c0) (m0 : c0 ≤ maxLen) (w0 : Ints w 0 w.heap.size A0 s0) :
    Calls Try.prog 3 #[.slice A0 s0.length c0] w fun e w' => e = .returned (.bool true) ∧ Below w.heap.size w w' := by
  unfold maxLen at m0
  by_cases hb : (1048576 : Int) < s0.length
  · have I0 := Lib.hid (show RI w A0 s0 from w0)
    have W0 := Lib.hid w0
    clear w0
    go_enter Try.func3, Try.ntmps3
    go_wp2
    go_ret
    exact ⟨rfl, Below.refl _ _⟩
  · skip
    have hl0 : s0.length ≤ 1048576 := by omega
    have CS := Lib.hid fun (A : Option Addr) (c : Nat) (w : World) (h : RI w A s0) => (spec_StartReach A c s0 hl0 w h).mono fun _ _ h => h.toV
    have CI := Lib.hid fun (A : Option Addr) (c : Nat) (w : World) (h : RI w A s0) => impl_StartReach A c s0 hl0 w h
    have hv : (wl 0 9 s0).length ≤ 1048576 := by have := wl_len 0 9 s0; omega
    generalize wl 0 9 s0 = vs at CS CI hv
    have hv2 : (vs.length : Int) ≤ 1048576 := by omega
    have SC := Lib.hid (show szC [] vs [] = (vs.length : Int) by simp [szC, szF, sumN])
    have I0 := Lib.hid (show RI w A0 s0 from w0)
    have W0 := Lib.hid w0
    clear w0
    go_enter Try.func3, Try.ntmps3
    go_wp2_with fail
    refine (toIntS_r A0 c0 s0 hl0 _ (by first | exact I0.out | exact I0.out.step (below_drew _) | exact I0.out.step (below_alloc _ _) | exact I0.out.step (step (below_alloc _ _) (below_alloc _ _)))).mono ?_
    rintro e u1 ⟨rfl, r1, d1, z1⟩
    have b1 : Below w.heap.size w u1 := by first | exact d1 | exact und d1 | exact undN d1 | exact below_new d1 | exact und (below_new d1) | exact below_new (und d1) | exact below_new (below_new d1) | exact step (below_drew _) (und (below_new d1))
    have I0' := Lib.hid (I0.out.step b1)
    clear I0
    have I0 := I0'
    clear I0'
    have T1 := b1
    have Z1 := b1.size
    have R1 := Lib.hid r1
    have y1 := z1
    clear r1 z1
    go_wp2_with fail
    refine (CS.out _ _ _ (by first | exact R1.out.ri | exact (R1.out.step (below_drew _)).ri | exact (R1.out.step (below_alloc _ _)).ri)).mono ?_
    rintro e u2 ⟨A2, c2, rfl, r2, d2⟩
    have b2 : Below u1.heap.size u1 u2 := by first | exact d2 | exact und d2 | exact undN d2 | exact below_new d2 | exact und (below_new d2) | exact below_new (und d2) | exact below_new (below_new d2) | exact step (below_drew _) (und (below_new d2))
    have I0' := Lib.hid (I0.out.step b2)
    clear I0
    have I0 := I0'
    clear I0'
    have R1' := Lib.hid (R1.out.step b2)
    clear R1
    have R1 := R1'
    clear R1'
    have T2 := step T1 b2
    have Z2 := b2.size
    have V2 := Lib.hid r2
    clear r2
    go_wp2_with fail
    refine (toIntS_r A0 c0 s0 hl0 _ (by first | exact I0.out | exact I0.out.step (below_drew _) | exact I0.out.step (below_alloc _ _) | exact I0.out.step (step (below_alloc _ _) (below_alloc _ _)))).mono ?_
    rintro e u3 ⟨rfl, r3, d3, z3⟩
    have X0 := Lib.hid (Box.of_new d3)
    have b3 : Below u2.heap.size u2 u3 := by first | exact d3 | exact und d3 | exact undN d3 | exact below_new d3 | exact und (below_new d3) | exact below_new (und d3) | exact below_new (below_new d3) | exact step (below_drew _) (und (below_new d3))
    have I0' := Lib.hid (I0.out.step b3)
    clear I0
    have I0 := I0'
    clear I0'
    have V2' := Lib.hid (V2.out.step b3)
    clear V2
    have V2 := V2'
    clear V2'
    have T3 := step T2 b3
    have Z3 := b3.size
    rw [al_size] at r3
    have R3 := Lib.hid r3
    have y3 : u2.heap.size + 1 < u3.heap.size := by have := z3; rw [al_size] at this; omega
    clear r3 z3
    go_wp2_with fail
    refine (CI.out _ _ _ (by first | exact R3.out.ri | exact (R3.out.step (below_drew _)).ri | exact (R3.out.step (below_alloc _ _)).ri)).mono ?_
    rintro e u4 ⟨A4, c4, rfl, r4, d4⟩
    have b4 : Below u3.heap.size u3 u4 := by first | exact d4 | exact und d4 | exact undN d4 | exact below_new d4 | exact und (below_new d4) | exact below_new (und d4) | exact below_new (below_new d4) | exact step (below_drew _) (und (below_new d4))
    have I0' := Lib.hid (I0.out.step b4)
    clear I0
    have I0 := I0'
    clear I0'
    have V2' := Lib.hid (V2.out.step b4)
    clear V2
    have V2 := V2'
    clear V2'
    have R3' := Lib.hid (R3.out.step b4)
    clear R3
    have R3 := R3'
    clear R3'
    have X0' := Lib.hid (X0.out.step b4)
    clear X0
    have X0 := X0'
    clear X0'
    have T4 := step T3 b4
    have Z4 := b4.size
    have G4 := Lib.hid r4
    clear r4
    have ga0 := X0.out.cell 0
    have ga1 := X0.out.cell 1
    have ga2 := X0.out.cell 2
    have ga3 := X0.out.cell 3
    simp only [List.getElem?_toArray, List.getElem?_cons_zero, List.getElem?_cons_succ] at ga0 ga1 ga2 ga3
    have gan := X0.out.lt
    go_wp2_with fail
    refine (eqReached_r _ _ _ _ _ _ _ _ _ _ _ _ [] vs [] 0 (by simp [szF, sumN]) hv (by simp [szF, sumN]) _ (fun hne => absurd rfl hne) (by first | exact G4.out.ri | exact (G4.out.step (below_drew _)).ri | exact (G4.out.step (below_alloc _ _)).ri) (fun hne => absurd rfl hne) (fun hne => absurd rfl hne) (by first | exact V2.out.ri | exact (V2.out.step (below_drew _)).ri | exact (V2.out.step (below_alloc _ _)).ri) (fun hne => absurd rfl hne)).mono ?_
    rintro e u5 ⟨rfl, d5⟩
    have Y0 := Lib.hid (Box.of_new d5)
    have b5 : Below u4.heap.size u4 u5 := by first | exact d5 | exact und d5 | exact undN d5 | exact below_new d5 | exact und (below_new d5) | exact below_new (und d5) | exact below_new (below_new d5) | exact step (below_drew _) (und (below_new d5))
    have I0' := Lib.hid (I0.out.step b5)
    clear I0
    have I0 := I0'
    clear I0'
    have V2' := Lib.hid (V2.out.step b5)
    clear V2
    have V2 := V2'
    clear V2'
    have R3' := Lib.hid (R3.out.step b5)
    clear R3
    have R3 := R3'
    clear R3'
    have X0' := Lib.hid (X0.out.step b5)
    clear X0
    have X0 := X0'
    clear X0'
    have G4' := Lib.hid (G4.out.step b5)
    clear G4
    have G4 := G4'
    clear G4'
    have T5 := step T4 b5
    have Z5 := b5.size
    go_wp2_with fail
    refine (toIntS_r A0 c0 s0 hl0 _ (by first | exact I0.out | exact I0.out.step (below_drew _) | exact I0.out.step (below_alloc _ _) | exact I0.out.step (step (below_alloc _ _) (below_alloc _ _)))).mono ?_
    rintro e u6 ⟨rfl, r6, d6, z6⟩
    have b6 : Below u5.heap.size u5 u6 := by first | exact d6 | exact und d6 | exact undN d6 | exact below_new d6 | exact und (below_new d6) | exact below_new (und d6) | exact below_new (below_new d6) | exact step (below_drew _) (und (below_new d6))
    have I0' := Lib.hid (I0.out.step b6)
    clear I0
    have I0 := I0'
    clear I0'
    have V2' := Lib.hid (V2.out.step b6)
    clear V2
    have V2 := V2'
    clear V2'
    have R3' := Lib.hid (R3.out.step b6)
    clear R3
    have R3 := R3'
    clear R3'
    have X0' := Lib.hid (X0.out.step b6)
    clear X0
    have X0 := X0'
    clear X0'
    have G4' := Lib.hid (G4.out.step b6)
    clear G4
    have G4 := G4'
    clear G4'
    have Y0' := Lib.hid (Y0.out.step b6)
    clear Y0
    have Y0 := Y0'
    clear Y0'
    have T6 := step T5 b6
    have Z6 := b6.size
    have R6 := Lib.hid r6
    have y6 := z6
    clear r6 z6
    go_wp2_with fail
    refine (eqIntS_r _ _ _ _ s0 hl0 _ (by first | exact R3.out.ri | exact (R3.out.step (below_drew _)).ri | exact (R3.out.step (below_alloc _ _)).ri) (by first | exact R6.out.ri | exact (R6.out.step (below_drew _)).ri | exact (R6.out.step (below_alloc _ _)).ri)).mono ?_
    rintro e u7 ⟨rfl, d7⟩
    have b7 : Below u6.heap.size u6 u7 := by first | exact d7 | exact und d7 | exact undN d7 | exact below_new d7 | exact und (below_new d7) | exact below_new (und d7) | exact below_new (below_new d7) | exact step (below_drew _) (und (below_new d7))
    have I0' := Lib.hid (I0.out.step b7)
    clear I0
    have I0 := I0'
    clear I0'
    have V2' := Lib.hid (V2.out.step b7)
    clear V2
    have V2 := V2'
    clear V2'
    have R3' := Lib.hid (R3.out.step b7)
    clear R3
    have R3 := R3'
    clear R3'
    have X0' := Lib.hid (X0.out.step b7)
    clear X0
    have X0 := X0'
    clear X0'
    have G4' := Lib.hid (G4.out.step b7)
    clear G4
    have G4 := G4'
    clear G4'
    have Y0' := Lib.hid (Y0.out.step b7)
    clear Y0
    have Y0 := Y0'
    clear Y0'
    have R6' := Lib.hid (R6.out.step b7)
    clear R6
    have R6 := R6'
    clear R6'
    have T7 := step T6 b7
    have Z7 := b7.size
    have g4h := G4.out.2
    have v2h := V2.out.2
    have x0h := X0.out.lt
    have y0h := Y0.out.lt
    go_wp2_with fail
    refine (markIntS_own (u2.heap.size + 1) (u2.heap.size + 2) (u2.heap.size + 1) _ _ 1 s0 hl0 (by omega) (by omega) _ (by omega) (by omega) (by first | exact OwnV.of_row R3.out (Nat.le_refl _) (by omega) (Nat.le_refl _) (by unfold maxLen; omega) | exact OwnV.of_row (R3.out.step (below_drew _)) (Nat.le_refl _) (by omega) (Nat.le_refl _) (by unfold maxLen; omega))).mono ?_
    rintro e v1 ⟨rfl, W1, _⟩
    have sv1 : v1.heap.size = u7.heap.size := W1.size
    have V2a := Lib.hid (V2.out.keep (w' := v1) (fun b _ h2 => W1.block b (.inl (by omega))) (by omega))
    have G4a := Lib.hid (G4.out.keep (w' := v1) (fun b h1 _ => W1.block b (.inr (by omega))) (by omega))
    have X0a := Lib.hid (show Box v1 u2.heap.size _ _ from (W1.block _ (.inl (by omega))).trans X0.out)
    have Y0a := Lib.hid (show Box v1 u4.heap.size _ _ from (W1.block _ (.inr (by omega))).trans Y0.out)
    have TA := Lib.hid (T7.trans (W1.below.mono (by omega)))
    have hk1 : ¬ (1 + (s0.length : Int) < 0) := by omega
    clear W1 V2 G4 X0 Y0 R3
    have gb0 := X0a.out.cell 0
    have gb1 := X0a.out.cell 1
    have gb2 := X0a.out.cell 2
    have gb3 := X0a.out.cell 3
    simp only [List.getElem?_toArray, List.getElem?_cons_zero, List.getElem?_cons_succ] at gb0 gb1 gb2 gb3
    have gbn := X0a.out.lt
    have gc0 := Y0a.out.cell 0
    have gc1 := Y0a.out.cell 1
    have gc2 := Y0a.out.cell 2
    have gc3 := Y0a.out.cell 3
    simp only [List.getElem?_toArray, List.getElem?_cons_zero, List.getElem?_cons_succ] at gc0 gc1 gc2 gc3
    have gcn := Y0a.out.lt
    go_wp2_with fail
    refine (eqReached_r _ _ _ _ _ _ _ _ _ _ _ _ [] vs [] 0 (by simp [szF, sumN]) hv (by simp [szF, sumN]) _ (fun hne => absurd rfl hne) (by first | exact G4a.out.ri | exact (G4a.out.step (below_drew _)).ri | exact (G4a.out.step (below_alloc _ _)).ri) (fun hne => absurd rfl hne) (fun hne => absurd rfl hne) (by first | exact V2a.out.ri | exact (V2a.out.step (below_drew _)).ri | exact (V2a.out.step (below_alloc _ _)).ri) (fun hne => absurd rfl hne)).mono ?_
    rintro e u21 ⟨rfl, d21⟩
    have b21 : Below v1.heap.size v1 u21 := by first | exact d21 | exact und d21 | exact undN d21 | exact below_new d21 | exact und (below_new d21) | exact below_new (und d21) | exact below_new (below_new d21) | exact step (below_drew _) (und (below_new d21))
    have V2a' := Lib.hid (V2a.out.step b21)
    clear V2a
    have V2a := V2a'
    clear V2a'
    have G4a' := Lib.hid (G4a.out.step b21)
    clear G4a
    have G4a := G4a'
    clear G4a'
    have X0a' := Lib.hid (X0a.out.step b21)
    clear X0a
    have X0a := X0a'
    clear X0a'
    have Y0a' := Lib.hid (Y0a.out.step b21)
    clear Y0a
    have Y0a := Y0a'
    clear Y0a'
    have T21 := step TA.out b21
    have Z21 := b21.size
    have gd0 := Y0a.out.cell 0
    have gd1 := Y0a.out.cell 1
    have gd2 := Y0a.out.cell 2
    have gd3 := Y0a.out.cell 3
    simp only [List.getElem?_toArray, List.getElem?_cons_zero, List.getElem?_cons_succ] at gd0 gd1 gd2 gd3
    have gdn := Y0a.out.lt
    have g4b := G4a.out.2
    have v2b := V2a.out.2
    have y0b := Y0a.out.lt
    have x0b := X0a.out.lt
    have a4 : u3.heap.size ≤ u4.heap.size := g4b.2
    go_wp2_with fail
    refine (markReached_o u3.heap.size u3.heap.size u4.heap.size u4.heap.size none _ none 0 _ 0 [] vs [] 0 1 (by omega) (by omega) (by simp [szF, sumN]) hv (by simp [szF, sumN]) _ (by
      obtain ⟨hq, h2, h3⟩ := (show GV u21 u3.heap.size u4.heap.size _ _ vs from G4a.out)
      exact ⟨.inl rfl, hq, .inl rfl, Nat.le_refl _, h3, Nat.le_refl _, h2⟩)).mono ?_
    rintro e v2 ⟨rfl, M2, K2⟩
    rw [SC.out]
    have sv2 : u21.heap.size ≤ v2.heap.size := M2.below.size
    have V2b := Lib.hid (V2a.out.keep (w' := v2) (fun b _ h2 => M2.below.block b (by omega)) sv2)
    have X0b := Lib.hid (show Box v2 u2.heap.size _ _ from (M2.below.block _ (by omega)).trans X0a.out)
    have Y0b := Lib.hid (show Box v2 u4.heap.size _ _ from (M2.above _ (Nat.le_refl _) (by omega)).trans Y0a.out)
    have KM := Lib.hid K2
    have TB := Lib.hid (T21.trans (M2.below.mono (by omega)))
    have I0v := Lib.hid ((show RI w A0 s0 from W0.out).step TB.out)
    have hm2 : 0 ≤ 1 + (vs.length : Int) := by omega
    clear M2 K2 V2a X0a Y0a G4a TA
    have ge0 := Y0b.out.cell 0
    have ge1 := Y0b.out.cell 1
    have ge2 := Y0b.out.cell 2
    have ge3 := Y0b.out.cell 3
    simp only [List.getElem?_toArray, List.getElem?_cons_zero, List.getElem?_cons_succ] at ge0 ge1 ge2 ge3
    have gen := Y0b.out.lt
    go_wp2_with fail
    refine (heldReached_o u3.heap.size u3.heap.size u4.heap.size u4.heap.size none _ none 0 _ 0 [] vs [] 0 1 (by omega) (by omega) (by rw [SC.out]; omega) _ (by first | exact KM.out | exact KM.out.step (below_drew _) | exact KM.out.step (below_alloc _ _) | exact KM.out.step (step (below_alloc _ _) (below_alloc _ _)))).mono ?_
    rintro e u31 ⟨he, d31⟩
    rw [SC.out] at he
    subst he
    have b31 : Below v2.heap.size v2 u31 := by first | exact d31 | exact und d31 | exact undN d31 | exact below_new d31 | exact und (below_new d31) | exact below_new (und d31) | exact below_new (below_new d31) | exact step (below_drew _) (und (below_new d31))
    have V2b' := Lib.hid (V2b.out.step b31)
    clear V2b
    have V2b := V2b'
    clear V2b'
    have X0b' := Lib.hid (X0b.out.step b31)
    clear X0b
    have X0b := X0b'
    clear X0b'
    have Y0b' := Lib.hid (Y0b.out.step b31)
    clear Y0b
    have Y0b := Y0b'
    clear Y0b'
    have KM' := Lib.hid (KM.out.step b31)
    clear KM
    have KM := KM'
    clear KM'
    have I0v' := Lib.hid (I0v.out.step b31)
    clear I0v
    have I0v := I0v'
    clear I0v'
    have T31 := step TB.out b31
    have Z31 := b31.size
    go_wp2_with fail
    refine (toIntS_r A0 c0 s0 hl0 _ (by first | exact I0v.out | exact I0v.out.step (below_drew _) | exact I0v.out.step (below_alloc _ _) | exact I0v.out.step (step (below_alloc _ _) (below_alloc _ _)))).mono ?_
    rintro e u32 ⟨rfl, r32, d32, z32⟩
    have b32 : Below u31.heap.size u31 u32 := by first | exact d32 | exact und d32 | exact undN d32 | exact below_new d32 | exact und (below_new d32) | exact below_new (und d32) | exact below_new (below_new d32) | exact step (below_drew _) (und (below_new d32))
    have V2b' := Lib.hid (V2b.out.step b32)
    clear V2b
    have V2b := V2b'
    clear V2b'
    have X0b' := Lib.hid (X0b.out.step b32)
    clear X0b
    have X0b := X0b'
    clear X0b'
    have Y0b' := Lib.hid (Y0b.out.step b32)
    clear Y0b
    have Y0b := Y0b'
    clear Y0b'
    have KM' := Lib.hid (KM.out.step b32)
    clear KM
    have KM := KM'
    clear KM'
    have I0v' := Lib.hid (I0v.out.step b32)
    clear I0v
    have I0v := I0v'
    clear I0v'
    have T32 := step T31 b32
    have Z32 := b32.size
    have R32 := Lib.hid r32
    have y32 := z32
    clear r32 z32
    go_wp2_with fail
    refine (CI.out _ _ _ (by first | exact R32.out.ri | exact (R32.out.step (below_drew _)).ri | exact (R32.out.step (below_alloc _ _)).ri)).mono ?_
    rintro e u33 ⟨A33, c33, rfl, r33, d33⟩
    have b33 : Below u32.heap.size u32 u33 := by first | exact d33 | exact und d33 | exact undN d33 | exact below_new d33 | exact und (below_new d33) | exact below_new (und d33) | exact below_new (below_new d33) | exact step (below_drew _) (und (below_new d33))
    have V2b' := Lib.hid (V2b.out.step b33)
    clear V2b
    have V2b := V2b'
    clear V2b'
    have X0b' := Lib.hid (X0b.out.step b33)
    clear X0b
    have X0b := X0b'
    clear X0b'
    have Y0b' := Lib.hid (Y0b.out.step b33)
    clear Y0b
    have Y0b := Y0b'
    clear Y0b'
    have KM' := Lib.hid (KM.out.step b33)
    clear KM
    have KM := KM'
    clear KM'
    have I0v' := Lib.hid (I0v.out.step b33)
    clear I0v
    have I0v := I0v'
    clear I0v'
    have R32' := Lib.hid (R32.out.step b33)
    clear R32
    have R32 := R32'
    clear R32'
    have T33 := step T32 b33
    have Z33 := b33.size
    have G33 := Lib.hid r33
    clear r33
    have gf0 := X0b.out.cell 0
    have gf1 := X0b.out.cell 1
    have gf2 := X0b.out.cell 2
    have gf3 := X0b.out.cell 3
    simp only [List.getElem?_toArray, List.getElem?_cons_zero, List.getElem?_cons_succ] at gf0 gf1 gf2 gf3
    have gfn := X0b.out.lt
    have gg0 := Y0b.out.cell 0
    have gg1 := Y0b.out.cell 1
    have gg2 := Y0b.out.cell 2
    have gg3 := Y0b.out.cell 3
    simp only [List.getElem?_toArray, List.getElem?_cons_zero, List.getElem?_cons_succ] at gg0 gg1 gg2 gg3
    have ggn := Y0b.out.lt
    go_wp2_with fail
    refine (eqReached_r _ _ _ _ _ _ _ _ _ _ _ _ [] vs [] 0 (by simp [szF, sumN]) hv (by simp [szF, sumN]) _ (fun hne => absurd rfl hne) (by first | exact G33.out.ri | exact (G33.out.step (below_drew _)).ri | exact (G33.out.step (below_alloc _ _)).ri) (fun hne => absurd rfl hne) (fun hne => absurd rfl hne) (by first | exact V2b.out.ri | exact (V2b.out.step (below_drew _)).ri | exact (V2b.out.step (below_alloc _ _)).ri) (fun hne => absurd rfl hne)).mono ?_
    rintro e u34 ⟨rfl, d34⟩
    have b34 : Below u33.heap.size u33 u34 := by first | exact d34 | exact und d34 | exact undN d34 | exact below_new d34 | exact und (below_new d34) | exact below_new (und d34) | exact below_new (below_new d34) | exact step (below_drew _) (und (below_new d34))
    have V2b' := Lib.hid (V2b.out.step b34)
    clear V2b
    have V2b := V2b'
    clear V2b'
    have X0b' := Lib.hid (X0b.out.step b34)
    clear X0b
    have X0b := X0b'
    clear X0b'
    have Y0b' := Lib.hid (Y0b.out.step b34)
    clear Y0b
    have Y0b := Y0b'
    clear Y0b'
    have KM' := Lib.hid (KM.out.step b34)
    clear KM
    have KM := KM'
    clear KM'
    have I0v' := Lib.hid (I0v.out.step b34)
    clear I0v
    have I0v := I0v'
    clear I0v'
    have R32' := Lib.hid (R32.out.step b34)
    clear R32
    have R32 := R32'
    clear R32'
    have G33' := Lib.hid (G33.out.step b34)
    clear G33
    have G33 := G33'
    clear G33'
    have T34 := step T33 b34
    have Z34 := b34.size
    have gh0 := Y0b.out.cell 0
    have gh1 := Y0b.out.cell 1
    have gh2 := Y0b.out.cell 2
    have gh3 := Y0b.out.cell 3
    simp only [List.getElem?_toArray, List.getElem?_cons_zero, List.getElem?_cons_succ] at gh0 gh1 gh2 gh3
    have ghn := Y0b.out.lt
    go_wp2_with fail
    refine (heldReached_o u3.heap.size u3.heap.size u4.heap.size u4.heap.size none _ none 0 _ 0 [] vs [] 0 1 (by omega) (by omega) (by rw [SC.out]; omega) _ (by first | exact KM.out | exact KM.out.step (below_drew _) | exact KM.out.step (below_alloc _ _) | exact KM.out.step (step (below_alloc _ _) (below_alloc _ _)))).mono ?_
    rintro e u35 ⟨he, d35⟩
    rw [SC.out] at he
    subst he
    have b35 : Below u34.heap.size u34 u35 := by first | exact d35 | exact und d35 | exact undN d35 | exact below_new d35 | exact und (below_new d35) | exact below_new (und d35) | exact below_new (below_new d35) | exact step (below_drew _) (und (below_new d35))
    have X0b' := Lib.hid (X0b.out.step b35)
    clear X0b
    have X0b := X0b'
    clear X0b'
    have Y0b' := Lib.hid (Y0b.out.step b35)
    clear Y0b
    have Y0b := Y0b'
    clear Y0b'
    have KM' := Lib.hid (KM.out.step b35)
    clear KM
    have KM := KM'
    clear KM'
    have I0v' := Lib.hid (I0v.out.step b35)
    clear I0v
    have I0v := I0v'
    clear I0v'
    have R32' := Lib.hid (R32.out.step b35)
    clear R32
    have R32 := R32'
    clear R32'
    have T35 := step T34 b35
    have Z35 := b35.size
    go_wp2
    go_ret
    exact ⟨rfl, by first | exact T35 | exact T35.drew⟩

set_option maxRecDepth 100000 in
theorem lifted (os : Os) (started : os.Started) (H : Type) (enc : TypeId × Value → H) :
    ReturnsInHanded {} Try.checked os 3 .any (Rows.fnExactStartReachSpec.pre6 enc Try.prog Try.f3 Rows.fnExactStartReachRow.domain false) (Rows.fnExactStartReachSpec.post enc Try.prog Try.f3 false true false false) := by
  refine returnsInHanded_of_change (C := Try.checked) own started (by kernel_rfl) Try.func3
    (ChangeSpec.witness6 (enc := enc) (C := Try.checked) false ⟨#[], #[.slice none 0 0], []⟩ 8 (by kernel_rfl) (by kernel_rfl) (by kernel_rfl) (by kernel_rfl)) ?_
  intro W base args ds gs before hval0 hW hcnd _
  have hval : ∀ (j : Nat) t v, Try.f3.params[j]? = some t → args[j]? = some v → Value.okWide Try.prog W .any base t v := hval0
  have hpost := fun (W' : World) (hfn : Rows.fnExactStartReachSpec.fn H (ds ++ gs) = { results := [.lit (.bool true)], args := ds }) (hb : Below W.heap.size W W') => law_post (enc := enc) laidOut (f := Try.f3) (s := Rows.fnExactStartReachSpec) (args := args) rfl rfl Try.underlying4 (by intro t ht; rw [Try.params3] at ht; simp at ht; rcases ht with rfl <;> exact ⟨by kernel_rfl, of_decide_eq_true (by kernel_rfl)⟩) hW hfn hb
  obtain ⟨p, q, hA0, hV, rfl, hfz, hnd⟩ := hW
  have hA : DataW.TrodAll enc Try.prog W 0 (fun _ => true) true Try.f3.params.toList args.toList ds p := hA0
  rw [Try.params3] at hA hval
  obtain ⟨v0, vs0, d0, ds0, p0, q0, hargs, rfl, rfl, h0, r0⟩ := trodAll_cons hA
  obtain ⟨rfl, rfl, rfl⟩ := trodAll_nil r0
  obtain rfl : args = #[v0] := by cases args; simp_all
  obtain ⟨rfl, rfl⟩ := trodVars_none hV
  obtain ⟨A0, c0, s0, rfl, l0, m0, w0⟩ := open_numsT Try.underlying22 Try.underlying3 (by kernel_rfl) (hval 0 22 v0 rfl rfl) h0
  refine (walk W A0 c0 s0 l0 m0 w0).mono fun e W' ⟨he, hg⟩ => ?_
  subst he
  exact ⟨_, rfl, hpost W' rfl hg⟩

theorem over : Rows.fnExactStartReachRow.holds Try.pinned (OpenSpec.ofChange Rows.fnExactStartReachSpec) :=
  OpenClaim.holds_of_wide 3 Try.f3 rfl rfl rfl rfl rfl rfl rfl ⟨rfl, rfl, rfl, rfl, rfl⟩ rfl rfl rfl rfl rfl (by kernel_rfl) Try.func3 (by kernel_rfl)
    (of_decide_eq_true (by kernel_rfl)) (by unfold Func.isWrapper; first | (rw [if_pos (by decide +kernel)]; kernel_rfl) | (rw [if_neg (by decide +kernel)]; exact ⟨rfl, rfl⟩))
    (fun os started H enc _ => lifted os started H enc)
end Go.Proofs.Ytnmhppiccganoaa.fnExactStartReach
namespace Go.Proofs.Ytnmhppiccganoaa
theorem fnExactStartReach_holds : Rows.FnExactStartReachSaid := fnExactStartReach.over
#print axioms fnExactStartReach_holds
end Go.Proofs.Ytnmhppiccganoaa
