/- impl.AnswerablePart answers as its model at every argument: the law FnExactAnswerablePart returns true. Conditions: none beyond the statement's own. -/
import Derived.Test.YtighalbnpgmdfaaAp14
import Derived.Test.YtighalbnpgmdfaaAp1
import Derived.Deep.Cut
import Derived.Deep.CutRange

namespace Go.Proofs.Ytighalbnpgmdfaa.fnExactAnswerablePart
open Go.ChangeShapes Go.WideShapes Go.ChangeAt Go.RowKit
open Go.ChangeMaps (open_string shut_string)
set_option linter.unusedVariables false
set_option linter.unusedSimpArgs false
open Go.Proofs.Ytighalbnpgmdfaa.atom
set_option maxRecDepth 100000 in
set_option maxHeartbeats 8000000 in
theorem walk (w : World) (A0 : Option Addr) (c0 : Nat) (s0 : List Int) (l0 : s0.length ≤ c0) (m0 : c0 ≤ maxLen) (w0 : Ints w 0 w.heap.size A0 s0) (A1 : Option Addr) (c1 : Nat) (l1 : ML) (k1 : l1.length ≤ c1) (m1 : c1 ≤ maxLen) (w1 : Meths w 0 w.heap.size A1 l1) (H2 A2 : Option Addr) (x2 c2 : Nat) (s2 : List Int) (l2 : FL) (y2 : s2.length ≤ x2) (z2 : x2 ≤ maxLen) (k2 : l2.length ≤ c2) (m2 : c2 ≤ maxLen) (w2 : Ints w 0 w.heap.size H2 s2 ∧ Facts w 0 w.heap.size A2 l2) :
    Calls Try.prog 9 #[.slice A0 s0.length c0, .slice A1 l1.length c1, .agg #[.slice H2 s2.length x2, .slice A2 l2.length c2]] w fun e w' => e = .returned (.bool true) ∧ Below w.heap.size w w' := by
  unfold maxLen at m0 m1 z2 m2
  have hn1 := szM_nonneg l1
  have hn2 := szF_nonneg l2
  have EQ2 := Lib.hid (show szQ s2 l2 = (s2.length : Int) + szF l2 from rfl)
  have hq2 : 0 ≤ szQ s2 l2 := by rw [EQ2.out]; omega
  by_cases hb0 : (1048576 : Int) < s0.length
  · have I0 := Lib.hid (show RI w A0 s0 from w0)
    have I1 := Lib.hid (show RM w A1 l1 from w1)
    have I2 := Lib.hid (show RI w H2 s2 from w2.1)
    have F2 := Lib.hid (show RF w A2 l2 from w2.2)
    have I0w := Lib.hid w0
    have I1w := Lib.hid w1
    have I2w := Lib.hid w2
    clear w0 w1 w2
    go_enter Try.func9, Try.ntmps9
    go_wp2
    go_ret
    exact ⟨rfl, below_alloc _ _⟩
  · skip
    by_cases hb1 : 1048576 - szM l1 < 0
    · have I0 := Lib.hid (show RI w A0 s0 from w0)
      have I1 := Lib.hid (show RM w A1 l1 from w1)
      have I2 := Lib.hid (show RI w H2 s2 from w2.1)
      have F2 := Lib.hid (show RF w A2 l2 from w2.2)
      have I0w := Lib.hid w0
      have I1w := Lib.hid w1
      have I2w := Lib.hid w2
      clear w0 w1 w2
      go_enter Try.func9, Try.ntmps9
      go_wp2_with fail
      refine (szMethodS_any A1 c1 l1 1048576 (by omega) (by omega) (by omega) _ (by first | exact I1.out | exact I1.out.step (below_drew _) | exact I1.out.step (below_alloc _ _) | exact I1.out.step (step (below_drew _) (below_alloc _ _)) | exact I1.out.step (step (below_alloc _ _) (below_alloc _ _)))).mono ?_
      rintro e u1 ⟨he, d1⟩
      rw [if_pos hb1] at he
      subst he
      have X2 := Lib.hid (Box.of_new d1)
      have b1 : Below w.heap.size w u1 := by first | exact d1 | exact und d1 | exact undN d1 | exact below_new d1 | exact und (below_new d1) | exact below_new (und d1) | exact below_new (below_new d1) | exact step (below_drew _) (und (below_new d1))
      have I0' := Lib.hid (I0.out.step b1)
      clear I0
      have I0 := I0'
      clear I0'
      have I1' := Lib.hid (I1.out.step b1)
      clear I1
      have I1 := I1'
      clear I1'
      have I2' := Lib.hid (I2.out.step b1)
      clear I2
      have I2 := I2'
      clear I2'
      have F2' := Lib.hid (F2.out.step b1)
      clear F2
      have F2 := F2'
      clear F2'
      have T1 := b1
      have Z1 := b1.size
      have ga0 := X2.out.cell 0
      have ga1 := X2.out.cell 1
      simp only [List.getElem?_toArray, List.getElem?_cons_zero, List.getElem?_cons_succ] at ga0 ga1
      have gan := X2.out.lt
      go_wp2
      go_ret
      exact ⟨rfl, T1⟩
    · skip
      by_cases hb2 : (1048576 - szM l1) - szQ s2 l2 < 0
      · have I0 := Lib.hid (show RI w A0 s0 from w0)
        have I1 := Lib.hid (show RM w A1 l1 from w1)
        have I2 := Lib.hid (show RI w H2 s2 from w2.1)
        have F2 := Lib.hid (show RF w A2 l2 from w2.2)
        have I0w := Lib.hid w0
        have I1w := Lib.hid w1
        have I2w := Lib.hid w2
        clear w0 w1 w2
        go_enter Try.func9, Try.ntmps9
        go_wp2_with fail
        refine (szMethodS_any A1 c1 l1 1048576 (by omega) (by omega) (by omega) _ (by first | exact I1.out | exact I1.out.step (below_drew _) | exact I1.out.step (below_alloc _ _) | exact I1.out.step (step (below_drew _) (below_alloc _ _)) | exact I1.out.step (step (below_alloc _ _) (below_alloc _ _)))).mono ?_
        rintro e u1 ⟨he, d1⟩
        rw [if_neg (show ¬ (1048576 - szM l1 < 0) by omega)] at he
        subst he
        have X2 := Lib.hid (Box.of_new d1)
        have b1 : Below w.heap.size w u1 := by first | exact d1 | exact und d1 | exact undN d1 | exact below_new d1 | exact und (below_new d1) | exact below_new (und d1) | exact below_new (below_new d1) | exact step (below_drew _) (und (below_new d1))
        have I0' := Lib.hid (I0.out.step b1)
        clear I0
        have I0 := I0'
        clear I0'
        have I1' := Lib.hid (I1.out.step b1)
        clear I1
        have I1 := I1'
        clear I1'
        have I2' := Lib.hid (I2.out.step b1)
        clear I2
        have I2 := I2'
        clear I2'
        have F2' := Lib.hid (F2.out.step b1)
        clear F2
        have F2 := F2'
        clear F2'
        have T1 := b1
        have Z1 := b1.size
        have ga0 := X2.out.cell 0
        have ga1 := X2.out.cell 1
        simp only [List.getElem?_toArray, List.getElem?_cons_zero, List.getElem?_cons_succ] at ga0 ga1
        have gan := X2.out.lt
        go_wp2_with fail
        refine (szQuery_any H2 A2 x2 c2 s2 l2 (1048576 - szM l1) (by omega) (by omega) (by omega) (by omega) _ (by first | exact F2.out | exact F2.out.step (below_drew _) | exact F2.out.step (below_alloc _ _) | exact F2.out.step (step (below_drew _) (below_alloc _ _)) | exact F2.out.step (step (below_alloc _ _) (below_alloc _ _)))).mono ?_
        rintro e u2 ⟨he, d2⟩
        rw [szR_neg (show (1048576 - szM l1) - szQ s2 l2 < 0 by omega)] at he
        subst he
        have b2 : Below u1.heap.size u1 u2 := by first | exact d2 | exact und d2 | exact undN d2 | exact below_new d2 | exact und (below_new d2) | exact below_new (und d2) | exact below_new (below_new d2) | exact step (below_drew _) (und (below_new d2))
        have I0' := Lib.hid (I0.out.step b2)
        clear I0
        have I0 := I0'
        clear I0'
        have I1' := Lib.hid (I1.out.step b2)
        clear I1
        have I1 := I1'
        clear I1'
        have I2' := Lib.hid (I2.out.step b2)
        clear I2
        have I2 := I2'
        clear I2'
        have F2' := Lib.hid (F2.out.step b2)
        clear F2
        have F2 := F2'
        clear F2'
        have X2' := Lib.hid (X2.out.step b2)
        clear X2
        have X2 := X2'
        clear X2'
        have T2 := step T1 b2
        have Z2 := b2.size
        have gb0 := X2.out.cell 0
        have gb1 := X2.out.cell 1
        simp only [List.getElem?_toArray, List.getElem?_cons_zero, List.getElem?_cons_succ] at gb0 gb1
        have gbn := X2.out.lt
        go_wp2
        go_ret
        exact ⟨rfl, T2⟩
      · skip
        have hl0 : s0.length ≤ 1048576 := by omega
        have hL0 : (s0.length : Int) ≤ 1048576 := by omega
        have hz1 : szM l1 ≤ 1048576 := by omega
        have hl1 : l1.length ≤ 1048576 := szM_len hz1
        have hL1 : (l1.length : Int) ≤ 1048576 := by omega
        have hzq : szQ s2 l2 ≤ 1048576 := by omega
        have hz2 : szF l2 ≤ 1048576 := by have := EQ2.out; omega
        have hl2 : s2.length ≤ 1048576 := by have := EQ2.out; omega
        have CS := Lib.hid fun (A0 : Option Addr) (c0 : Nat) (A1 : Option Addr) (c1 : Nat) (H2 A2 : Option Addr) (x2 c2 : Nat) (w : World) (h0 : RI w A0 s0) (h1 : RM w A1 l1) (h2 : RI w H2 s2) (h3 : RF w A2 l2) => (spec_AnswerablePart A0 c0 s0 A1 c1 l1 H2 A2 x2 c2 s2 l2 hl0 hz1 hl2 hz2 w h0 h1 h2 h3).mono fun _ _ h => h.toP
        have CI := Lib.hid fun (A0 : Option Addr) (c0 : Nat) (A1 : Option Addr) (c1 : Nat) (H2 A2 : Option Addr) (x2 c2 : Nat) (w : World) (h0 : RI w A0 s0) (h1 : RM w A1 l1) (h2 : RI w H2 s2) (h3 : RF w A2 l2) => (impl_AnswerablePart A0 c0 s0 A1 c1 l1 H2 A2 x2 c2 s2 l2 hl0 hz1 hl2 hz2 w h0 h1 h2 h3).mono fun _ _ h => h.toP
        have rz : szF (partF s0 l1 s2 l2) ≤ 16 := partF_sz
        have rz0 := szF_nonneg (partF s0 l1 s2 l2)
        have rl := partH_three s0 l1 s2 l2
        generalize partF s0 l1 s2 l2 = rf at CS CI rz rz0
        generalize partH s0 l1 s2 l2 = rh at CS CI rl
        generalize partB s0 l1 s2 l2 = rb at CS CI
        have hrz : szF rf ≤ 1048577 := by omega
        have hrl : rh.length ≤ 1048576 := by omega
        have hrq : szQ rh rf ≤ 1048576 := by unfold szQ; omega
        have hrn : 0 ≤ szQ rh rf := by unfold szQ; omega
        have eb1 : (rb == rb) = true := by simp
        have eb2 : (rb != rb) = false := by simp
        have I0 := Lib.hid (show RI w A0 s0 from w0)
        have I1 := Lib.hid (show RM w A1 l1 from w1)
        have I2 := Lib.hid (show RI w H2 s2 from w2.1)
        have F2 := Lib.hid (show RF w A2 l2 from w2.2)
        have I0w := Lib.hid w0
        have I1w := Lib.hid w1
        have I2w := Lib.hid w2
        clear w0 w1 w2
        go_enter Try.func9, Try.ntmps9
        go_wp2_with fail
        refine (szMethodS_any A1 c1 l1 1048576 (by omega) (by omega) (by omega) _ (by first | exact I1.out | exact I1.out.step (below_drew _) | exact I1.out.step (below_alloc _ _) | exact I1.out.step (step (below_drew _) (below_alloc _ _)) | exact I1.out.step (step (below_alloc _ _) (below_alloc _ _)))).mono ?_
        rintro e u1 ⟨he, d1⟩
        rw [if_neg (show ¬ (1048576 - szM l1 < 0) by omega)] at he
        subst he
        have X2 := Lib.hid (Box.of_new d1)
        have b1 : Below w.heap.size w u1 := by first | exact d1 | exact und d1 | exact undN d1 | exact below_new d1 | exact und (below_new d1) | exact below_new (und d1) | exact below_new (below_new d1) | exact step (below_drew _) (und (below_new d1))
        have I0' := Lib.hid (I0.out.step b1)
        clear I0
        have I0 := I0'
        clear I0'
        have I1' := Lib.hid (I1.out.step b1)
        clear I1
        have I1 := I1'
        clear I1'
        have I2' := Lib.hid (I2.out.step b1)
        clear I2
        have I2 := I2'
        clear I2'
        have F2' := Lib.hid (F2.out.step b1)
        clear F2
        have F2 := F2'
        clear F2'
        have T1 := b1
        have Z1 := b1.size
        have ga0 := X2.out.cell 0
        have ga1 := X2.out.cell 1
        simp only [List.getElem?_toArray, List.getElem?_cons_zero, List.getElem?_cons_succ] at ga0 ga1
        have gan := X2.out.lt
        go_wp2_with fail
        refine (szQuery_any H2 A2 x2 c2 s2 l2 (1048576 - szM l1) (by omega) (by omega) (by omega) (by omega) _ (by first | exact F2.out | exact F2.out.step (below_drew _) | exact F2.out.step (below_alloc _ _) | exact F2.out.step (step (below_drew _) (below_alloc _ _)) | exact F2.out.step (step (below_alloc _ _) (below_alloc _ _)))).mono ?_
        rintro e u2 ⟨he, d2⟩
        rw [szR_pos (show ¬ ((1048576 - szM l1) - szQ s2 l2 < 0) by omega)] at he
        subst he
        have b2 : Below u1.heap.size u1 u2 := by first | exact d2 | exact und d2 | exact undN d2 | exact below_new d2 | exact und (below_new d2) | exact below_new (und d2) | exact below_new (below_new d2) | exact step (below_drew _) (und (below_new d2))
        have I0' := Lib.hid (I0.out.step b2)
        clear I0
        have I0 := I0'
        clear I0'
        have I1' := Lib.hid (I1.out.step b2)
        clear I1
        have I1 := I1'
        clear I1'
        have I2' := Lib.hid (I2.out.step b2)
        clear I2
        have I2 := I2'
        clear I2'
        have F2' := Lib.hid (F2.out.step b2)
        clear F2
        have F2 := F2'
        clear F2'
        have X2' := Lib.hid (X2.out.step b2)
        clear X2
        have X2 := X2'
        clear X2'
        have T2 := step T1 b2
        have Z2 := b2.size
        have gb0 := X2.out.cell 0
        have gb1 := X2.out.cell 1
        simp only [List.getElem?_toArray, List.getElem?_cons_zero, List.getElem?_cons_succ] at gb0 gb1
        have gbn := X2.out.lt
        go_wp2_with fail
        go_cut [8, 9] from 20 (fun s8 s9 wx => ∃ (g8 : Nat) (Hx Ax : Option Addr) (kx cx : Nat), s8 = .pointer (some ⟨g8, 0, none⟩) ∧ s9 = .bool rb ∧ Hid (Box wx g8 #[.slice Hx rh.length kx, .slice Ax rf.length cx] 37) ∧ Hid (QV wx wx.heap.size Hx Ax rh rf) ∧ Hid (Below u2.heap.size u2 wx) ∧ u2.heap.size ≤ g8)
        case first =>
          have ga_0 := X2.out.cell 0
          have ga_1 := X2.out.cell 1
          simp only [List.getElem?_toArray, List.getElem?_cons_zero, List.getElem?_cons_succ] at ga_0 ga_1
          have ga_n := X2.out.lt
          have tok3 : True := trivial
          have tok4 : True := trivial
          have tok5 : True := trivial
          have tok6 : True := trivial
          go_region_held3 (fun w' => w'.cell? ⟨w.heap.size, 0, none⟩ = some (.slice H2 s2.length x2) ∧ w'.cell? ⟨w.heap.size, 1, none⟩ = some (.slice A2 l2.length c2))
            (first
              | go_keep
              | (go_split_ands; refine ⟨?_, ?_⟩ <;> (rw [d3.cell (by (try simp) <;> omega)]; assumption))
              | (go_split_ands; refine ⟨?_, ?_⟩ <;> (rw [d4.cell (by (try simp) <;> omega)]; assumption))
              | (go_split_ands; refine ⟨?_, ?_⟩ <;> (rw [d5.cell (by (try simp) <;> omega)]; assumption))
              | (go_split_ands; refine ⟨?_, ?_⟩ <;> (rw [d6.cell (by (try simp) <;> omega)]; assumption))
              | (exact ⟨((below_alloc u6 _).cell (p := ⟨w.heap.size, 0, none⟩) (by (try simp) <;> omega)).trans k06, ((below_alloc u6 _).cell (p := ⟨w.heap.size, 1, none⟩) (by (try simp) <;> omega)).trans k16⟩)
              | (exact ⟨((Below.setCell (p := ⟨u2.heap.size, 1, none⟩) (Below.setCell (p := ⟨u2.heap.size, 0, none⟩) (Below.refl u2.heap.size u6) (Nat.le_refl _) _) (Nat.le_refl _) _).cell (p := ⟨w.heap.size, 0, none⟩) (by (try simp) <;> omega)).trans k06, ((Below.setCell (p := ⟨u2.heap.size, 1, none⟩) (Below.setCell (p := ⟨u2.heap.size, 0, none⟩) (Below.refl u2.heap.size u6) (Nat.le_refl _) _) (Nat.le_refl _) _).cell (p := ⟨w.heap.size, 1, none⟩) (by (try simp) <;> omega)).trans k16⟩)
              | (exact ⟨((Below.setCell (p := ⟨u3.heap.size, 1, none⟩) (Below.setCell (p := ⟨u3.heap.size, 0, none⟩) (Below.refl u3.heap.size u6) (Nat.le_refl _) _) (Nat.le_refl _) _).cell (p := ⟨w.heap.size, 0, none⟩) (by (try simp) <;> omega)).trans k06, ((Below.setCell (p := ⟨u3.heap.size, 1, none⟩) (Below.setCell (p := ⟨u3.heap.size, 0, none⟩) (Below.refl u3.heap.size u6) (Nat.le_refl _) _) (Nat.le_refl _) _).cell (p := ⟨w.heap.size, 1, none⟩) (by (try simp) <;> omega)).trans k16⟩)
              | (exact ⟨((Below.setCell (p := ⟨u4.heap.size, 1, none⟩) (Below.setCell (p := ⟨u4.heap.size, 0, none⟩) (Below.refl u4.heap.size u6) (Nat.le_refl _) _) (Nat.le_refl _) _).cell (p := ⟨w.heap.size, 0, none⟩) (by (try simp) <;> omega)).trans k06, ((Below.setCell (p := ⟨u4.heap.size, 1, none⟩) (Below.setCell (p := ⟨u4.heap.size, 0, none⟩) (Below.refl u4.heap.size u6) (Nat.le_refl _) _) (Nat.le_refl _) _).cell (p := ⟨w.heap.size, 1, none⟩) (by (try simp) <;> omega)).trans k16⟩)
              | (exact ⟨((Below.setCell (p := ⟨u5.heap.size, 1, none⟩) (Below.setCell (p := ⟨u5.heap.size, 0, none⟩) (Below.refl u5.heap.size u6) (Nat.le_refl _) _) (Nat.le_refl _) _).cell (p := ⟨w.heap.size, 0, none⟩) (by (try simp) <;> omega)).trans k06, ((Below.setCell (p := ⟨u5.heap.size, 1, none⟩) (Below.setCell (p := ⟨u5.heap.size, 0, none⟩) (Below.refl u5.heap.size u6) (Nat.le_refl _) _) (Nat.le_refl _) _).cell (p := ⟨w.heap.size, 1, none⟩) (by (try simp) <;> omega)).trans k16⟩))
            (first
              | (go_at_call 15
                 clear tok3
                 refine (toIntS_r A0 c0 s0 hl0 _ (by first | exact I0.out | exact I0.out.step (below_drew _) | exact I0.out.step (below_alloc _ _) | exact I0.out.step (step (below_drew _) (below_alloc _ _)) | exact I0.out.step (step (below_alloc _ _) (below_alloc _ _)))).mono ?_
                 rintro e u3 ⟨rfl, r3, d3, z3⟩
                 have b3 : Below u2.heap.size u2 u3 := by first | exact d3 | exact und d3 | exact undN d3 | exact below_new d3 | exact und (below_new d3) | exact below_new (und d3) | exact below_new (below_new d3) | exact step (below_drew _) (und (below_new d3))
                 have I0' := Lib.hid (I0.out.step b3)
                 clear I0
                 have I0 := I0'
                 clear I0'
                 have I1' := Lib.hid (I1.out.step b3)
                 clear I1
                 have I1 := I1'
                 clear I1'
                 have I2' := Lib.hid (I2.out.step b3)
                 clear I2
                 have I2 := I2'
                 clear I2'
                 have F2' := Lib.hid (F2.out.step b3)
                 clear F2
                 have F2 := F2'
                 clear F2'
                 have X2' := Lib.hid (X2.out.step b3)
                 clear X2
                 have X2 := X2'
                 clear X2'
                 have T3 := b3
                 have Z3 := b3.size
                 (try (have PB := Lib.hid (show Box u3 u2.heap.size #[.slice none 0 0, .slice none 0 0] 37 from (by first | exact Box.of_new d3 | exact Box.of_new (und d3) | exact Box.of_new (undN d3)))))
                 (try (have pl3 := PB.out.lt))
                 (try rw [show (u2.alloc (.cells #[.slice none 0 0, .slice none 0 0] 37)).heap.size = u2.heap.size + 1 by rw [al_size]] at r3)
                 (try rw [show (u2.alloc (.cells #[.slice none 0 0, .slice none 0 0] 37)).drew.heap.size = u2.heap.size + 1 by show (u2.alloc (.cells #[.slice none 0 0, .slice none 0 0] 37)).heap.size = _; rw [al_size]] at r3)
                 (try rw [show (u2.drew.alloc (.cells #[.slice none 0 0, .slice none 0 0] 37)).heap.size = u2.heap.size + 1 by rw [al_size]; rfl] at r3)
                 have R3 := Lib.hid r3.ri
                 clear r3 z3)
              | (go_at_call 16
                 clear tok4
                 refine (toMethodS_r A1 c1 l1 hz1 _ (by first | exact I1.out | exact I1.out.step (below_drew _) | exact I1.out.step (below_alloc _ _) | exact I1.out.step (step (below_drew _) (below_alloc _ _)) | exact I1.out.step (step (below_alloc _ _) (below_alloc _ _)))).mono ?_
                 rintro e u4 ⟨rfl, r4, d4, z4⟩
                 have b4 : Below u3.heap.size u3 u4 := by first | exact d4 | exact und d4 | exact undN d4 | exact below_new d4 | exact und (below_new d4) | exact below_new (und d4) | exact below_new (below_new d4) | exact step (below_drew _) (und (below_new d4))
                 have I0' := Lib.hid (I0.out.step b4)
                 clear I0
                 have I0 := I0'
                 clear I0'
                 have I1' := Lib.hid (I1.out.step b4)
                 clear I1
                 have I1 := I1'
                 clear I1'
                 have I2' := Lib.hid (I2.out.step b4)
                 clear I2
                 have I2 := I2'
                 clear I2'
                 have F2' := Lib.hid (F2.out.step b4)
                 clear F2
                 have F2 := F2'
                 clear F2'
                 have X2' := Lib.hid (X2.out.step b4)
                 clear X2
                 have X2 := X2'
                 clear X2'
                 have R3' := Lib.hid (R3.out.step b4)
                 clear R3
                 have R3 := R3'
                 clear R3'
                 have T4 := step T3 b4
                 have Z4 := b4.size
                 (try (have PBn := Lib.hid (PB.out.step b4); clear PB; have PB := PBn; clear PBn))
                 (try (have PB := Lib.hid (show Box u4 u3.heap.size #[.slice none 0 0, .slice none 0 0] 37 from (by first | exact Box.of_new d4 | exact Box.of_new (und d4) | exact Box.of_new (undN d4)))))
                 (try (have pl4 := PB.out.lt))
                 (try rw [show (u3.alloc (.cells #[.slice none 0 0, .slice none 0 0] 37)).heap.size = u3.heap.size + 1 by rw [al_size]] at r4)
                 (try rw [show (u3.alloc (.cells #[.slice none 0 0, .slice none 0 0] 37)).drew.heap.size = u3.heap.size + 1 by show (u3.alloc (.cells #[.slice none 0 0, .slice none 0 0] 37)).heap.size = _; rw [al_size]] at r4)
                 (try rw [show (u3.drew.alloc (.cells #[.slice none 0 0, .slice none 0 0] 37)).heap.size = u3.heap.size + 1 by rw [al_size]; rfl] at r4)
                 have R4 := Lib.hid r4
                 clear r4 z4)
              | (go_at_call 17
                 clear tok5
                 refine (toQuery_r H2 A2 x2 c2 s2 l2 hl2 hz2 _ (by first | exact I2.out | exact I2.out.step (below_drew _) | exact I2.out.step (below_alloc _ _) | exact I2.out.step (step (below_drew _) (below_alloc _ _)) | exact I2.out.step (step (below_alloc _ _) (below_alloc _ _))) (by first | exact F2.out | exact F2.out.step (below_drew _) | exact F2.out.step (below_alloc _ _) | exact F2.out.step (step (below_drew _) (below_alloc _ _)) | exact F2.out.step (step (below_alloc _ _) (below_alloc _ _)))).mono ?_
                 rintro e u5 ⟨rfl, r5, d5, z5⟩
                 have b5 : Below u4.heap.size u4 u5 := by first | exact d5 | exact und d5 | exact undN d5 | exact below_new d5 | exact und (below_new d5) | exact below_new (und d5) | exact below_new (below_new d5) | exact step (below_drew _) (und (below_new d5))
                 have I0' := Lib.hid (I0.out.step b5)
                 clear I0
                 have I0 := I0'
                 clear I0'
                 have I1' := Lib.hid (I1.out.step b5)
                 clear I1
                 have I1 := I1'
                 clear I1'
                 have I2' := Lib.hid (I2.out.step b5)
                 clear I2
                 have I2 := I2'
                 clear I2'
                 have F2' := Lib.hid (F2.out.step b5)
                 clear F2
                 have F2 := F2'
                 clear F2'
                 have X2' := Lib.hid (X2.out.step b5)
                 clear X2
                 have X2 := X2'
                 clear X2'
                 have R3' := Lib.hid (R3.out.step b5)
                 clear R3
                 have R3 := R3'
                 clear R3'
                 have R4' := Lib.hid (R4.out.step b5)
                 clear R4
                 have R4 := R4'
                 clear R4'
                 have T5 := step T4 b5
                 have Z5 := b5.size
                 (try (have PBn := Lib.hid (PB.out.step b5); clear PB; have PB := PBn; clear PBn))
                 (try (have PB := Lib.hid (show Box u5 u4.heap.size #[.slice none 0 0, .slice none 0 0] 37 from (by first | exact Box.of_new d5 | exact Box.of_new (und d5) | exact Box.of_new (undN d5)))))
                 (try (have pl5 := PB.out.lt))
                 (try rw [show (u4.alloc (.cells #[.slice none 0 0, .slice none 0 0] 37)).heap.size = u4.heap.size + 1 by rw [al_size]] at r5)
                 (try rw [show (u4.alloc (.cells #[.slice none 0 0, .slice none 0 0] 37)).drew.heap.size = u4.heap.size + 1 by show (u4.alloc (.cells #[.slice none 0 0, .slice none 0 0] 37)).heap.size = _; rw [al_size]] at r5)
                 (try rw [show (u4.drew.alloc (.cells #[.slice none 0 0, .slice none 0 0] 37)).heap.size = u4.heap.size + 1 by rw [al_size]; rfl] at r5)
                 have R5 := Lib.hid r5
                 clear r5 z5)
              | (go_at_call 40
                 clear tok6
                 refine (CS.out _ _ _ _ _ _ _ _ _ (by first | exact R3.out | exact R3.out.step (below_drew _) | exact R3.out.step (below_alloc _ _) | exact R3.out.step (step (below_drew _) (below_alloc _ _)) | exact R3.out.step (step (below_alloc _ _) (below_alloc _ _))) (by first | exact R4.out | exact R4.out.step (below_drew _) | exact R4.out.step (below_alloc _ _) | exact R4.out.step (step (below_drew _) (below_alloc _ _)) | exact R4.out.step (step (below_alloc _ _) (below_alloc _ _))) (by first | exact R5.out.ri | exact (R5.out.step (below_drew _)).ri | exact (R5.out.step (below_alloc _ _)).ri | exact (R5.out.step (step (below_drew _) (below_alloc _ _))).ri) (by first | exact R5.out.rf | exact (R5.out.step (below_drew _)).rf | exact (R5.out.step (below_alloc _ _)).rf | exact (R5.out.step (step (below_drew _) (below_alloc _ _))).rf)).mono ?_
                 rintro e u6 ⟨H6, A6, ch6, c6, rfl, r6, d6⟩
                 have b6 : Below u5.heap.size u5 u6 := by first | exact d6 | exact und d6 | exact undN d6 | exact below_new d6 | exact und (below_new d6) | exact below_new (und d6) | exact below_new (below_new d6) | exact step (below_drew _) (und (below_new d6))
                 have I0' := Lib.hid (I0.out.step b6)
                 clear I0
                 have I0 := I0'
                 clear I0'
                 have I1' := Lib.hid (I1.out.step b6)
                 clear I1
                 have I1 := I1'
                 clear I1'
                 have I2' := Lib.hid (I2.out.step b6)
                 clear I2
                 have I2 := I2'
                 clear I2'
                 have F2' := Lib.hid (F2.out.step b6)
                 clear F2
                 have F2 := F2'
                 clear F2'
                 have X2' := Lib.hid (X2.out.step b6)
                 clear X2
                 have X2 := X2'
                 clear X2'
                 have R3' := Lib.hid (R3.out.step b6)
                 clear R3
                 have R3 := R3'
                 clear R3'
                 have R4' := Lib.hid (R4.out.step b6)
                 clear R4
                 have R4 := R4'
                 clear R4'
                 have R5' := Lib.hid (R5.out.step b6)
                 clear R5
                 have R5 := R5'
                 clear R5'
                 have T6 := step T5 b6
                 have Z6 := b6.size
                 (try (have PBn := Lib.hid (PB.out.step b6); clear PB; have PB := PBn; clear PBn))
                 (try (have PB := Lib.hid (show Box u6 u5.heap.size #[.slice none 0 0, .slice none 0 0] 37 from (by first | exact Box.of_new d6 | exact Box.of_new (und d6) | exact Box.of_new (undN d6)))))
                 (try (have pl6 := PB.out.lt))
                 have QX := Lib.hid r6
                 clear r6
                 (try (have p0 := PB.out.cell 0))
                 (try (have p1 := PB.out.cell 1))
                 (try (have p2 := PB.out.frozen 0))
                 (try (have p3 := PB.out.frozen 1))
                 (try (simp only [List.getElem?_toArray, List.getElem?_cons_zero, List.getElem?_cons_succ] at p0 p1))
                 have k06 := (T6.cell (p := ⟨w.heap.size, 0, none⟩) (by (try simp) <;> omega)).trans ga_0
                 have k16 := (T6.cell (p := ⟨w.heap.size, 1, none⟩) (by (try simp) <;> omega)).trans ga_1))
          all_goals
            go_wp2
            go_meet
            case rel =>
              first
                | (have pb := show Box u6 u2.heap.size #[.slice none 0 0, .slice none 0 0] 37 from PB.out
                   have plt := pb.lt
                   refine ⟨u2.heap.size, H6, A6, ch6, c6, rfl, rfl, Lib.hid (show Box ((u6.setCell ⟨u2.heap.size, 0, none⟩ (.slice H6 rh.length ch6)).setCell ⟨u2.heap.size, 1, none⟩ (.slice A6 rf.length c6)) u2.heap.size _ _ from by simpa using (pb.set 0 (.slice H6 rh.length ch6)).set 1 (.slice A6 rf.length c6)), Lib.hid ?_, Lib.hid (T6.trans ((Below.setCell (p := ⟨u2.heap.size, 1, none⟩) (Below.setCell (p := ⟨u2.heap.size, 0, none⟩) (Below.refl u2.heap.size u6) (Nat.le_refl _) _) (Nat.le_refl _) _).mono (by omega))), by omega⟩
                   exact (QW.set2 (g := u2.heap.size) QX.out (by (try simp) <;> omega)).qv)
                | (have pb := show Box u6 u3.heap.size #[.slice none 0 0, .slice none 0 0] 37 from PB.out
                   have plt := pb.lt
                   refine ⟨u3.heap.size, H6, A6, ch6, c6, rfl, rfl, Lib.hid (show Box ((u6.setCell ⟨u3.heap.size, 0, none⟩ (.slice H6 rh.length ch6)).setCell ⟨u3.heap.size, 1, none⟩ (.slice A6 rf.length c6)) u3.heap.size _ _ from by simpa using (pb.set 0 (.slice H6 rh.length ch6)).set 1 (.slice A6 rf.length c6)), Lib.hid ?_, Lib.hid (T6.trans ((Below.setCell (p := ⟨u3.heap.size, 1, none⟩) (Below.setCell (p := ⟨u3.heap.size, 0, none⟩) (Below.refl u3.heap.size u6) (Nat.le_refl _) _) (Nat.le_refl _) _).mono (by omega))), by omega⟩
                   exact (QW.set2 (g := u3.heap.size) QX.out (by (try simp) <;> omega)).qv)
                | (have pb := show Box u6 u4.heap.size #[.slice none 0 0, .slice none 0 0] 37 from PB.out
                   have plt := pb.lt
                   refine ⟨u4.heap.size, H6, A6, ch6, c6, rfl, rfl, Lib.hid (show Box ((u6.setCell ⟨u4.heap.size, 0, none⟩ (.slice H6 rh.length ch6)).setCell ⟨u4.heap.size, 1, none⟩ (.slice A6 rf.length c6)) u4.heap.size _ _ from by simpa using (pb.set 0 (.slice H6 rh.length ch6)).set 1 (.slice A6 rf.length c6)), Lib.hid ?_, Lib.hid (T6.trans ((Below.setCell (p := ⟨u4.heap.size, 1, none⟩) (Below.setCell (p := ⟨u4.heap.size, 0, none⟩) (Below.refl u4.heap.size u6) (Nat.le_refl _) _) (Nat.le_refl _) _).mono (by omega))), by omega⟩
                   exact (QW.set2 (g := u4.heap.size) QX.out (by (try simp) <;> omega)).qv)
                | (have pb := show Box u6 u5.heap.size #[.slice none 0 0, .slice none 0 0] 37 from PB.out
                   have plt := pb.lt
                   refine ⟨u5.heap.size, H6, A6, ch6, c6, rfl, rfl, Lib.hid (show Box ((u6.setCell ⟨u5.heap.size, 0, none⟩ (.slice H6 rh.length ch6)).setCell ⟨u5.heap.size, 1, none⟩ (.slice A6 rf.length c6)) u5.heap.size _ _ from by simpa using (pb.set 0 (.slice H6 rh.length ch6)).set 1 (.slice A6 rf.length c6)), Lib.hid ?_, Lib.hid (T6.trans ((Below.setCell (p := ⟨u5.heap.size, 1, none⟩) (Below.setCell (p := ⟨u5.heap.size, 0, none⟩) (Below.refl u5.heap.size u6) (Nat.le_refl _) _) (Nat.le_refl _) _).mono (by omega))), by omega⟩
                   exact (QW.set2 (g := u5.heap.size) QX.out (by (try simp) <;> omega)).qv)
                | (have bb := below_alloc u6 (.cells #[.slice H6 rh.length ch6, .slice A6 rf.length c6] 37)
                   refine ⟨u6.heap.size, H6, A6, ch6, c6, rfl, rfl, Lib.hid (Box.new u6 #[.slice H6 rh.length ch6, .slice A6 rf.length c6] 37), Lib.hid ?_, Lib.hid (step T6 bb), by omega⟩
                   exact (QX.out.step bb).qv)
        case rest =>
          generalize wc = w8 at *
          obtain ⟨g8, Hx, Ax, kx, cx, rfl, rfl, VB, VQ, TCx, hg8⟩ := hcut
          have I0c := Lib.hid (I0.out.step TCx.out)
          have I1c := Lib.hid (I1.out.step TCx.out)
          have I2c := Lib.hid (I2.out.step TCx.out)
          have F2c := Lib.hid (F2.out.step TCx.out)
          have X2c := Lib.hid (X2.out.step TCx.out)
          have TC0 := Lib.hid (step T2 TCx.out)
          have wz8 : w.heap.size < g8 := by have := X2.out.lt; omega
          have vl8 := VB.out.lt
          clear I0 I1 I2 F2 X2 TCx
          go_wp2_with fail
          refine (toIntS_r A0 c0 s0 hl0 _ (by first | exact I0c.out | exact I0c.out.step (below_drew _) | exact I0c.out.step (below_alloc _ _) | exact I0c.out.step (step (below_drew _) (below_alloc _ _)) | exact I0c.out.step (step (below_alloc _ _) (below_alloc _ _)))).mono ?_
          rintro e u41 ⟨rfl, r41, d41, z41⟩
          have b41 : Below w8.heap.size w8 u41 := by first | exact d41 | exact und d41 | exact undN d41 | exact below_new d41 | exact und (below_new d41) | exact below_new (und d41) | exact below_new (below_new d41) | exact step (below_drew _) (und (below_new d41))
          have I0c' := Lib.hid (I0c.out.step b41)
          clear I0c
          have I0c := I0c'
          clear I0c'
          have I1c' := Lib.hid (I1c.out.step b41)
          clear I1c
          have I1c := I1c'
          clear I1c'
          have I2c' := Lib.hid (I2c.out.step b41)
          clear I2c
          have I2c := I2c'
          clear I2c'
          have F2c' := Lib.hid (F2c.out.step b41)
          clear F2c
          have F2c := F2c'
          clear F2c'
          have X2c' := Lib.hid (X2c.out.step b41)
          clear X2c
          have X2c := X2c'
          clear X2c'
          have VB' := Lib.hid (VB.out.step b41)
          clear VB
          have VB := VB'
          clear VB'
          have VQ' := Lib.hid (VQ.out.step b41)
          clear VQ
          have VQ := VQ'
          clear VQ'
          have T41 := step TC0.out b41
          have Z41 := b41.size
          have Q41 := Lib.hid r41
          have y41 : w8.heap.size < u41.heap.size := by omega
          clear r41 z41
          go_wp2_with fail
          refine (toMethodS_any A1 c1 l1 hz1 _ (by first | exact I1c.out | exact I1c.out.step (below_drew _) | exact I1c.out.step (below_alloc _ _) | exact I1c.out.step (step (below_drew _) (below_alloc _ _)) | exact I1c.out.step (step (below_alloc _ _) (below_alloc _ _)))).mono ?_
          rintro e u42 ⟨rfl, r42, d42, z42⟩
          have b42 : Below u41.heap.size u41 u42 := by first | exact d42 | exact und d42 | exact undN d42 | exact below_new d42 | exact und (below_new d42) | exact below_new (und d42) | exact below_new (below_new d42) | exact step (below_drew _) (und (below_new d42))
          have I0c' := Lib.hid (I0c.out.step b42)
          clear I0c
          have I0c := I0c'
          clear I0c'
          have I1c' := Lib.hid (I1c.out.step b42)
          clear I1c
          have I1c := I1c'
          clear I1c'
          have I2c' := Lib.hid (I2c.out.step b42)
          clear I2c
          have I2c := I2c'
          clear I2c'
          have F2c' := Lib.hid (F2c.out.step b42)
          clear F2c
          have F2c := F2c'
          clear F2c'
          have X2c' := Lib.hid (X2c.out.step b42)
          clear X2c
          have X2c := X2c'
          clear X2c'
          have VB' := Lib.hid (VB.out.step b42)
          clear VB
          have VB := VB'
          clear VB'
          have VQ' := Lib.hid (VQ.out.step b42)
          clear VQ
          have VQ := VQ'
          clear VQ'
          have Q41' := Lib.hid (Q41.out.step b42)
          clear Q41
          have Q41 := Q41'
          clear Q41'
          have T42 := step T41 b42
          have Z42 := b42.size
          have Q42 := Lib.hid (show PM u42 u41.heap.size u42.heap.size u41.heap.size (l1.length * 5) l1 from ⟨r42, Nat.le_refl _, Nat.le_refl _⟩)
          have y42 := z42
          clear r42 z42
          have gc0 := X2c.out.cell 0
          have gc1 := X2c.out.cell 1
          simp only [List.getElem?_toArray, List.getElem?_cons_zero, List.getElem?_cons_succ] at gc0 gc1
          have gcn := X2c.out.lt
          go_wp2_with fail
          refine (toQuery_r H2 A2 x2 c2 s2 l2 hl2 hz2 _ (by first | exact I2c.out | exact I2c.out.step (below_drew _) | exact I2c.out.step (below_alloc _ _) | exact I2c.out.step (step (below_drew _) (below_alloc _ _)) | exact I2c.out.step (step (below_alloc _ _) (below_alloc _ _))) (by first | exact F2c.out | exact F2c.out.step (below_drew _) | exact F2c.out.step (below_alloc _ _) | exact F2c.out.step (step (below_drew _) (below_alloc _ _)) | exact F2c.out.step (step (below_alloc _ _) (below_alloc _ _)))).mono ?_
          rintro e u43 ⟨rfl, r43, d43, z43⟩
          have b43 : Below u42.heap.size u42 u43 := by first | exact d43 | exact und d43 | exact undN d43 | exact below_new d43 | exact und (below_new d43) | exact below_new (und d43) | exact below_new (below_new d43) | exact step (below_drew _) (und (below_new d43))
          have I0c' := Lib.hid (I0c.out.step b43)
          clear I0c
          have I0c := I0c'
          clear I0c'
          have I1c' := Lib.hid (I1c.out.step b43)
          clear I1c
          have I1c := I1c'
          clear I1c'
          have I2c' := Lib.hid (I2c.out.step b43)
          clear I2c
          have I2c := I2c'
          clear I2c'
          have F2c' := Lib.hid (F2c.out.step b43)
          clear F2c
          have F2c := F2c'
          clear F2c'
          have X2c' := Lib.hid (X2c.out.step b43)
          clear X2c
          have X2c := X2c'
          clear X2c'
          have VB' := Lib.hid (VB.out.step b43)
          clear VB
          have VB := VB'
          clear VB'
          have VQ' := Lib.hid (VQ.out.step b43)
          clear VQ
          have VQ := VQ'
          clear VQ'
          have Q41' := Lib.hid (Q41.out.step b43)
          clear Q41
          have Q41 := Q41'
          clear Q41'
          have Q42' := Lib.hid (Q42.out.step b43)
          clear Q42
          have Q42 := Q42'
          clear Q42'
          have T43 := step T42 b43
          have Z43 := b43.size
          have Q43 := Lib.hid r43
          have y43 := z43
          clear r43 z43
          go_wp2_with fail
          refine (CI.out (some ⟨w8.heap.size, 0, none⟩) s0.length (some ⟨u41.heap.size, 0, none⟩) l1.length _ _ _ _ _ (by first | exact Q41.out.ri | exact (Q41.out.step (below_drew _)).ri | exact (Q41.out.step (below_alloc _ _)).ri | exact (Q41.out.step (step (below_drew _) (below_alloc _ _))).ri) (by first | exact Q42.out.rm | exact (Q42.out.step (below_drew _)).rm | exact (Q42.out.step (below_alloc _ _)).rm | exact (Q42.out.step (step (below_drew _) (below_alloc _ _))).rm) (by first | exact Q43.out.ri | exact (Q43.out.step (below_drew _)).ri | exact (Q43.out.step (below_alloc _ _)).ri | exact (Q43.out.step (step (below_drew _) (below_alloc _ _))).ri) (by first | exact Q43.out.rf | exact (Q43.out.step (below_drew _)).rf | exact (Q43.out.step (below_alloc _ _)).rf | exact (Q43.out.step (step (below_drew _) (below_alloc _ _))).rf)).mono ?_
          rintro e u44 ⟨H44, A44, ch44, c44, rfl, r44, d44⟩
          have Y2 := Lib.hid (Box.of_new d44)
          have b44 : Below u43.heap.size u43 u44 := by first | exact d44 | exact und d44 | exact undN d44 | exact below_new d44 | exact und (below_new d44) | exact below_new (und d44) | exact below_new (below_new d44) | exact step (below_drew _) (und (below_new d44))
          have I0c' := Lib.hid (I0c.out.step b44)
          clear I0c
          have I0c := I0c'
          clear I0c'
          have I1c' := Lib.hid (I1c.out.step b44)
          clear I1c
          have I1c := I1c'
          clear I1c'
          have I2c' := Lib.hid (I2c.out.step b44)
          clear I2c
          have I2c := I2c'
          clear I2c'
          have F2c' := Lib.hid (F2c.out.step b44)
          clear F2c
          have F2c := F2c'
          clear F2c'
          have X2c' := Lib.hid (X2c.out.step b44)
          clear X2c
          have X2c := X2c'
          clear X2c'
          have VB' := Lib.hid (VB.out.step b44)
          clear VB
          have VB := VB'
          clear VB'
          have VQ' := Lib.hid (VQ.out.step b44)
          clear VQ
          have VQ := VQ'
          clear VQ'
          have Q41' := Lib.hid (Q41.out.step b44)
          clear Q41
          have Q41 := Q41'
          clear Q41'
          have Q42' := Lib.hid (Q42.out.step b44)
          clear Q42
          have Q42 := Q42'
          clear Q42'
          have Q43' := Lib.hid (Q43.out.step b44)
          clear Q43
          have Q43 := Q43'
          clear Q43'
          have T44 := step T43 b44
          have Z44 := b44.size
          rw [al_size] at r44
          have G44 := Lib.hid r44
          have y44 : u43.heap.size + 1 ≤ u44.heap.size := by have := d44.size; rw [al_size] at this; exact this
          clear r44
          have va0 := VB.out.cell 0
          have va1 := VB.out.cell 1
          simp only [List.getElem?_toArray, List.getElem?_cons_zero, List.getElem?_cons_succ] at va0 va1
          have van := VB.out.lt
          go_wp2_with fail
          refine (eqQuery_b _ _ _ _ _ _ _ _ rh rf hrl hrz _ (by first | exact G44.out.ri | exact (G44.out.step (below_drew _)).ri | exact (G44.out.step (below_alloc _ _)).ri | exact (G44.out.step (step (below_drew _) (below_alloc _ _))).ri) (by first | exact G44.out.rf | exact (G44.out.step (below_drew _)).rf | exact (G44.out.step (below_alloc _ _)).rf | exact (G44.out.step (step (below_drew _) (below_alloc _ _))).rf) (by first | exact VQ.out.ri | exact (VQ.out.step (below_drew _)).ri | exact (VQ.out.step (below_alloc _ _)).ri | exact (VQ.out.step (step (below_drew _) (below_alloc _ _))).ri) (by first | exact VQ.out.rf | exact (VQ.out.step (below_drew _)).rf | exact (VQ.out.step (below_alloc _ _)).rf | exact (VQ.out.step (step (below_drew _) (below_alloc _ _))).rf)).mono ?_
          rintro e u45 ⟨rfl, d45⟩
          have Y3 := Lib.hid (Box.of_new d45)
          have b45 : Below u44.heap.size u44 u45 := by first | exact d45 | exact und d45 | exact undN d45 | exact below_new d45 | exact und (below_new d45) | exact below_new (und d45) | exact below_new (below_new d45) | exact step (below_drew _) (und (below_new d45))
          have I0c' := Lib.hid (I0c.out.step b45)
          clear I0c
          have I0c := I0c'
          clear I0c'
          have I1c' := Lib.hid (I1c.out.step b45)
          clear I1c
          have I1c := I1c'
          clear I1c'
          have I2c' := Lib.hid (I2c.out.step b45)
          clear I2c
          have I2c := I2c'
          clear I2c'
          have F2c' := Lib.hid (F2c.out.step b45)
          clear F2c
          have F2c := F2c'
          clear F2c'
          have X2c' := Lib.hid (X2c.out.step b45)
          clear X2c
          have X2c := X2c'
          clear X2c'
          have VB' := Lib.hid (VB.out.step b45)
          clear VB
          have VB := VB'
          clear VB'
          have VQ' := Lib.hid (VQ.out.step b45)
          clear VQ
          have VQ := VQ'
          clear VQ'
          have Q41' := Lib.hid (Q41.out.step b45)
          clear Q41
          have Q41 := Q41'
          clear Q41'
          have Q42' := Lib.hid (Q42.out.step b45)
          clear Q42
          have Q42 := Q42'
          clear Q42'
          have Q43' := Lib.hid (Q43.out.step b45)
          clear Q43
          have Q43 := Q43'
          clear Q43'
          have G44' := Lib.hid (G44.out.step b45)
          clear G44
          have G44 := G44'
          clear G44'
          have Y2' := Lib.hid (Y2.out.step b45)
          clear Y2
          have Y2 := Y2'
          clear Y2'
          have T45 := step T44 b45
          have Z45 := b45.size
          go_wp2_with fail
          refine (toIntS_r A0 c0 s0 hl0 _ (by first | exact I0c.out | exact I0c.out.step (below_drew _) | exact I0c.out.step (below_alloc _ _) | exact I0c.out.step (step (below_drew _) (below_alloc _ _)) | exact I0c.out.step (step (below_alloc _ _) (below_alloc _ _)))).mono ?_
          rintro e u46 ⟨rfl, r46, d46, z46⟩
          have b46 : Below u45.heap.size u45 u46 := by first | exact d46 | exact und d46 | exact undN d46 | exact below_new d46 | exact und (below_new d46) | exact below_new (und d46) | exact below_new (below_new d46) | exact step (below_drew _) (und (below_new d46))
          have I0c' := Lib.hid (I0c.out.step b46)
          clear I0c
          have I0c := I0c'
          clear I0c'
          have I1c' := Lib.hid (I1c.out.step b46)
          clear I1c
          have I1c := I1c'
          clear I1c'
          have I2c' := Lib.hid (I2c.out.step b46)
          clear I2c
          have I2c := I2c'
          clear I2c'
          have F2c' := Lib.hid (F2c.out.step b46)
          clear F2c
          have F2c := F2c'
          clear F2c'
          have X2c' := Lib.hid (X2c.out.step b46)
          clear X2c
          have X2c := X2c'
          clear X2c'
          have VB' := Lib.hid (VB.out.step b46)
          clear VB
          have VB := VB'
          clear VB'
          have VQ' := Lib.hid (VQ.out.step b46)
          clear VQ
          have VQ := VQ'
          clear VQ'
          have Q41' := Lib.hid (Q41.out.step b46)
          clear Q41
          have Q41 := Q41'
          clear Q41'
          have Q42' := Lib.hid (Q42.out.step b46)
          clear Q42
          have Q42 := Q42'
          clear Q42'
          have Q43' := Lib.hid (Q43.out.step b46)
          clear Q43
          have Q43 := Q43'
          clear Q43'
          have G44' := Lib.hid (G44.out.step b46)
          clear G44
          have G44 := G44'
          clear G44'
          have Y2' := Lib.hid (Y2.out.step b46)
          clear Y2
          have Y2 := Y2'
          clear Y2'
          have Y3' := Lib.hid (Y3.out.step b46)
          clear Y3
          have Y3 := Y3'
          clear Y3'
          have T46 := step T45 b46
          have Z46 := b46.size
          have R46 := Lib.hid r46.ri
          clear r46 z46
          go_wp2_with fail
          refine (eqIntS_r _ _ _ _ s0 hl0 _ (by first | exact Q41.out.ri | exact (Q41.out.step (below_drew _)).ri | exact (Q41.out.step (below_alloc _ _)).ri | exact (Q41.out.step (step (below_drew _) (below_alloc _ _))).ri) (by first | exact R46.out | exact R46.out.step (below_drew _) | exact R46.out.step (below_alloc _ _) | exact R46.out.step (step (below_drew _) (below_alloc _ _)) | exact R46.out.step (step (below_alloc _ _) (below_alloc _ _)))).mono ?_
          rintro e u47 ⟨rfl, d47⟩
          have b47 : Below u46.heap.size u46 u47 := by first | exact d47 | exact und d47 | exact undN d47 | exact below_new d47 | exact und (below_new d47) | exact below_new (und d47) | exact below_new (below_new d47) | exact step (below_drew _) (und (below_new d47))
          have I0c' := Lib.hid (I0c.out.step b47)
          clear I0c
          have I0c := I0c'
          clear I0c'
          have I1c' := Lib.hid (I1c.out.step b47)
          clear I1c
          have I1c := I1c'
          clear I1c'
          have I2c' := Lib.hid (I2c.out.step b47)
          clear I2c
          have I2c := I2c'
          clear I2c'
          have F2c' := Lib.hid (F2c.out.step b47)
          clear F2c
          have F2c := F2c'
          clear F2c'
          have X2c' := Lib.hid (X2c.out.step b47)
          clear X2c
          have X2c := X2c'
          clear X2c'
          have VB' := Lib.hid (VB.out.step b47)
          clear VB
          have VB := VB'
          clear VB'
          have VQ' := Lib.hid (VQ.out.step b47)
          clear VQ
          have VQ := VQ'
          clear VQ'
          have Q41' := Lib.hid (Q41.out.step b47)
          clear Q41
          have Q41 := Q41'
          clear Q41'
          have Q42' := Lib.hid (Q42.out.step b47)
          clear Q42
          have Q42 := Q42'
          clear Q42'
          have Q43' := Lib.hid (Q43.out.step b47)
          clear Q43
          have Q43 := Q43'
          clear Q43'
          have G44' := Lib.hid (G44.out.step b47)
          clear G44
          have G44 := G44'
          clear G44'
          have Y2' := Lib.hid (Y2.out.step b47)
          clear Y2
          have Y2 := Y2'
          clear Y2'
          have Y3' := Lib.hid (Y3.out.step b47)
          clear Y3
          have Y3 := Y3'
          clear Y3'
          have R46' := Lib.hid (R46.out.step b47)
          clear R46
          have R46 := R46'
          clear R46'
          have T47 := step T46 b47
          have Z47 := b47.size
          go_wp2_with fail
          refine (toMethodS_r A1 c1 l1 hz1 _ (by first | exact I1c.out | exact I1c.out.step (below_drew _) | exact I1c.out.step (below_alloc _ _) | exact I1c.out.step (step (below_drew _) (below_alloc _ _)) | exact I1c.out.step (step (below_alloc _ _) (below_alloc _ _)))).mono ?_
          rintro e u48 ⟨rfl, r48, d48, z48⟩
          have b48 : Below u47.heap.size u47 u48 := by first | exact d48 | exact und d48 | exact undN d48 | exact below_new d48 | exact und (below_new d48) | exact below_new (und d48) | exact below_new (below_new d48) | exact step (below_drew _) (und (below_new d48))
          have I0c' := Lib.hid (I0c.out.step b48)
          clear I0c
          have I0c := I0c'
          clear I0c'
          have I1c' := Lib.hid (I1c.out.step b48)
          clear I1c
          have I1c := I1c'
          clear I1c'
          have I2c' := Lib.hid (I2c.out.step b48)
          clear I2c
          have I2c := I2c'
          clear I2c'
          have F2c' := Lib.hid (F2c.out.step b48)
          clear F2c
          have F2c := F2c'
          clear F2c'
          have X2c' := Lib.hid (X2c.out.step b48)
          clear X2c
          have X2c := X2c'
          clear X2c'
          have VB' := Lib.hid (VB.out.step b48)
          clear VB
          have VB := VB'
          clear VB'
          have VQ' := Lib.hid (VQ.out.step b48)
          clear VQ
          have VQ := VQ'
          clear VQ'
          have Q41' := Lib.hid (Q41.out.step b48)
          clear Q41
          have Q41 := Q41'
          clear Q41'
          have Q42' := Lib.hid (Q42.out.step b48)
          clear Q42
          have Q42 := Q42'
          clear Q42'
          have Q43' := Lib.hid (Q43.out.step b48)
          clear Q43
          have Q43 := Q43'
          clear Q43'
          have G44' := Lib.hid (G44.out.step b48)
          clear G44
          have G44 := G44'
          clear G44'
          have Y2' := Lib.hid (Y2.out.step b48)
          clear Y2
          have Y2 := Y2'
          clear Y2'
          have Y3' := Lib.hid (Y3.out.step b48)
          clear Y3
          have Y3 := Y3'
          clear Y3'
          have T48 := step T47 b48
          have Z48 := b48.size
          have R48 := Lib.hid r48
          clear r48 z48
          go_wp2_with fail
          refine (eqMethodS_r _ _ _ _ l1 hz1 _ (by first | exact Q42.out.rm | exact (Q42.out.step (below_drew _)).rm | exact (Q42.out.step (below_alloc _ _)).rm | exact (Q42.out.step (step (below_drew _) (below_alloc _ _))).rm) (by first | exact R48.out | exact R48.out.step (below_drew _) | exact R48.out.step (below_alloc _ _) | exact R48.out.step (step (below_drew _) (below_alloc _ _)) | exact R48.out.step (step (below_alloc _ _) (below_alloc _ _)))).mono ?_
          rintro e u49 ⟨rfl, d49⟩
          have b49 : Below u48.heap.size u48 u49 := by first | exact d49 | exact und d49 | exact undN d49 | exact below_new d49 | exact und (below_new d49) | exact below_new (und d49) | exact below_new (below_new d49) | exact step (below_drew _) (und (below_new d49))
          have I0c' := Lib.hid (I0c.out.step b49)
          clear I0c
          have I0c := I0c'
          clear I0c'
          have I1c' := Lib.hid (I1c.out.step b49)
          clear I1c
          have I1c := I1c'
          clear I1c'
          have I2c' := Lib.hid (I2c.out.step b49)
          clear I2c
          have I2c := I2c'
          clear I2c'
          have F2c' := Lib.hid (F2c.out.step b49)
          clear F2c
          have F2c := F2c'
          clear F2c'
          have X2c' := Lib.hid (X2c.out.step b49)
          clear X2c
          have X2c := X2c'
          clear X2c'
          have VB' := Lib.hid (VB.out.step b49)
          clear VB
          have VB := VB'
          clear VB'
          have VQ' := Lib.hid (VQ.out.step b49)
          clear VQ
          have VQ := VQ'
          clear VQ'
          have Q41' := Lib.hid (Q41.out.step b49)
          clear Q41
          have Q41 := Q41'
          clear Q41'
          have Q42' := Lib.hid (Q42.out.step b49)
          clear Q42
          have Q42 := Q42'
          clear Q42'
          have Q43' := Lib.hid (Q43.out.step b49)
          clear Q43
          have Q43 := Q43'
          clear Q43'
          have G44' := Lib.hid (G44.out.step b49)
          clear G44
          have G44 := G44'
          clear G44'
          have Y2' := Lib.hid (Y2.out.step b49)
          clear Y2
          have Y2 := Y2'
          clear Y2'
          have Y3' := Lib.hid (Y3.out.step b49)
          clear Y3
          have Y3 := Y3'
          clear Y3'
          have R48' := Lib.hid (R48.out.step b49)
          clear R48
          have R48 := R48'
          clear R48'
          have T49 := step T48 b49
          have Z49 := b49.size
          have ge0 := X2c.out.cell 0
          have ge1 := X2c.out.cell 1
          simp only [List.getElem?_toArray, List.getElem?_cons_zero, List.getElem?_cons_succ] at ge0 ge1
          have gen := X2c.out.lt
          have gf0 := Y2.out.cell 0
          have gf1 := Y2.out.cell 1
          simp only [List.getElem?_toArray, List.getElem?_cons_zero, List.getElem?_cons_succ] at gf0 gf1
          have gfn := Y2.out.lt
          have tok50 : True := trivial
          have tok51 : True := trivial
          go_wp2_with fail
          go_region_held3 (fun w' => w'.cell? ⟨w.heap.size, 0, none⟩ = some (.slice H2 s2.length x2) ∧ w'.cell? ⟨w.heap.size, 1, none⟩ = some (.slice A2 l2.length c2) ∧ w'.cell? ⟨u43.heap.size, 0, none⟩ = some (.slice (some ⟨u42.heap.size + 3, 0, none⟩) s2.length s2.length) ∧ w'.cell? ⟨u43.heap.size, 1, none⟩ = some (.slice (some ⟨u42.heap.size + 3 + 1, 0, none⟩) l2.length l2.length))
            (first
              | go_keep
              | (go_split_ands; refine ⟨?_, ?_, ?_, ?_⟩ <;> (rw [d50.cell (by (try simp) <;> omega)]; assumption))
              | (go_split_ands; refine ⟨?_, ?_, ?_, ?_⟩ <;> (rw [d51.cell (by (try simp) <;> omega)]; assumption)))
            (first
              | (go_at_call 17
                 clear tok50
                 refine (toQuery_r H2 A2 x2 c2 s2 l2 hl2 hz2 _ (by first | exact I2c.out | exact I2c.out.step (below_drew _) | exact I2c.out.step (below_alloc _ _) | exact I2c.out.step (step (below_drew _) (below_alloc _ _)) | exact I2c.out.step (step (below_alloc _ _) (below_alloc _ _))) (by first | exact F2c.out | exact F2c.out.step (below_drew _) | exact F2c.out.step (below_alloc _ _) | exact F2c.out.step (step (below_drew _) (below_alloc _ _)) | exact F2c.out.step (step (below_alloc _ _) (below_alloc _ _)))).mono ?_
                 rintro e u50 ⟨rfl, r50, d50, z50⟩
                 have b50 : Below u49.heap.size u49 u50 := by first | exact d50 | exact und d50 | exact undN d50 | exact below_new d50 | exact und (below_new d50) | exact below_new (und d50) | exact below_new (below_new d50) | exact step (below_drew _) (und (below_new d50))
                 have I0c' := Lib.hid (I0c.out.step b50)
                 clear I0c
                 have I0c := I0c'
                 clear I0c'
                 have I1c' := Lib.hid (I1c.out.step b50)
                 clear I1c
                 have I1c := I1c'
                 clear I1c'
                 have I2c' := Lib.hid (I2c.out.step b50)
                 clear I2c
                 have I2c := I2c'
                 clear I2c'
                 have F2c' := Lib.hid (F2c.out.step b50)
                 clear F2c
                 have F2c := F2c'
                 clear F2c'
                 have X2c' := Lib.hid (X2c.out.step b50)
                 clear X2c
                 have X2c := X2c'
                 clear X2c'
                 have VB' := Lib.hid (VB.out.step b50)
                 clear VB
                 have VB := VB'
                 clear VB'
                 have VQ' := Lib.hid (VQ.out.step b50)
                 clear VQ
                 have VQ := VQ'
                 clear VQ'
                 have Q41' := Lib.hid (Q41.out.step b50)
                 clear Q41
                 have Q41 := Q41'
                 clear Q41'
                 have Q42' := Lib.hid (Q42.out.step b50)
                 clear Q42
                 have Q42 := Q42'
                 clear Q42'
                 have Q43' := Lib.hid (Q43.out.step b50)
                 clear Q43
                 have Q43 := Q43'
                 clear Q43'
                 have G44' := Lib.hid (G44.out.step b50)
                 clear G44
                 have G44 := G44'
                 clear G44'
                 have Y2' := Lib.hid (Y2.out.step b50)
                 clear Y2
                 have Y2 := Y2'
                 clear Y2'
                 have Y3' := Lib.hid (Y3.out.step b50)
                 clear Y3
                 have Y3 := Y3'
                 clear Y3'
                 have T50 := step T49 b50
                 have Z50 := b50.size
                 have R50 := Lib.hid r50
                 clear r50 z50)
              | (go_at_call 22
                 clear tok51
                 refine (eqQuery_b _ _ _ _ _ _ _ _ s2 l2 hl2 (by omega) _ (by first | exact Q43.out.ri | exact (Q43.out.step (below_drew _)).ri | exact (Q43.out.step (below_alloc _ _)).ri | exact (Q43.out.step (step (below_drew _) (below_alloc _ _))).ri) (by first | exact Q43.out.rf | exact (Q43.out.step (below_drew _)).rf | exact (Q43.out.step (below_alloc _ _)).rf | exact (Q43.out.step (step (below_drew _) (below_alloc _ _))).rf) (by first | exact R50.out.ri | exact (R50.out.step (below_drew _)).ri | exact (R50.out.step (below_alloc _ _)).ri | exact (R50.out.step (step (below_drew _) (below_alloc _ _))).ri) (by first | exact R50.out.rf | exact (R50.out.step (below_drew _)).rf | exact (R50.out.step (below_alloc _ _)).rf | exact (R50.out.step (step (below_drew _) (below_alloc _ _))).rf)).mono ?_
                 rintro e u51 ⟨rfl, d51⟩
                 have b51 : Below u50.heap.size u50 u51 := by first | exact d51 | exact und d51 | exact undN d51 | exact below_new d51 | exact und (below_new d51) | exact below_new (und d51) | exact below_new (below_new d51) | exact step (below_drew _) (und (below_new d51))
                 have I0c' := Lib.hid (I0c.out.step b51)
                 clear I0c
                 have I0c := I0c'
                 clear I0c'
                 have I1c' := Lib.hid (I1c.out.step b51)
                 clear I1c
                 have I1c := I1c'
                 clear I1c'
                 have I2c' := Lib.hid (I2c.out.step b51)
                 clear I2c
                 have I2c := I2c'
                 clear I2c'
                 have F2c' := Lib.hid (F2c.out.step b51)
                 clear F2c
                 have F2c := F2c'
                 clear F2c'
                 have X2c' := Lib.hid (X2c.out.step b51)
                 clear X2c
                 have X2c := X2c'
                 clear X2c'
                 have VB' := Lib.hid (VB.out.step b51)
                 clear VB
                 have VB := VB'
                 clear VB'
                 have VQ' := Lib.hid (VQ.out.step b51)
                 clear VQ
                 have VQ := VQ'
                 clear VQ'
                 have Q41' := Lib.hid (Q41.out.step b51)
                 clear Q41
                 have Q41 := Q41'
                 clear Q41'
                 have Q42' := Lib.hid (Q42.out.step b51)
                 clear Q42
                 have Q42 := Q42'
                 clear Q42'
                 have Q43' := Lib.hid (Q43.out.step b51)
                 clear Q43
                 have Q43 := Q43'
                 clear Q43'
                 have G44' := Lib.hid (G44.out.step b51)
                 clear G44
                 have G44 := G44'
                 clear G44'
                 have Y2' := Lib.hid (Y2.out.step b51)
                 clear Y2
                 have Y2 := Y2'
                 clear Y2'
                 have Y3' := Lib.hid (Y3.out.step b51)
                 clear Y3
                 have Y3 := Y3'
                 clear Y3'
                 have R50' := Lib.hid (R50.out.step b51)
                 clear R50
                 have R50 := R50'
                 clear R50'
                 have T51 := step T50 b51
                 have Z51 := b51.size))
          have y3l := Y3.out.lt
          have ql := Q43.out.lt
          have ple : u43.heap.size + 1 ≤ u44.heap.size := y44
          have wz : w.heap.size ≤ w8.heap.size := by omega
          go_wp2_with fail
          refine (markIntS_any (some ⟨w8.heap.size, 0, none⟩) w8.heap.size s0.length s0.length s0.length 1 _ hl0 (by omega) (by omega) (fun i => .int .i64 (s0.getD i 0)) (fun _ => rfl) (Nat.le_refl _) (fun _ => (by first | exact Q41.out | exact Q41.out.step (below_drew _)))).mono ?_
          rintro e v0 ⟨rfl, W0, _⟩
          have sv0 : v0.heap.size = u51.heap.size := W0.size
          have VQa := Lib.hid (VQ.out.keep (w' := v0) (fun b h2 => W0.block b (.inl h2)) (by omega))
          have VBa := Lib.hid (show Box v0 g8 _ _ from (W0.block _ (.inl vl8)).trans VB.out)
          have PIa := Lib.hid (G44.out.keep (w' := v0) (fun b h1 _ => W0.block b (.inr (by omega))) (by omega))
          have Y3a := Lib.hid (show Box v0 u44.heap.size _ _ from (W0.block _ (.inr (by omega))).trans Y3.out)
          have Qma := Lib.hid (Q42.out.keep (w' := v0) (fun b h1 _ => W0.block b (.inr (by omega))) (by omega))
          have Qqa := Lib.hid (Q43.out.keep (w' := v0) (fun b h1 _ => W0.block b (.inr (by omega))) (by omega))
          have Y2a := Lib.hid (show Box v0 u43.heap.size _ _ from (W0.block _ (.inr (by omega))).trans Y2.out)
          have X2a := Lib.hid (show Box v0 w.heap.size _ _ from (W0.block _ (.inl (by omega))).trans X2c.out)
          have TA := Lib.hid (T51.trans (W0.below.mono wz))
          clear W0 VQ VB G44 Q42 Q43 Y2 Y3 X2c Q41
          go_wp2_with fail
          refine (markMethodS_any u41.heap.size u42.heap.size u41.heap.size (l1.length * 5) _ (1 + (s0.length : Int)) l1 hz1 (by omega) (by omega) (Nat.le_refl _) _ Qma.out.1).mono ?_
          rintro e v1 ⟨rfl, W1⟩
          have sv1 : v1.heap.size = v0.heap.size := W1.size
          have VQb := Lib.hid (VQa.out.keep (w' := v1) (fun b h2 => W1.block b (.inl (by omega))) (by omega))
          have VBb := Lib.hid (show Box v1 g8 _ _ from (W1.block _ (.inl (by omega))).trans VBa.out)
          have PIb := Lib.hid (PIa.out.keep (w' := v1) (fun b h1 _ => W1.block b (.inr (by omega))) (by omega))
          have Y3b := Lib.hid (show Box v1 u44.heap.size _ _ from (W1.block _ (.inr (by omega))).trans Y3a.out)
          have Qqb := Lib.hid (Qqa.out.keep (w' := v1) (fun b h1 _ => W1.block b (.inr (by omega))) (by omega))
          have Y2b := Lib.hid (show Box v1 u43.heap.size _ _ from (W1.block _ (.inr (by omega))).trans Y2a.out)
          have X2b := Lib.hid (show Box v1 w.heap.size _ _ from (W1.block _ (.inl (by omega))).trans X2a.out)
          have TB := Lib.hid (TA.out.trans (W1.below.mono (by omega)))
          have OM := offM_rng (1 + (s0.length : Int)) l1 l1.length (Nat.le_refl _)
          generalize offM (1 + (s0.length : Int)) l1 l1.length = om at OM
          obtain ⟨om0, om1⟩ := OM
          have gg0 := Y2b.out.cell 0
          have gg1 := Y2b.out.cell 1
          simp only [List.getElem?_toArray, List.getElem?_cons_zero, List.getElem?_cons_succ] at gg0 gg1
          clear W1 VQa VBa PIa Y3a Qma Qqa Y2a X2a TA
          go_wp2_with fail
          refine (markQuery_o (u42.heap.size + 3) (u42.heap.size + 3 + 1) u43.heap.size _ _ _ _ s2 l2 om (by omega) (by omega) hzq _ (by first | exact Qqb.out.qo hl2 | exact (Qqb.out.step (below_drew _)).qo hl2)).mono ?_
          rintro e v2 ⟨rfl, M2, _⟩
          have sv2 : v1.heap.size ≤ v2.heap.size := M2.below.size
          have VQc := Lib.hid (VQb.out.keep (w' := v2) (fun b h2 => M2.keep (.inl (by omega)) (by omega)) sv2)
          have VBc := Lib.hid (show Box v2 g8 _ _ from (M2.keep (.inl (by omega)) VBb.out.lt).trans VBb.out)
          have PIc := Lib.hid (PIb.out.keep (w' := v2) (fun b h1 h2 => M2.keep (.inr (by omega)) (by omega)) sv2)
          have Y3c := Lib.hid (show Box v2 u44.heap.size _ _ from (M2.keep (.inr (by omega)) Y3b.out.lt).trans Y3b.out)
          have X2c := Lib.hid (show Box v2 w.heap.size _ _ from (M2.keep (.inl (by omega)) X2b.out.lt).trans X2b.out)
          have TC := Lib.hid (TB.out.trans (M2.below.mono (by omega)))
          have hk2 : 0 ≤ om + szQ s2 l2 := by omega
          have hk2' : ¬ (om + szQ s2 l2 < 0) := by omega
          clear M2 VQb VBb PIb Y3b Qqb Y2b X2b TB gg0 gg1
          have ha0 := Y3c.out.cell 0
          have ha1 := Y3c.out.cell 1
          simp only [List.getElem?_toArray, List.getElem?_cons_zero, List.getElem?_cons_succ] at ha0 ha1
          have han := Y3c.out.lt
          have hb0 := VBc.out.cell 0
          have hb1 := VBc.out.cell 1
          simp only [List.getElem?_toArray, List.getElem?_cons_zero, List.getElem?_cons_succ] at hb0 hb1
          have hbn := VBc.out.lt
          go_wp2_with fail
          refine (eqQuery_b _ _ _ _ _ _ _ _ rh rf hrl hrz _ (by first | exact PIc.out.ri | exact (PIc.out.step (below_drew _)).ri | exact (PIc.out.step (below_alloc _ _)).ri | exact (PIc.out.step (step (below_drew _) (below_alloc _ _))).ri) (by first | exact PIc.out.rf | exact (PIc.out.step (below_drew _)).rf | exact (PIc.out.step (below_alloc _ _)).rf | exact (PIc.out.step (step (below_drew _) (below_alloc _ _))).rf) (by first | exact VQc.out.ri | exact (VQc.out.step (below_drew _)).ri | exact (VQc.out.step (below_alloc _ _)).ri | exact (VQc.out.step (step (below_drew _) (below_alloc _ _))).ri) (by first | exact VQc.out.rf | exact (VQc.out.step (below_drew _)).rf | exact (VQc.out.step (below_alloc _ _)).rf | exact (VQc.out.step (step (below_drew _) (below_alloc _ _))).rf)).mono ?_
          rintro e u61 ⟨rfl, d61⟩
          have b61 : Below v2.heap.size v2 u61 := by first | exact d61 | exact und d61 | exact undN d61 | exact below_new d61 | exact und (below_new d61) | exact below_new (und d61) | exact below_new (below_new d61) | exact step (below_drew _) (und (below_new d61))
          have VQc' := Lib.hid (VQc.out.step b61)
          clear VQc
          have VQc := VQc'
          clear VQc'
          have VBc' := Lib.hid (VBc.out.step b61)
          clear VBc
          have VBc := VBc'
          clear VBc'
          have PIc' := Lib.hid (PIc.out.step b61)
          clear PIc
          have PIc := PIc'
          clear PIc'
          have Y3c' := Lib.hid (Y3c.out.step b61)
          clear Y3c
          have Y3c := Y3c'
          clear Y3c'
          have X2c' := Lib.hid (X2c.out.step b61)
          clear X2c
          have X2c := X2c'
          clear X2c'
          have T61 := step TC.out b61
          have Z61 := b61.size
          have hc0 := Y3c.out.cell 0
          have hc1 := Y3c.out.cell 1
          simp only [List.getElem?_toArray, List.getElem?_cons_zero, List.getElem?_cons_succ] at hc0 hc1
          have hcn := Y3c.out.lt
          go_wp2_with fail
          refine (markQuery_y (u43.heap.size + 1) u44.heap.size _ _ _ _ rh rf hrq _ (by first | exact PIc.out | exact PIc.out.step (below_drew _))).mono ?_
          rintro e v3 ⟨rfl, M3, N3⟩
          have sv3 : u61.heap.size ≤ v3.heap.size := M3.below.size
          have VQd := Lib.hid (VQc.out.keep (w' := v3) (fun b h2 => M3.keep (.inl (by omega)) (by omega)) sv3)
          have VBd := Lib.hid (show Box v3 g8 _ _ from (M3.keep (.inl (by omega)) VBc.out.lt).trans VBc.out)
          have Y3d := Lib.hid (show Box v3 u44.heap.size _ _ from (M3.keep (.inr (Nat.le_refl _)) Y3c.out.lt).trans Y3c.out)
          have X2d := Lib.hid (show Box v3 w.heap.size _ _ from (M3.keep (.inl (by omega)) X2c.out.lt).trans X2c.out)
          have NN := Lib.hid N3
          have TD := Lib.hid (T61.trans (M3.below.mono (by omega)))
          have I0v := Lib.hid ((show RI w A0 s0 from I0w.out).step TD.out)
          have I1v := Lib.hid ((show RM w A1 l1 from I1w.out).step TD.out)
          have I2v := Lib.hid ((show RI w H2 s2 from I2w.out.1).step TD.out)
          have F2v := Lib.hid ((show RF w A2 l2 from I2w.out.2).step TD.out)
          have hm2 : 0 ≤ 1 + szQ rh rf := by omega
          have hm3 : ¬ (1 + szQ rh rf < 0) := by omega
          clear M3 N3 VQc VBc PIc Y3c X2c TC I0c I1c I2c F2c
          have ia0 := Y3d.out.cell 0
          have ia1 := Y3d.out.cell 1
          simp only [List.getElem?_toArray, List.getElem?_cons_zero, List.getElem?_cons_succ] at ia0 ia1
          have ian := Y3d.out.lt
          go_wp2_with fail
          refine (heldQuery_o _ _ _ _ rh rf 1 (by omega) (by omega) hrq _ (by first | exact NN.out.ri | exact (NN.out.step (below_drew _)).ri | exact (NN.out.step (below_alloc _ _)).ri | exact (NN.out.step (step (below_drew _) (below_alloc _ _))).ri) (by first | exact NN.out.rf | exact (NN.out.step (below_drew _)).rf | exact (NN.out.step (below_alloc _ _)).rf | exact (NN.out.step (step (below_drew _) (below_alloc _ _))).rf)).mono ?_
          rintro e u71 ⟨rfl, d71⟩
          have b71 : Below v3.heap.size v3 u71 := by first | exact d71 | exact und d71 | exact undN d71 | exact below_new d71 | exact und (below_new d71) | exact below_new (und d71) | exact below_new (below_new d71) | exact step (below_drew _) (und (below_new d71))
          have VQd' := Lib.hid (VQd.out.step b71)
          clear VQd
          have VQd := VQd'
          clear VQd'
          have VBd' := Lib.hid (VBd.out.step b71)
          clear VBd
          have VBd := VBd'
          clear VBd'
          have Y3d' := Lib.hid (Y3d.out.step b71)
          clear Y3d
          have Y3d := Y3d'
          clear Y3d'
          have X2d' := Lib.hid (X2d.out.step b71)
          clear X2d
          have X2d := X2d'
          clear X2d'
          have NN' := Lib.hid (NN.out.step b71)
          clear NN
          have NN := NN'
          clear NN'
          have I0v' := Lib.hid (I0v.out.step b71)
          clear I0v
          have I0v := I0v'
          clear I0v'
          have I1v' := Lib.hid (I1v.out.step b71)
          clear I1v
          have I1v := I1v'
          clear I1v'
          have I2v' := Lib.hid (I2v.out.step b71)
          clear I2v
          have I2v := I2v'
          clear I2v'
          have F2v' := Lib.hid (F2v.out.step b71)
          clear F2v
          have F2v := F2v'
          clear F2v'
          have T71 := step TD.out b71
          have Z71 := b71.size
          have ib0 := X2d.out.cell 0
          have ib1 := X2d.out.cell 1
          simp only [List.getElem?_toArray, List.getElem?_cons_zero, List.getElem?_cons_succ] at ib0 ib1
          have ibn := X2d.out.lt
          go_wp2_with fail
          go_cut [18, 19] from 20 (fun s8 s9 wx => ∃ (g8 : Nat) (Hx Ax : Option Addr) (kx cx : Nat), s8 = .pointer (some ⟨g8, 0, none⟩) ∧ s9 = .bool rb ∧ Hid (Box wx g8 #[.slice Hx rh.length kx, .slice Ax rf.length cx] 37) ∧ Hid (QV wx wx.heap.size Hx Ax rh rf) ∧ Hid (Below u71.heap.size u71 wx) ∧ u71.heap.size ≤ g8)
          case first =>
            have ga_0 := X2d.out.cell 0
            have ga_1 := X2d.out.cell 1
            simp only [List.getElem?_toArray, List.getElem?_cons_zero, List.getElem?_cons_succ] at ga_0 ga_1
            have ga_n := X2d.out.lt
            have tok72 : True := trivial
            have tok73 : True := trivial
            have tok74 : True := trivial
            have tok75 : True := trivial
            go_region_held3 (fun w' => w'.cell? ⟨w.heap.size, 0, none⟩ = some (.slice H2 s2.length x2) ∧ w'.cell? ⟨w.heap.size, 1, none⟩ = some (.slice A2 l2.length c2))
              (first
                | go_keep
                | (go_split_ands; refine ⟨?_, ?_⟩ <;> (rw [d72.cell (by (try simp) <;> omega)]; assumption))
                | (go_split_ands; refine ⟨?_, ?_⟩ <;> (rw [d73.cell (by (try simp) <;> omega)]; assumption))
                | (go_split_ands; refine ⟨?_, ?_⟩ <;> (rw [d74.cell (by (try simp) <;> omega)]; assumption))
                | (go_split_ands; refine ⟨?_, ?_⟩ <;> (rw [d75.cell (by (try simp) <;> omega)]; assumption))
                | (exact ⟨((below_alloc u75 _).cell (p := ⟨w.heap.size, 0, none⟩) (by (try simp) <;> omega)).trans k075, ((below_alloc u75 _).cell (p := ⟨w.heap.size, 1, none⟩) (by (try simp) <;> omega)).trans k175⟩)
                | (exact ⟨((Below.setCell (p := ⟨u71.heap.size, 1, none⟩) (Below.setCell (p := ⟨u71.heap.size, 0, none⟩) (Below.refl u71.heap.size u75) (Nat.le_refl _) _) (Nat.le_refl _) _).cell (p := ⟨w.heap.size, 0, none⟩) (by (try simp) <;> omega)).trans k075, ((Below.setCell (p := ⟨u71.heap.size, 1, none⟩) (Below.setCell (p := ⟨u71.heap.size, 0, none⟩) (Below.refl u71.heap.size u75) (Nat.le_refl _) _) (Nat.le_refl _) _).cell (p := ⟨w.heap.size, 1, none⟩) (by (try simp) <;> omega)).trans k175⟩)
                | (exact ⟨((Below.setCell (p := ⟨u72.heap.size, 1, none⟩) (Below.setCell (p := ⟨u72.heap.size, 0, none⟩) (Below.refl u72.heap.size u75) (Nat.le_refl _) _) (Nat.le_refl _) _).cell (p := ⟨w.heap.size, 0, none⟩) (by (try simp) <;> omega)).trans k075, ((Below.setCell (p := ⟨u72.heap.size, 1, none⟩) (Below.setCell (p := ⟨u72.heap.size, 0, none⟩) (Below.refl u72.heap.size u75) (Nat.le_refl _) _) (Nat.le_refl _) _).cell (p := ⟨w.heap.size, 1, none⟩) (by (try simp) <;> omega)).trans k175⟩)
                | (exact ⟨((Below.setCell (p := ⟨u73.heap.size, 1, none⟩) (Below.setCell (p := ⟨u73.heap.size, 0, none⟩) (Below.refl u73.heap.size u75) (Nat.le_refl _) _) (Nat.le_refl _) _).cell (p := ⟨w.heap.size, 0, none⟩) (by (try simp) <;> omega)).trans k075, ((Below.setCell (p := ⟨u73.heap.size, 1, none⟩) (Below.setCell (p := ⟨u73.heap.size, 0, none⟩) (Below.refl u73.heap.size u75) (Nat.le_refl _) _) (Nat.le_refl _) _).cell (p := ⟨w.heap.size, 1, none⟩) (by (try simp) <;> omega)).trans k175⟩)
                | (exact ⟨((Below.setCell (p := ⟨u74.heap.size, 1, none⟩) (Below.setCell (p := ⟨u74.heap.size, 0, none⟩) (Below.refl u74.heap.size u75) (Nat.le_refl _) _) (Nat.le_refl _) _).cell (p := ⟨w.heap.size, 0, none⟩) (by (try simp) <;> omega)).trans k075, ((Below.setCell (p := ⟨u74.heap.size, 1, none⟩) (Below.setCell (p := ⟨u74.heap.size, 0, none⟩) (Below.refl u74.heap.size u75) (Nat.le_refl _) _) (Nat.le_refl _) _).cell (p := ⟨w.heap.size, 1, none⟩) (by (try simp) <;> omega)).trans k175⟩))
              (first
                | (go_at_call 15
                   clear tok72
                   refine (toIntS_r A0 c0 s0 hl0 _ (by first | exact I0v.out | exact I0v.out.step (below_drew _) | exact I0v.out.step (below_alloc _ _) | exact I0v.out.step (step (below_drew _) (below_alloc _ _)) | exact I0v.out.step (step (below_alloc _ _) (below_alloc _ _)))).mono ?_
                   rintro e u72 ⟨rfl, r72, d72, z72⟩
                   have b72 : Below u71.heap.size u71 u72 := by first | exact d72 | exact und d72 | exact undN d72 | exact below_new d72 | exact und (below_new d72) | exact below_new (und d72) | exact below_new (below_new d72) | exact step (below_drew _) (und (below_new d72))
                   have VQd' := Lib.hid (VQd.out.step b72)
                   clear VQd
                   have VQd := VQd'
                   clear VQd'
                   have VBd' := Lib.hid (VBd.out.step b72)
                   clear VBd
                   have VBd := VBd'
                   clear VBd'
                   have Y3d' := Lib.hid (Y3d.out.step b72)
                   clear Y3d
                   have Y3d := Y3d'
                   clear Y3d'
                   have X2d' := Lib.hid (X2d.out.step b72)
                   clear X2d
                   have X2d := X2d'
                   clear X2d'
                   have NN' := Lib.hid (NN.out.step b72)
                   clear NN
                   have NN := NN'
                   clear NN'
                   have I0v' := Lib.hid (I0v.out.step b72)
                   clear I0v
                   have I0v := I0v'
                   clear I0v'
                   have I1v' := Lib.hid (I1v.out.step b72)
                   clear I1v
                   have I1v := I1v'
                   clear I1v'
                   have I2v' := Lib.hid (I2v.out.step b72)
                   clear I2v
                   have I2v := I2v'
                   clear I2v'
                   have F2v' := Lib.hid (F2v.out.step b72)
                   clear F2v
                   have F2v := F2v'
                   clear F2v'
                   have T72 := b72
                   have Z72 := b72.size
                   (try (have PB := Lib.hid (show Box u72 u71.heap.size #[.slice none 0 0, .slice none 0 0] 37 from (by first | exact Box.of_new d72 | exact Box.of_new (und d72) | exact Box.of_new (undN d72)))))
                   (try (have pl72 := PB.out.lt))
                   (try rw [show (u71.alloc (.cells #[.slice none 0 0, .slice none 0 0] 37)).heap.size = u71.heap.size + 1 by rw [al_size]] at r72)
                   (try rw [show (u71.alloc (.cells #[.slice none 0 0, .slice none 0 0] 37)).drew.heap.size = u71.heap.size + 1 by show (u71.alloc (.cells #[.slice none 0 0, .slice none 0 0] 37)).heap.size = _; rw [al_size]] at r72)
                   (try rw [show (u71.drew.alloc (.cells #[.slice none 0 0, .slice none 0 0] 37)).heap.size = u71.heap.size + 1 by rw [al_size]; rfl] at r72)
                   have R72 := Lib.hid r72.ri
                   clear r72 z72)
                | (go_at_call 16
                   clear tok73
                   refine (toMethodS_r A1 c1 l1 hz1 _ (by first | exact I1v.out | exact I1v.out.step (below_drew _) | exact I1v.out.step (below_alloc _ _) | exact I1v.out.step (step (below_drew _) (below_alloc _ _)) | exact I1v.out.step (step (below_alloc _ _) (below_alloc _ _)))).mono ?_
                   rintro e u73 ⟨rfl, r73, d73, z73⟩
                   have b73 : Below u72.heap.size u72 u73 := by first | exact d73 | exact und d73 | exact undN d73 | exact below_new d73 | exact und (below_new d73) | exact below_new (und d73) | exact below_new (below_new d73) | exact step (below_drew _) (und (below_new d73))
                   have VQd' := Lib.hid (VQd.out.step b73)
                   clear VQd
                   have VQd := VQd'
                   clear VQd'
                   have VBd' := Lib.hid (VBd.out.step b73)
                   clear VBd
                   have VBd := VBd'
                   clear VBd'
                   have Y3d' := Lib.hid (Y3d.out.step b73)
                   clear Y3d
                   have Y3d := Y3d'
                   clear Y3d'
                   have X2d' := Lib.hid (X2d.out.step b73)
                   clear X2d
                   have X2d := X2d'
                   clear X2d'
                   have NN' := Lib.hid (NN.out.step b73)
                   clear NN
                   have NN := NN'
                   clear NN'
                   have I0v' := Lib.hid (I0v.out.step b73)
                   clear I0v
                   have I0v := I0v'
                   clear I0v'
                   have I1v' := Lib.hid (I1v.out.step b73)
                   clear I1v
                   have I1v := I1v'
                   clear I1v'
                   have I2v' := Lib.hid (I2v.out.step b73)
                   clear I2v
                   have I2v := I2v'
                   clear I2v'
                   have F2v' := Lib.hid (F2v.out.step b73)
                   clear F2v
                   have F2v := F2v'
                   clear F2v'
                   have R72' := Lib.hid (R72.out.step b73)
                   clear R72
                   have R72 := R72'
                   clear R72'
                   have T73 := step T72 b73
                   have Z73 := b73.size
                   (try (have PBn := Lib.hid (PB.out.step b73); clear PB; have PB := PBn; clear PBn))
                   (try (have PB := Lib.hid (show Box u73 u72.heap.size #[.slice none 0 0, .slice none 0 0] 37 from (by first | exact Box.of_new d73 | exact Box.of_new (und d73) | exact Box.of_new (undN d73)))))
                   (try (have pl73 := PB.out.lt))
                   (try rw [show (u72.alloc (.cells #[.slice none 0 0, .slice none 0 0] 37)).heap.size = u72.heap.size + 1 by rw [al_size]] at r73)
                   (try rw [show (u72.alloc (.cells #[.slice none 0 0, .slice none 0 0] 37)).drew.heap.size = u72.heap.size + 1 by show (u72.alloc (.cells #[.slice none 0 0, .slice none 0 0] 37)).heap.size = _; rw [al_size]] at r73)
                   (try rw [show (u72.drew.alloc (.cells #[.slice none 0 0, .slice none 0 0] 37)).heap.size = u72.heap.size + 1 by rw [al_size]; rfl] at r73)
                   have R73 := Lib.hid r73
                   clear r73 z73)
                | (go_at_call 17
                   clear tok74
                   refine (toQuery_r H2 A2 x2 c2 s2 l2 hl2 hz2 _ (by first | exact I2v.out | exact I2v.out.step (below_drew _) | exact I2v.out.step (below_alloc _ _) | exact I2v.out.step (step (below_drew _) (below_alloc _ _)) | exact I2v.out.step (step (below_alloc _ _) (below_alloc _ _))) (by first | exact F2v.out | exact F2v.out.step (below_drew _) | exact F2v.out.step (below_alloc _ _) | exact F2v.out.step (step (below_drew _) (below_alloc _ _)) | exact F2v.out.step (step (below_alloc _ _) (below_alloc _ _)))).mono ?_
                   rintro e u74 ⟨rfl, r74, d74, z74⟩
                   have b74 : Below u73.heap.size u73 u74 := by first | exact d74 | exact und d74 | exact undN d74 | exact below_new d74 | exact und (below_new d74) | exact below_new (und d74) | exact below_new (below_new d74) | exact step (below_drew _) (und (below_new d74))
                   have VQd' := Lib.hid (VQd.out.step b74)
                   clear VQd
                   have VQd := VQd'
                   clear VQd'
                   have VBd' := Lib.hid (VBd.out.step b74)
                   clear VBd
                   have VBd := VBd'
                   clear VBd'
                   have Y3d' := Lib.hid (Y3d.out.step b74)
                   clear Y3d
                   have Y3d := Y3d'
                   clear Y3d'
                   have X2d' := Lib.hid (X2d.out.step b74)
                   clear X2d
                   have X2d := X2d'
                   clear X2d'
                   have NN' := Lib.hid (NN.out.step b74)
                   clear NN
                   have NN := NN'
                   clear NN'
                   have I0v' := Lib.hid (I0v.out.step b74)
                   clear I0v
                   have I0v := I0v'
                   clear I0v'
                   have I1v' := Lib.hid (I1v.out.step b74)
                   clear I1v
                   have I1v := I1v'
                   clear I1v'
                   have I2v' := Lib.hid (I2v.out.step b74)
                   clear I2v
                   have I2v := I2v'
                   clear I2v'
                   have F2v' := Lib.hid (F2v.out.step b74)
                   clear F2v
                   have F2v := F2v'
                   clear F2v'
                   have R72' := Lib.hid (R72.out.step b74)
                   clear R72
                   have R72 := R72'
                   clear R72'
                   have R73' := Lib.hid (R73.out.step b74)
                   clear R73
                   have R73 := R73'
                   clear R73'
                   have T74 := step T73 b74
                   have Z74 := b74.size
                   (try (have PBn := Lib.hid (PB.out.step b74); clear PB; have PB := PBn; clear PBn))
                   (try (have PB := Lib.hid (show Box u74 u73.heap.size #[.slice none 0 0, .slice none 0 0] 37 from (by first | exact Box.of_new d74 | exact Box.of_new (und d74) | exact Box.of_new (undN d74)))))
                   (try (have pl74 := PB.out.lt))
                   (try rw [show (u73.alloc (.cells #[.slice none 0 0, .slice none 0 0] 37)).heap.size = u73.heap.size + 1 by rw [al_size]] at r74)
                   (try rw [show (u73.alloc (.cells #[.slice none 0 0, .slice none 0 0] 37)).drew.heap.size = u73.heap.size + 1 by show (u73.alloc (.cells #[.slice none 0 0, .slice none 0 0] 37)).heap.size = _; rw [al_size]] at r74)
                   (try rw [show (u73.drew.alloc (.cells #[.slice none 0 0, .slice none 0 0] 37)).heap.size = u73.heap.size + 1 by rw [al_size]; rfl] at r74)
                   have R74 := Lib.hid r74
                   clear r74 z74)
                | (go_at_call 41
                   clear tok75
                   refine (CI.out _ _ _ _ _ _ _ _ _ (by first | exact R72.out | exact R72.out.step (below_drew _) | exact R72.out.step (below_alloc _ _) | exact R72.out.step (step (below_drew _) (below_alloc _ _)) | exact R72.out.step (step (below_alloc _ _) (below_alloc _ _))) (by first | exact R73.out | exact R73.out.step (below_drew _) | exact R73.out.step (below_alloc _ _) | exact R73.out.step (step (below_drew _) (below_alloc _ _)) | exact R73.out.step (step (below_alloc _ _) (below_alloc _ _))) (by first | exact R74.out.ri | exact (R74.out.step (below_drew _)).ri | exact (R74.out.step (below_alloc _ _)).ri | exact (R74.out.step (step (below_drew _) (below_alloc _ _))).ri) (by first | exact R74.out.rf | exact (R74.out.step (below_drew _)).rf | exact (R74.out.step (below_alloc _ _)).rf | exact (R74.out.step (step (below_drew _) (below_alloc _ _))).rf)).mono ?_
                   rintro e u75 ⟨H75, A75, ch75, c75, rfl, r75, d75⟩
                   have b75 : Below u74.heap.size u74 u75 := by first | exact d75 | exact und d75 | exact undN d75 | exact below_new d75 | exact und (below_new d75) | exact below_new (und d75) | exact below_new (below_new d75) | exact step (below_drew _) (und (below_new d75))
                   have VQd' := Lib.hid (VQd.out.step b75)
                   clear VQd
                   have VQd := VQd'
                   clear VQd'
                   have VBd' := Lib.hid (VBd.out.step b75)
                   clear VBd
                   have VBd := VBd'
                   clear VBd'
                   have Y3d' := Lib.hid (Y3d.out.step b75)
                   clear Y3d
                   have Y3d := Y3d'
                   clear Y3d'
                   have X2d' := Lib.hid (X2d.out.step b75)
                   clear X2d
                   have X2d := X2d'
                   clear X2d'
                   have NN' := Lib.hid (NN.out.step b75)
                   clear NN
                   have NN := NN'
                   clear NN'
                   have I0v' := Lib.hid (I0v.out.step b75)
                   clear I0v
                   have I0v := I0v'
                   clear I0v'
                   have I1v' := Lib.hid (I1v.out.step b75)
                   clear I1v
                   have I1v := I1v'
                   clear I1v'
                   have I2v' := Lib.hid (I2v.out.step b75)
                   clear I2v
                   have I2v := I2v'
                   clear I2v'
                   have F2v' := Lib.hid (F2v.out.step b75)
                   clear F2v
                   have F2v := F2v'
                   clear F2v'
                   have R72' := Lib.hid (R72.out.step b75)
                   clear R72
                   have R72 := R72'
                   clear R72'
                   have R73' := Lib.hid (R73.out.step b75)
                   clear R73
                   have R73 := R73'
                   clear R73'
                   have R74' := Lib.hid (R74.out.step b75)
                   clear R74
                   have R74 := R74'
                   clear R74'
                   have T75 := step T74 b75
                   have Z75 := b75.size
                   (try (have PBn := Lib.hid (PB.out.step b75); clear PB; have PB := PBn; clear PBn))
                   (try (have PB := Lib.hid (show Box u75 u74.heap.size #[.slice none 0 0, .slice none 0 0] 37 from (by first | exact Box.of_new d75 | exact Box.of_new (und d75) | exact Box.of_new (undN d75)))))
                   (try (have pl75 := PB.out.lt))
                   have QX := Lib.hid r75
                   clear r75
                   (try (have p0 := PB.out.cell 0))
                   (try (have p1 := PB.out.cell 1))
                   (try (have p2 := PB.out.frozen 0))
                   (try (have p3 := PB.out.frozen 1))
                   (try (simp only [List.getElem?_toArray, List.getElem?_cons_zero, List.getElem?_cons_succ] at p0 p1))
                   have k075 := (T75.cell (p := ⟨w.heap.size, 0, none⟩) (by (try simp) <;> omega)).trans ga_0
                   have k175 := (T75.cell (p := ⟨w.heap.size, 1, none⟩) (by (try simp) <;> omega)).trans ga_1))
            all_goals
              go_wp2
              go_meet
              case rel =>
                first
                  | (have pb := show Box u75 u71.heap.size #[.slice none 0 0, .slice none 0 0] 37 from PB.out
                     have plt := pb.lt
                     refine ⟨u71.heap.size, H75, A75, ch75, c75, rfl, rfl, Lib.hid (show Box ((u75.setCell ⟨u71.heap.size, 0, none⟩ (.slice H75 rh.length ch75)).setCell ⟨u71.heap.size, 1, none⟩ (.slice A75 rf.length c75)) u71.heap.size _ _ from by simpa using (pb.set 0 (.slice H75 rh.length ch75)).set 1 (.slice A75 rf.length c75)), Lib.hid ?_, Lib.hid (T75.trans ((Below.setCell (p := ⟨u71.heap.size, 1, none⟩) (Below.setCell (p := ⟨u71.heap.size, 0, none⟩) (Below.refl u71.heap.size u75) (Nat.le_refl _) _) (Nat.le_refl _) _).mono (by omega))), by omega⟩
                     exact (QY.set2 (g := u71.heap.size) QX.out (by (try simp) <;> omega)).qv)
                  | (have pb := show Box u75 u72.heap.size #[.slice none 0 0, .slice none 0 0] 37 from PB.out
                     have plt := pb.lt
                     refine ⟨u72.heap.size, H75, A75, ch75, c75, rfl, rfl, Lib.hid (show Box ((u75.setCell ⟨u72.heap.size, 0, none⟩ (.slice H75 rh.length ch75)).setCell ⟨u72.heap.size, 1, none⟩ (.slice A75 rf.length c75)) u72.heap.size _ _ from by simpa using (pb.set 0 (.slice H75 rh.length ch75)).set 1 (.slice A75 rf.length c75)), Lib.hid ?_, Lib.hid (T75.trans ((Below.setCell (p := ⟨u72.heap.size, 1, none⟩) (Below.setCell (p := ⟨u72.heap.size, 0, none⟩) (Below.refl u72.heap.size u75) (Nat.le_refl _) _) (Nat.le_refl _) _).mono (by omega))), by omega⟩
                     exact (QY.set2 (g := u72.heap.size) QX.out (by (try simp) <;> omega)).qv)
                  | (have pb := show Box u75 u73.heap.size #[.slice none 0 0, .slice none 0 0] 37 from PB.out
                     have plt := pb.lt
                     refine ⟨u73.heap.size, H75, A75, ch75, c75, rfl, rfl, Lib.hid (show Box ((u75.setCell ⟨u73.heap.size, 0, none⟩ (.slice H75 rh.length ch75)).setCell ⟨u73.heap.size, 1, none⟩ (.slice A75 rf.length c75)) u73.heap.size _ _ from by simpa using (pb.set 0 (.slice H75 rh.length ch75)).set 1 (.slice A75 rf.length c75)), Lib.hid ?_, Lib.hid (T75.trans ((Below.setCell (p := ⟨u73.heap.size, 1, none⟩) (Below.setCell (p := ⟨u73.heap.size, 0, none⟩) (Below.refl u73.heap.size u75) (Nat.le_refl _) _) (Nat.le_refl _) _).mono (by omega))), by omega⟩
                     exact (QY.set2 (g := u73.heap.size) QX.out (by (try simp) <;> omega)).qv)
                  | (have pb := show Box u75 u74.heap.size #[.slice none 0 0, .slice none 0 0] 37 from PB.out
                     have plt := pb.lt
                     refine ⟨u74.heap.size, H75, A75, ch75, c75, rfl, rfl, Lib.hid (show Box ((u75.setCell ⟨u74.heap.size, 0, none⟩ (.slice H75 rh.length ch75)).setCell ⟨u74.heap.size, 1, none⟩ (.slice A75 rf.length c75)) u74.heap.size _ _ from by simpa using (pb.set 0 (.slice H75 rh.length ch75)).set 1 (.slice A75 rf.length c75)), Lib.hid ?_, Lib.hid (T75.trans ((Below.setCell (p := ⟨u74.heap.size, 1, none⟩) (Below.setCell (p := ⟨u74.heap.size, 0, none⟩) (Below.refl u74.heap.size u75) (Nat.le_refl _) _) (Nat.le_refl _) _).mono (by omega))), by omega⟩
                     exact (QY.set2 (g := u74.heap.size) QX.out (by (try simp) <;> omega)).qv)
                  | (have bb := below_alloc u75 (.cells #[.slice H75 rh.length ch75, .slice A75 rf.length c75] 37)
                     refine ⟨u75.heap.size, H75, A75, ch75, c75, rfl, rfl, Lib.hid (Box.new u75 #[.slice H75 rh.length ch75, .slice A75 rf.length c75] 37), Lib.hid ?_, Lib.hid (step T75 bb), by omega⟩
                     exact (QX.out.step bb).qv)
          case rest =>
            generalize wc = w9 at *
            obtain ⟨g9, Hy, Ay, ky, cy, rfl, rfl, VE, VF, TEx, hg9⟩ := hcut
            have VQe := Lib.hid (VQd.out.step TEx.out)
            have VBe := Lib.hid (VBd.out.step TEx.out)
            have Y3e := Lib.hid (Y3d.out.step TEx.out)
            have NNe := Lib.hid (NN.out.step TEx.out)
            have TE0 := Lib.hid (step T71 TEx.out)
            clear VQd VBd Y3d NN X2d I0v I1v I2v F2v TEx
            have ja0 := VE.out.cell 0
            have ja1 := VE.out.cell 1
            simp only [List.getElem?_toArray, List.getElem?_cons_zero, List.getElem?_cons_succ] at ja0 ja1
            have jan := VE.out.lt
            have jb0 := VBe.out.cell 0
            have jb1 := VBe.out.cell 1
            simp only [List.getElem?_toArray, List.getElem?_cons_zero, List.getElem?_cons_succ] at jb0 jb1
            have jbn := VBe.out.lt
            go_wp2_with fail
            refine (eqQuery_b _ _ _ _ _ _ _ _ rh rf hrl hrz _ (by first | exact VF.out.ri | exact (VF.out.step (below_drew _)).ri | exact (VF.out.step (below_alloc _ _)).ri | exact (VF.out.step (step (below_drew _) (below_alloc _ _))).ri) (by first | exact VF.out.rf | exact (VF.out.step (below_drew _)).rf | exact (VF.out.step (below_alloc _ _)).rf | exact (VF.out.step (step (below_drew _) (below_alloc _ _))).rf) (by first | exact VQe.out.ri | exact (VQe.out.step (below_drew _)).ri | exact (VQe.out.step (below_alloc _ _)).ri | exact (VQe.out.step (step (below_drew _) (below_alloc _ _))).ri) (by first | exact VQe.out.rf | exact (VQe.out.step (below_drew _)).rf | exact (VQe.out.step (below_alloc _ _)).rf | exact (VQe.out.step (step (below_drew _) (below_alloc _ _))).rf)).mono ?_
            rintro e u91 ⟨rfl, d91⟩
            have b91 : Below w9.heap.size w9 u91 := by first | exact d91 | exact und d91 | exact undN d91 | exact below_new d91 | exact und (below_new d91) | exact below_new (und d91) | exact below_new (below_new d91) | exact step (below_drew _) (und (below_new d91))
            have VQe' := Lib.hid (VQe.out.step b91)
            clear VQe
            have VQe := VQe'
            clear VQe'
            have VBe' := Lib.hid (VBe.out.step b91)
            clear VBe
            have VBe := VBe'
            clear VBe'
            have Y3e' := Lib.hid (Y3e.out.step b91)
            clear Y3e
            have Y3e := Y3e'
            clear Y3e'
            have NNe' := Lib.hid (NNe.out.step b91)
            clear NNe
            have NNe := NNe'
            clear NNe'
            have VE' := Lib.hid (VE.out.step b91)
            clear VE
            have VE := VE'
            clear VE'
            have VF' := Lib.hid (VF.out.step b91)
            clear VF
            have VF := VF'
            clear VF'
            have T91 := step TE0.out b91
            have Z91 := b91.size
            have jc0 := Y3e.out.cell 0
            have jc1 := Y3e.out.cell 1
            simp only [List.getElem?_toArray, List.getElem?_cons_zero, List.getElem?_cons_succ] at jc0 jc1
            have jcn := Y3e.out.lt
            go_wp2_with fail
            refine (heldQuery_o _ _ _ _ rh rf 1 (by omega) (by omega) hrq _ (by first | exact NNe.out.ri | exact (NNe.out.step (below_drew _)).ri | exact (NNe.out.step (below_alloc _ _)).ri | exact (NNe.out.step (step (below_drew _) (below_alloc _ _))).ri) (by first | exact NNe.out.rf | exact (NNe.out.step (below_drew _)).rf | exact (NNe.out.step (below_alloc _ _)).rf | exact (NNe.out.step (step (below_drew _) (below_alloc _ _))).rf)).mono ?_
            rintro e u92 ⟨rfl, d92⟩
            have b92 : Below u91.heap.size u91 u92 := by first | exact d92 | exact und d92 | exact undN d92 | exact below_new d92 | exact und (below_new d92) | exact below_new (und d92) | exact below_new (below_new d92) | exact step (below_drew _) (und (below_new d92))
            have VQe' := Lib.hid (VQe.out.step b92)
            clear VQe
            have VQe := VQe'
            clear VQe'
            have VBe' := Lib.hid (VBe.out.step b92)
            clear VBe
            have VBe := VBe'
            clear VBe'
            have Y3e' := Lib.hid (Y3e.out.step b92)
            clear Y3e
            have Y3e := Y3e'
            clear Y3e'
            have NNe' := Lib.hid (NNe.out.step b92)
            clear NNe
            have NNe := NNe'
            clear NNe'
            have VE' := Lib.hid (VE.out.step b92)
            clear VE
            have VE := VE'
            clear VE'
            have VF' := Lib.hid (VF.out.step b92)
            clear VF
            have VF := VF'
            clear VF'
            have T92 := step T91 b92
            have Z92 := b92.size
            go_wp2
            go_ret
            exact ⟨rfl, T92⟩

set_option maxRecDepth 100000 in
theorem lifted (os : Os) (started : os.Started) (H : Type) (enc : TypeId × Value → H) :
    ReturnsInHanded {} Try.checked os 9 .any (Rows.fnExactAnswerablePartSpec.pre6 enc Try.prog Try.f9 Rows.fnExactAnswerablePartRow.domain false) (Rows.fnExactAnswerablePartSpec.post enc Try.prog Try.f9 false true false false) := by
  refine returnsInHanded_of_change (C := Try.checked) own started (by kernel_rfl) Try.func9
    (ChangeSpec.witness6 (enc := enc) (C := Try.checked) false ⟨#[], #[.slice none 0 0, .slice none 0 0, .agg #[.slice none 0 0, .slice none 0 0]], []⟩ 8 (by kernel_rfl) (by kernel_rfl) (by kernel_rfl) (by kernel_rfl)) ?_
  intro W base args ds gs before hval0 hW hcnd _
  have hval : ∀ (j : Nat) t v, Try.f9.params[j]? = some t → args[j]? = some v → Value.okWide Try.prog W .any base t v := hval0
  have hpost := fun (W' : World) (hfn : Rows.fnExactAnswerablePartSpec.fn H (ds ++ gs) = { results := [.lit (.bool true)], args := ds }) (hb : Below W.heap.size W W') => law_post (enc := enc) laidOut (f := Try.f9) (s := Rows.fnExactAnswerablePartSpec) (args := args) rfl rfl Try.underlying4 (by intro t ht; rw [Try.params9] at ht; simp at ht; rcases ht with rfl | rfl | rfl <;> exact ⟨by kernel_rfl, of_decide_eq_true (by kernel_rfl)⟩) hW hfn hb
  obtain ⟨p, q, hA0, hV, rfl, hfz, hnd⟩ := hW
  have hA : DataW.TrodAll enc Try.prog W 0 (fun _ => true) true Try.f9.params.toList args.toList ds p := hA0
  rw [Try.params9] at hA hval
  obtain ⟨v0, vs0, d0, ds0, p0, q0, hargs, rfl, rfl, h0, r0⟩ := trodAll_cons hA
  obtain ⟨v1, vs1, d1, ds1, p1, q1, rfl, rfl, rfl, h1, r1⟩ := trodAll_cons r0
  obtain ⟨v2, vs2, d2, ds2, p2, q2, rfl, rfl, rfl, h2, r2⟩ := trodAll_cons r1
  obtain ⟨rfl, rfl, rfl⟩ := trodAll_nil r2
  obtain rfl : args = #[v0, v1, v2] := by cases args; simp_all
  obtain ⟨rfl, rfl⟩ := trodVars_none hV
  obtain ⟨A0, c0, s0, rfl, l0, m0, w0⟩ := open_numsT Try.underlying22 Try.underlying3 (by kernel_rfl) (hval 0 22 v0 rfl rfl) h0
  obtain ⟨A1, c1, l1, rfl, k1, m1, w1⟩ := open_methodsT (hval 1 23 v1 rfl rfl) h1
  obtain ⟨H2, A2, x2, c2, s2, l2, rfl, y2, z2, k2, m2, w2⟩ := open_queryT (hval 2 26 v2 rfl rfl) h2
  refine (walk W A0 c0 s0 l0 m0 w0 A1 c1 l1 k1 m1 w1 H2 A2 x2 c2 s2 l2 y2 z2 k2 m2 w2).mono fun e W' ⟨he, hg⟩ => ?_
  subst he
  exact ⟨_, rfl, hpost W' rfl hg⟩

theorem over : Rows.fnExactAnswerablePartRow.holds Try.pinned (OpenSpec.ofChange Rows.fnExactAnswerablePartSpec) :=
  OpenClaim.holds_of_wide 9 Try.f9 rfl rfl rfl rfl rfl rfl rfl ⟨rfl, rfl, rfl, rfl, rfl⟩ rfl rfl rfl rfl rfl (by kernel_rfl) Try.func9 (by kernel_rfl)
    (of_decide_eq_true (by kernel_rfl)) (by unfold Func.isWrapper; first | (rw [if_pos (by decide +kernel)]; kernel_rfl) | (rw [if_neg (by decide +kernel)]; exact ⟨rfl, rfl⟩))
    (fun os started H enc _ => lifted os started H enc)
end Go.Proofs.Ytighalbnpgmdfaa.fnExactAnswerablePart
namespace Go.Proofs.Ytighalbnpgmdfaa
theorem fnExactAnswerablePart_holds : Rows.FnExactAnswerablePartSaid := fnExactAnswerablePart.over
#print axioms fnExactAnswerablePart_holds
end Go.Proofs.Ytighalbnpgmdfaa
