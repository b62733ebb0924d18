/- impl.SameUnions answers as its model at every argument: the law FnExactSameUnions returns true. Conditions: none beyond the statement's own. -/
import Derived.Test.YtimlpdcambmcjaaGreatS41

namespace Go.Proofs.YtimlpdcambmcjaaGreat.fnExactSameUnions
open Go.ChangeShapes Go.WideShapes Go.ChangeAt Go.RowKit
open Go.ChangeMaps (open_string shut_string)
set_option linter.unusedVariables false
set_option linter.unusedSimpArgs false

set_option maxRecDepth 100000 in
set_option maxHeartbeats 1000000 in
theorem walk (w : World) (A0 : Option Addr) (c0 : Nat) (s0 : List Int) (l0 : s0.length ≤ c0) (m0 : c0 ≤ maxLen) (w0 : Ints w 0 w.heap.size A0 s0) (A1 : Option Addr) (c1 : Nat) (l1 : UL) (k1 : l1.length ≤ c1) (m1 : c1 ≤ maxLen) (w1 : Uns w 0 w.heap.size A1 l1) (A2 : Option Addr) (c2 : Nat) (l2 : UL) (k2 : l2.length ≤ c2) (m2 : c2 ≤ maxLen) (w2 : Uns w 0 w.heap.size A2 l2) :
    Calls Tryz.prog 5 #[.slice A0 s0.length c0, .slice A1 l1.length c1, .slice A2 l2.length c2] w fun e w' => e = .returned (.bool true) ∧ Below w.heap.size w w' := by
  unfold maxLen at m0 m1 m2
  have hn1 := szU_nonneg l1
  have hn2 := szU_nonneg l2
  by_cases hb0 : (1048576 : Int) < s0.length
  · have I0 := Lib.hid (show RI w A0 s0 from w0)
    have I1 := Lib.hid (show RU w A1 l1 from w1)
    have I2 := Lib.hid (show RU w A2 l2 from w2)
    clear w0 w1 w2
    go_enter Tryz.func5, Tryz.ntmps5
    go_wp2
    go_ret
    exact ⟨rfl, Below.refl _ _⟩
  · skip
    by_cases hb1 : 1048576 - szU l1 < 0
    · have I0 := Lib.hid (show RI w A0 s0 from w0)
      have I1 := Lib.hid (show RU w A1 l1 from w1)
      have I2 := Lib.hid (show RU w A2 l2 from w2)
      clear w0 w1 w2
      go_enter Tryz.func5, Tryz.ntmps5
      go_wp2_with fail
      refine (szQueryS_any A1 c1 l1 1048576 (by omega) (by omega) (by omega) _ (by first | exact I1.out | exact I1.out.step (below_drew _) | exact I1.out.step (below_alloc _ _) | exact I1.out.step (step (below_alloc _ _) (below_alloc _ _)))).mono ?_
      rintro e u1 ⟨he, d1⟩
      rw [if_pos (show 1048576 - szU l1 < 0 by omega)] at he
      subst he
      have b1 : Below w.heap.size w u1 := by first | exact d1 | exact und d1 | exact undN d1 | exact below_new d1 | exact und (below_new d1) | exact below_new (und d1) | exact below_new (below_new d1) | exact step (below_drew _) (und (below_new d1))
      have I0' := Lib.hid (I0.out.step b1)
      clear I0
      have I0 := I0'
      clear I0'
      have I1' := Lib.hid (I1.out.step b1)
      clear I1
      have I1 := I1'
      clear I1'
      have I2' := Lib.hid (I2.out.step b1)
      clear I2
      have I2 := I2'
      clear I2'
      have T1 := b1
      have Z1 := b1.size
      go_wp2
      go_ret
      exact ⟨rfl, T1⟩
    · skip
      by_cases hb2 : (1048576 - szU l1) - szU l2 < 0
      · have I0 := Lib.hid (show RI w A0 s0 from w0)
        have I1 := Lib.hid (show RU w A1 l1 from w1)
        have I2 := Lib.hid (show RU w A2 l2 from w2)
        clear w0 w1 w2
        go_enter Tryz.func5, Tryz.ntmps5
        go_wp2_with fail
        refine (szQueryS_any A1 c1 l1 1048576 (by omega) (by omega) (by omega) _ (by first | exact I1.out | exact I1.out.step (below_drew _) | exact I1.out.step (below_alloc _ _) | exact I1.out.step (step (below_alloc _ _) (below_alloc _ _)))).mono ?_
        rintro e u1 ⟨he, d1⟩
        rw [if_neg (show ¬ (1048576 - szU l1 < 0) by omega)] at he
        subst he
        have b1 : Below w.heap.size w u1 := by first | exact d1 | exact und d1 | exact undN d1 | exact below_new d1 | exact und (below_new d1) | exact below_new (und d1) | exact below_new (below_new d1) | exact step (below_drew _) (und (below_new d1))
        have I0' := Lib.hid (I0.out.step b1)
        clear I0
        have I0 := I0'
        clear I0'
        have I1' := Lib.hid (I1.out.step b1)
        clear I1
        have I1 := I1'
        clear I1'
        have I2' := Lib.hid (I2.out.step b1)
        clear I2
        have I2 := I2'
        clear I2'
        have T1 := b1
        have Z1 := b1.size
        go_wp2_with fail
        refine (szQueryS_any A2 c2 l2 (1048576 - szU l1) (by omega) (by omega) (by omega) _ (by first | exact I2.out | exact I2.out.step (below_drew _) | exact I2.out.step (below_alloc _ _) | exact I2.out.step (step (below_alloc _ _) (below_alloc _ _)))).mono ?_
        rintro e u2 ⟨he, d2⟩
        rw [if_pos (show (1048576 - szU l1) - szU l2 < 0 by omega)] at he
        subst he
        have b2 : Below u1.heap.size u1 u2 := by first | exact d2 | exact und d2 | exact undN d2 | exact below_new d2 | exact und (below_new d2) | exact below_new (und d2) | exact below_new (below_new d2) | exact step (below_drew _) (und (below_new d2))
        have I0' := Lib.hid (I0.out.step b2)
        clear I0
        have I0 := I0'
        clear I0'
        have I1' := Lib.hid (I1.out.step b2)
        clear I1
        have I1 := I1'
        clear I1'
        have I2' := Lib.hid (I2.out.step b2)
        clear I2
        have I2 := I2'
        clear I2'
        have T2 := step T1 b2
        have Z2 := b2.size
        go_wp2
        go_ret
        exact ⟨rfl, T2⟩
      · skip
        have hl0 : s0.length ≤ 1048576 := by omega
        have hL0 : (s0.length : Int) ≤ 1048576 := by omega
        have hz1 : szU l1 ≤ 1048576 := by omega
        have hl1 : l1.length ≤ 1048576 := szU_len hz1
        have hL1 : (l1.length : Int) ≤ 1048576 := by omega
        have hz2 : szU l2 ≤ 1048576 := by omega
        have hl2 : l2.length ≤ 1048576 := szU_len hz2
        have hL2 : (l2.length : Int) ≤ 1048576 := by omega
        have I0 := Lib.hid (show RI w A0 s0 from w0)
        have I1 := Lib.hid (show RU w A1 l1 from w1)
        have I2 := Lib.hid (show RU w A2 l2 from w2)
        clear w0 w1 w2
        go_enter Tryz.func5, Tryz.ntmps5
        go_wp2_with fail
        refine (szQueryS_any A1 c1 l1 1048576 (by omega) (by omega) (by omega) _ (by first | exact I1.out | exact I1.out.step (below_drew _) | exact I1.out.step (below_alloc _ _) | exact I1.out.step (step (below_alloc _ _) (below_alloc _ _)))).mono ?_
        rintro e u1 ⟨he, d1⟩
        rw [if_neg (show ¬ (1048576 - szU l1 < 0) by omega)] at he
        subst he
        have b1 : Below w.heap.size w u1 := by first | exact d1 | exact und d1 | exact undN d1 | exact below_new d1 | exact und (below_new d1) | exact below_new (und d1) | exact below_new (below_new d1) | exact step (below_drew _) (und (below_new d1))
        have I0' := Lib.hid (I0.out.step b1)
        clear I0
        have I0 := I0'
        clear I0'
        have I1' := Lib.hid (I1.out.step b1)
        clear I1
        have I1 := I1'
        clear I1'
        have I2' := Lib.hid (I2.out.step b1)
        clear I2
        have I2 := I2'
        clear I2'
        have T1 := b1
        have Z1 := b1.size
        go_wp2_with fail
        refine (szQueryS_any A2 c2 l2 (1048576 - szU l1) (by omega) (by omega) (by omega) _ (by first | exact I2.out | exact I2.out.step (below_drew _) | exact I2.out.step (below_alloc _ _) | exact I2.out.step (step (below_alloc _ _) (below_alloc _ _)))).mono ?_
        rintro e u2 ⟨he, d2⟩
        rw [if_neg (show ¬ ((1048576 - szU l1) - szU l2 < 0) by omega)] at he
        subst he
        have b2 : Below u1.heap.size u1 u2 := by first | exact d2 | exact und d2 | exact undN d2 | exact below_new d2 | exact und (below_new d2) | exact below_new (und d2) | exact below_new (below_new d2) | exact step (below_drew _) (und (below_new d2))
        have I0' := Lib.hid (I0.out.step b2)
        clear I0
        have I0 := I0'
        clear I0'
        have I1' := Lib.hid (I1.out.step b2)
        clear I1
        have I1 := I1'
        clear I1'
        have I2' := Lib.hid (I2.out.step b2)
        clear I2
        have I2 := I2'
        clear I2'
        have T2 := step T1 b2
        have Z2 := b2.size
        go_wp2_with fail
        refine (toIntS_r A0 c0 s0 hl0 _ (by first | exact I0.out | exact I0.out.step (below_drew _) | exact I0.out.step (below_alloc _ _) | exact I0.out.step (step (below_alloc _ _) (below_alloc _ _)))).mono ?_
        rintro e u3 ⟨rfl, r3, d3, z3⟩
        have b3 : Below u2.heap.size u2 u3 := by first | exact d3 | exact und d3 | exact undN d3 | exact below_new d3 | exact und (below_new d3) | exact below_new (und d3) | exact below_new (below_new d3) | exact step (below_drew _) (und (below_new d3))
        have I0' := Lib.hid (I0.out.step b3)
        clear I0
        have I0 := I0'
        clear I0'
        have I1' := Lib.hid (I1.out.step b3)
        clear I1
        have I1 := I1'
        clear I1'
        have I2' := Lib.hid (I2.out.step b3)
        clear I2
        have I2 := I2'
        clear I2'
        have T3 := step T2 b3
        have Z3 := b3.size
        try rw [al_size] at r3
        have R3 := Lib.hid r3.ri
        clear r3 z3
        go_wp2_with fail
        refine (toQueryS_r A1 c1 l1 hz1 _ (by first | exact I1.out | exact I1.out.step (below_drew _) | exact I1.out.step (below_alloc _ _) | exact I1.out.step (step (below_alloc _ _) (below_alloc _ _)))).mono ?_
        rintro e u4 ⟨rfl, r4, d4, z4⟩
        have b4 : Below u3.heap.size u3 u4 := by first | exact d4 | exact und d4 | exact undN d4 | exact below_new d4 | exact und (below_new d4) | exact below_new (und d4) | exact below_new (below_new d4) | exact step (below_drew _) (und (below_new d4))
        have I0' := Lib.hid (I0.out.step b4)
        clear I0
        have I0 := I0'
        clear I0'
        have I1' := Lib.hid (I1.out.step b4)
        clear I1
        have I1 := I1'
        clear I1'
        have I2' := Lib.hid (I2.out.step b4)
        clear I2
        have I2 := I2'
        clear I2'
        have R3' := Lib.hid (R3.out.step b4)
        clear R3
        have R3 := R3'
        clear R3'
        have T4 := step T3 b4
        have Z4 := b4.size
        try rw [al_size] at r4
        have R4 := Lib.hid r4
        clear r4 z4
        go_wp2_with fail
        refine (toQueryS_r A2 c2 l2 hz2 _ (by first | exact I2.out | exact I2.out.step (below_drew _) | exact I2.out.step (below_alloc _ _) | exact I2.out.step (step (below_alloc _ _) (below_alloc _ _)))).mono ?_
        rintro e u5 ⟨rfl, r5, d5, z5⟩
        have b5 : Below u4.heap.size u4 u5 := by first | exact d5 | exact und d5 | exact undN d5 | exact below_new d5 | exact und (below_new d5) | exact below_new (und d5) | exact below_new (below_new d5) | exact step (below_drew _) (und (below_new d5))
        have I0' := Lib.hid (I0.out.step b5)
        clear I0
        have I0 := I0'
        clear I0'
        have I1' := Lib.hid (I1.out.step b5)
        clear I1
        have I1 := I1'
        clear I1'
        have I2' := Lib.hid (I2.out.step b5)
        clear I2
        have I2 := I2'
        clear I2'
        have R3' := Lib.hid (R3.out.step b5)
        clear R3
        have R3 := R3'
        clear R3'
        have R4' := Lib.hid (R4.out.step b5)
        clear R4
        have R4 := R4'
        clear R4'
        have T5 := step T4 b5
        have Z5 := b5.size
        try rw [al_size] at r5
        have R5 := Lib.hid r5
        clear r5 z5
        go_wp2_with fail
        refine (spec_SameUnions _ _ s0 _ _ l1 _ _ l2 hl0 hz1 hz2 _ (by first | exact R3.out | exact R3.out.step (below_drew _) | exact R3.out.step (below_alloc _ _) | exact R3.out.step (step (below_alloc _ _) (below_alloc _ _))) (by first | exact R4.out | exact R4.out.step (below_drew _) | exact R4.out.step (below_alloc _ _) | exact R4.out.step (step (below_alloc _ _) (below_alloc _ _))) (by first | exact R5.out | exact R5.out.step (below_drew _) | exact R5.out.step (below_alloc _ _) | exact R5.out.step (step (below_alloc _ _) (below_alloc _ _)))).mono ?_
        rintro e u6 ⟨rfl, d6⟩
        have b6 : Below u5.heap.size u5 u6 := by first | exact d6 | exact und d6 | exact undN d6 | exact below_new d6 | exact und (below_new d6) | exact below_new (und d6) | exact below_new (below_new d6) | exact step (below_drew _) (und (below_new d6))
        have I0' := Lib.hid (I0.out.step b6)
        clear I0
        have I0 := I0'
        clear I0'
        have I1' := Lib.hid (I1.out.step b6)
        clear I1
        have I1 := I1'
        clear I1'
        have I2' := Lib.hid (I2.out.step b6)
        clear I2
        have I2 := I2'
        clear I2'
        have R3' := Lib.hid (R3.out.step b6)
        clear R3
        have R3 := R3'
        clear R3'
        have R4' := Lib.hid (R4.out.step b6)
        clear R4
        have R4 := R4'
        clear R4'
        have R5' := Lib.hid (R5.out.step b6)
        clear R5
        have R5 := R5'
        clear R5'
        have T6 := step T5 b6
        have Z6 := b6.size
        go_wp2_with fail
        refine (toIntS_r A0 c0 s0 hl0 _ (by first | exact I0.out | exact I0.out.step (below_drew _) | exact I0.out.step (below_alloc _ _) | exact I0.out.step (step (below_alloc _ _) (below_alloc _ _)))).mono ?_
        rintro e u7 ⟨rfl, r7, d7, z7⟩
        have b7 : Below u6.heap.size u6 u7 := by first | exact d7 | exact und d7 | exact undN d7 | exact below_new d7 | exact und (below_new d7) | exact below_new (und d7) | exact below_new (below_new d7) | exact step (below_drew _) (und (below_new d7))
        have I0' := Lib.hid (I0.out.step b7)
        clear I0
        have I0 := I0'
        clear I0'
        have I1' := Lib.hid (I1.out.step b7)
        clear I1
        have I1 := I1'
        clear I1'
        have I2' := Lib.hid (I2.out.step b7)
        clear I2
        have I2 := I2'
        clear I2'
        have T7 := step T6 b7
        have Z7 := b7.size
        try rw [al_size] at r7
        have R7 := Lib.hid r7.ri
        clear r7 z7
        go_wp2_with fail
        refine (toQueryS_r A1 c1 l1 hz1 _ (by first | exact I1.out | exact I1.out.step (below_drew _) | exact I1.out.step (below_alloc _ _) | exact I1.out.step (step (below_alloc _ _) (below_alloc _ _)))).mono ?_
        rintro e u8 ⟨rfl, r8, d8, z8⟩
        have b8 : Below u7.heap.size u7 u8 := by first | exact d8 | exact und d8 | exact undN d8 | exact below_new d8 | exact und (below_new d8) | exact below_new (und d8) | exact below_new (below_new d8) | exact step (below_drew _) (und (below_new d8))
        have I0' := Lib.hid (I0.out.step b8)
        clear I0
        have I0 := I0'
        clear I0'
        have I1' := Lib.hid (I1.out.step b8)
        clear I1
        have I1 := I1'
        clear I1'
        have I2' := Lib.hid (I2.out.step b8)
        clear I2
        have I2 := I2'
        clear I2'
        have R7' := Lib.hid (R7.out.step b8)
        clear R7
        have R7 := R7'
        clear R7'
        have T8 := step T7 b8
        have Z8 := b8.size
        try rw [al_size] at r8
        have R8 := Lib.hid r8
        clear r8 z8
        go_wp2_with fail
        refine (toQueryS_r A2 c2 l2 hz2 _ (by first | exact I2.out | exact I2.out.step (below_drew _) | exact I2.out.step (below_alloc _ _) | exact I2.out.step (step (below_alloc _ _) (below_alloc _ _)))).mono ?_
        rintro e u9 ⟨rfl, r9, d9, z9⟩
        have b9 : Below u8.heap.size u8 u9 := by first | exact d9 | exact und d9 | exact undN d9 | exact below_new d9 | exact und (below_new d9) | exact below_new (und d9) | exact below_new (below_new d9) | exact step (below_drew _) (und (below_new d9))
        have I0' := Lib.hid (I0.out.step b9)
        clear I0
        have I0 := I0'
        clear I0'
        have I1' := Lib.hid (I1.out.step b9)
        clear I1
        have I1 := I1'
        clear I1'
        have I2' := Lib.hid (I2.out.step b9)
        clear I2
        have I2 := I2'
        clear I2'
        have R7' := Lib.hid (R7.out.step b9)
        clear R7
        have R7 := R7'
        clear R7'
        have R8' := Lib.hid (R8.out.step b9)
        clear R8
        have R8 := R8'
        clear R8'
        have T9 := step T8 b9
        have Z9 := b9.size
        try rw [al_size] at r9
        have R9 := Lib.hid r9
        clear r9 z9
        go_wp2_with fail
        refine (impl_SameUnions _ _ s0 _ _ l1 _ _ l2 hl0 hz1 hz2 _ (by first | exact R7.out | exact R7.out.step (below_drew _) | exact R7.out.step (below_alloc _ _) | exact R7.out.step (step (below_alloc _ _) (below_alloc _ _))) (by first | exact R8.out | exact R8.out.step (below_drew _) | exact R8.out.step (below_alloc _ _) | exact R8.out.step (step (below_alloc _ _) (below_alloc _ _))) (by first | exact R9.out | exact R9.out.step (below_drew _) | exact R9.out.step (below_alloc _ _) | exact R9.out.step (step (below_alloc _ _) (below_alloc _ _)))).mono ?_
        rintro e u10 ⟨rfl, d10⟩
        have b10 : Below u9.heap.size u9 u10 := by first | exact d10 | exact und d10 | exact undN d10 | exact below_new d10 | exact und (below_new d10) | exact below_new (und d10) | exact below_new (below_new d10) | exact step (below_drew _) (und (below_new d10))
        have I0' := Lib.hid (I0.out.step b10)
        clear I0
        have I0 := I0'
        clear I0'
        have I1' := Lib.hid (I1.out.step b10)
        clear I1
        have I1 := I1'
        clear I1'
        have I2' := Lib.hid (I2.out.step b10)
        clear I2
        have I2 := I2'
        clear I2'
        have R7' := Lib.hid (R7.out.step b10)
        clear R7
        have R7 := R7'
        clear R7'
        have R8' := Lib.hid (R8.out.step b10)
        clear R8
        have R8 := R8'
        clear R8'
        have R9' := Lib.hid (R9.out.step b10)
        clear R9
        have R9 := R9'
        clear R9'
        have T10 := step T9 b10
        have Z10 := b10.size
        go_wp2_with fail
        refine (toIntS_r A0 c0 s0 hl0 _ (by first | exact I0.out | exact I0.out.step (below_drew _) | exact I0.out.step (below_alloc _ _) | exact I0.out.step (step (below_alloc _ _) (below_alloc _ _)))).mono ?_
        rintro e u11 ⟨rfl, r11, d11, z11⟩
        have b11 : Below u10.heap.size u10 u11 := by first | exact d11 | exact und d11 | exact undN d11 | exact below_new d11 | exact und (below_new d11) | exact below_new (und d11) | exact below_new (below_new d11) | exact step (below_drew _) (und (below_new d11))
        have I0' := Lib.hid (I0.out.step b11)
        clear I0
        have I0 := I0'
        clear I0'
        have I1' := Lib.hid (I1.out.step b11)
        clear I1
        have I1 := I1'
        clear I1'
        have I2' := Lib.hid (I2.out.step b11)
        clear I2
        have I2 := I2'
        clear I2'
        have R7' := Lib.hid (R7.out.step b11)
        clear R7
        have R7 := R7'
        clear R7'
        have R8' := Lib.hid (R8.out.step b11)
        clear R8
        have R8 := R8'
        clear R8'
        have R9' := Lib.hid (R9.out.step b11)
        clear R9
        have R9 := R9'
        clear R9'
        have T11 := step T10 b11
        have Z11 := b11.size
        try rw [al_size] at r11
        have R11 := Lib.hid r11.ri
        clear r11 z11
        go_wp2_with fail
        refine (eqIntS_r _ _ _ _ s0 hl0 _ (by first | exact R7.out | exact R7.out.step (below_drew _) | exact R7.out.step (below_alloc _ _) | exact R7.out.step (step (below_alloc _ _) (below_alloc _ _))) (by first | exact R11.out | exact R11.out.step (below_drew _) | exact R11.out.step (below_alloc _ _) | exact R11.out.step (step (below_alloc _ _) (below_alloc _ _)))).mono ?_
        rintro e u12 ⟨rfl, d12⟩
        have b12 : Below u11.heap.size u11 u12 := by first | exact d12 | exact und d12 | exact undN d12 | exact below_new d12 | exact und (below_new d12) | exact below_new (und d12) | exact below_new (below_new d12) | exact step (below_drew _) (und (below_new d12))
        have I0' := Lib.hid (I0.out.step b12)
        clear I0
        have I0 := I0'
        clear I0'
        have I1' := Lib.hid (I1.out.step b12)
        clear I1
        have I1 := I1'
        clear I1'
        have I2' := Lib.hid (I2.out.step b12)
        clear I2
        have I2 := I2'
        clear I2'
        have R7' := Lib.hid (R7.out.step b12)
        clear R7
        have R7 := R7'
        clear R7'
        have R8' := Lib.hid (R8.out.step b12)
        clear R8
        have R8 := R8'
        clear R8'
        have R9' := Lib.hid (R9.out.step b12)
        clear R9
        have R9 := R9'
        clear R9'
        have R11' := Lib.hid (R11.out.step b12)
        clear R11
        have R11 := R11'
        clear R11'
        have T12 := step T11 b12
        have Z12 := b12.size
        go_wp2_with fail
        refine (toQueryS_r A1 c1 l1 hz1 _ (by first | exact I1.out | exact I1.out.step (below_drew _) | exact I1.out.step (below_alloc _ _) | exact I1.out.step (step (below_alloc _ _) (below_alloc _ _)))).mono ?_
        rintro e u13 ⟨rfl, r13, d13, z13⟩
        have b13 : Below u12.heap.size u12 u13 := by first | exact d13 | exact und d13 | exact undN d13 | exact below_new d13 | exact und (below_new d13) | exact below_new (und d13) | exact below_new (below_new d13) | exact step (below_drew _) (und (below_new d13))
        have I0' := Lib.hid (I0.out.step b13)
        clear I0
        have I0 := I0'
        clear I0'
        have I1' := Lib.hid (I1.out.step b13)
        clear I1
        have I1 := I1'
        clear I1'
        have I2' := Lib.hid (I2.out.step b13)
        clear I2
        have I2 := I2'
        clear I2'
        have R7' := Lib.hid (R7.out.step b13)
        clear R7
        have R7 := R7'
        clear R7'
        have R8' := Lib.hid (R8.out.step b13)
        clear R8
        have R8 := R8'
        clear R8'
        have R9' := Lib.hid (R9.out.step b13)
        clear R9
        have R9 := R9'
        clear R9'
        have T13 := step T12 b13
        have Z13 := b13.size
        try rw [al_size] at r13
        have R13 := Lib.hid r13
        clear r13 z13
        go_wp2_with fail
        refine (eqQueryS_r _ _ _ _ l1 hz1 _ (by first | exact R8.out | exact R8.out.step (below_drew _) | exact R8.out.step (below_alloc _ _) | exact R8.out.step (step (below_alloc _ _) (below_alloc _ _))) (by first | exact R13.out | exact R13.out.step (below_drew _) | exact R13.out.step (below_alloc _ _) | exact R13.out.step (step (below_alloc _ _) (below_alloc _ _)))).mono ?_
        rintro e u14 ⟨rfl, d14⟩
        have b14 : Below u13.heap.size u13 u14 := by first | exact d14 | exact und d14 | exact undN d14 | exact below_new d14 | exact und (below_new d14) | exact below_new (und d14) | exact below_new (below_new d14) | exact step (below_drew _) (und (below_new d14))
        have I0' := Lib.hid (I0.out.step b14)
        clear I0
        have I0 := I0'
        clear I0'
        have I1' := Lib.hid (I1.out.step b14)
        clear I1
        have I1 := I1'
        clear I1'
        have I2' := Lib.hid (I2.out.step b14)
        clear I2
        have I2 := I2'
        clear I2'
        have R7' := Lib.hid (R7.out.step b14)
        clear R7
        have R7 := R7'
        clear R7'
        have R8' := Lib.hid (R8.out.step b14)
        clear R8
        have R8 := R8'
        clear R8'
        have R9' := Lib.hid (R9.out.step b14)
        clear R9
        have R9 := R9'
        clear R9'
        have R13' := Lib.hid (R13.out.step b14)
        clear R13
        have R13 := R13'
        clear R13'
        have T14 := step T13 b14
        have Z14 := b14.size
        go_wp2_with fail
        refine (toQueryS_r A2 c2 l2 hz2 _ (by first | exact I2.out | exact I2.out.step (below_drew _) | exact I2.out.step (below_alloc _ _) | exact I2.out.step (step (below_alloc _ _) (below_alloc _ _)))).mono ?_
        rintro e u15 ⟨rfl, r15, d15, z15⟩
        have b15 : Below u14.heap.size u14 u15 := by first | exact d15 | exact und d15 | exact undN d15 | exact below_new d15 | exact und (below_new d15) | exact below_new (und d15) | exact below_new (below_new d15) | exact step (below_drew _) (und (below_new d15))
        have I0' := Lib.hid (I0.out.step b15)
        clear I0
        have I0 := I0'
        clear I0'
        have I1' := Lib.hid (I1.out.step b15)
        clear I1
        have I1 := I1'
        clear I1'
        have I2' := Lib.hid (I2.out.step b15)
        clear I2
        have I2 := I2'
        clear I2'
        have R7' := Lib.hid (R7.out.step b15)
        clear R7
        have R7 := R7'
        clear R7'
        have R8' := Lib.hid (R8.out.step b15)
        clear R8
        have R8 := R8'
        clear R8'
        have R9' := Lib.hid (R9.out.step b15)
        clear R9
        have R9 := R9'
        clear R9'
        have T15 := step T14 b15
        have Z15 := b15.size
        try rw [al_size] at r15
        have R15 := Lib.hid r15
        clear r15 z15
        go_wp2_with fail
        refine (eqQueryS_r _ _ _ _ l2 hz2 _ (by first | exact R9.out | exact R9.out.step (below_drew _) | exact R9.out.step (below_alloc _ _) | exact R9.out.step (step (below_alloc _ _) (below_alloc _ _))) (by first | exact R15.out | exact R15.out.step (below_drew _) | exact R15.out.step (below_alloc _ _) | exact R15.out.step (step (below_alloc _ _) (below_alloc _ _)))).mono ?_
        rintro e u16 ⟨rfl, d16⟩
        have b16 : Below u15.heap.size u15 u16 := by first | exact d16 | exact und d16 | exact undN d16 | exact below_new d16 | exact und (below_new d16) | exact below_new (und d16) | exact below_new (below_new d16) | exact step (below_drew _) (und (below_new d16))
        have I0' := Lib.hid (I0.out.step b16)
        clear I0
        have I0 := I0'
        clear I0'
        have I1' := Lib.hid (I1.out.step b16)
        clear I1
        have I1 := I1'
        clear I1'
        have I2' := Lib.hid (I2.out.step b16)
        clear I2
        have I2 := I2'
        clear I2'
        have R7' := Lib.hid (R7.out.step b16)
        clear R7
        have R7 := R7'
        clear R7'
        have R8' := Lib.hid (R8.out.step b16)
        clear R8
        have R8 := R8'
        clear R8'
        have R9' := Lib.hid (R9.out.step b16)
        clear R9
        have R9 := R9'
        clear R9'
        have R15' := Lib.hid (R15.out.step b16)
        clear R15
        have R15 := R15'
        clear R15'
        have T16 := step T15 b16
        have Z16 := b16.size
        go_wp2
        go_ret
        exact ⟨rfl, by first | exact T16 | exact T16.drew⟩

set_option maxRecDepth 100000 in
theorem lifted (os : Os) (started : os.Started) (H : Type) (enc : TypeId × Value → H) :
    ReturnsInHanded {} Tryz.checked os 5 .any (Rows.fnExactSameUnionsSpec.pre6 enc Tryz.prog Tryz.f5 Rows.fnExactSameUnionsRow.domain false) (Rows.fnExactSameUnionsSpec.post enc Tryz.prog Tryz.f5 false true false false) := by
  refine returnsInHanded_of_change (C := Tryz.checked) own started (by kernel_rfl) Tryz.func5
    (ChangeSpec.witness6 (enc := enc) (C := Tryz.checked) false ⟨#[], #[.slice none 0 0, .slice none 0 0, .slice none 0 0], []⟩ 8 (by kernel_rfl) (by kernel_rfl) (by kernel_rfl) (by kernel_rfl)) ?_
  intro W base args ds gs before hval0 hW hcnd _
  have hval : ∀ (j : Nat) t v, Tryz.f5.params[j]? = some t → args[j]? = some v → Value.okWide Tryz.prog W .any base t v := hval0
  have hpost := fun (W' : World) (hfn : Rows.fnExactSameUnionsSpec.fn H (ds ++ gs) = { results := [.lit (.bool true)], args := ds }) (hb : Below W.heap.size W W') => law_post (enc := enc) laidOut (f := Tryz.f5) (s := Rows.fnExactSameUnionsSpec) (args := args) rfl rfl Tryz.underlying4 (by intro t ht; rw [Tryz.params5] at ht; simp at ht; rcases ht with rfl | rfl | rfl <;> exact ⟨by kernel_rfl, of_decide_eq_true (by kernel_rfl)⟩) hW hfn hb
  obtain ⟨p, q, hA0, hV, rfl, hfz, hnd⟩ := hW
  have hA : DataW.TrodAll enc Tryz.prog W 0 (fun _ => true) true Tryz.f5.params.toList args.toList ds p := hA0
  rw [Tryz.params5] at hA hval
  obtain ⟨v0, vs0, d0, ds0, p0, q0, hargs, rfl, rfl, h0, r0⟩ := trodAll_cons hA
  obtain ⟨v1, vs1, d1, ds1, p1, q1, rfl, rfl, rfl, h1, r1⟩ := trodAll_cons r0
  obtain ⟨v2, vs2, d2, ds2, p2, q2, rfl, rfl, rfl, h2, r2⟩ := trodAll_cons r1
  obtain ⟨rfl, rfl, rfl⟩ := trodAll_nil r2
  obtain rfl : args = #[v0, v1, v2] := by cases args; simp_all
  obtain ⟨rfl, rfl⟩ := trodVars_none hV
  obtain ⟨A0, c0, s0, rfl, l0, m0, w0⟩ := open_numsT Tryz.underlying22 Tryz.underlying3 (by kernel_rfl) (hval 0 22 v0 rfl rfl) h0
  obtain ⟨A1, c1, l1, rfl, k1, m1, w1⟩ := open_queriesT (hval 1 38 v1 rfl rfl) h1
  obtain ⟨A2, c2, l2, rfl, k2, m2, w2⟩ := open_queriesT (hval 2 38 v2 rfl rfl) h2
  refine (walk W A0 c0 s0 l0 m0 w0 A1 c1 l1 k1 m1 w1 A2 c2 l2 k2 m2 w2).mono fun e W' ⟨he, hg⟩ => ?_
  subst he
  exact ⟨_, rfl, hpost W' rfl hg⟩

theorem over : Rows.fnExactSameUnionsRow.holds Tryz.pinned (OpenSpec.ofChange Rows.fnExactSameUnionsSpec) :=
  OpenClaim.holds_of_wide 5 Tryz.f5 rfl rfl rfl rfl rfl rfl rfl ⟨rfl, rfl, rfl, rfl, rfl⟩ rfl rfl rfl rfl rfl (by kernel_rfl) Tryz.func5 (by kernel_rfl)
    (of_decide_eq_true (by kernel_rfl)) (by unfold Func.isWrapper; first | (rw [if_pos (by decide +kernel)]; kernel_rfl) | (rw [if_neg (by decide +kernel)]; exact ⟨rfl, rfl⟩))
    (fun os started H enc _ => lifted os started H enc)
end Go.Proofs.YtimlpdcambmcjaaGreat.fnExactSameUnions
namespace Go.Proofs.YtimlpdcambmcjaaGreat
theorem fnExactSameUnions_holds : Rows.FnExactSameUnionsSaid := fnExactSameUnions.over
#print axioms fnExactSameUnions_holds
end Go.Proofs.YtimlpdcambmcjaaGreat
