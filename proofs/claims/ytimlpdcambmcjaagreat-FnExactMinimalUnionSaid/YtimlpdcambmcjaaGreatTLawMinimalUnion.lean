/- impl.MinimalUnion answers as its model at every argument: the law FnExactMinimalUnion returns true. Conditions: none beyond the statement's own. -/
import Derived.Test.YtimlpdcambmcjaaGreatT7

namespace Go.Proofs.YtimlpdcambmcjaaGreat.fnExactMinimalUnion
open Go.ChangeShapes Go.WideShapes Go.ChangeAt Go.RowKit
open Go.ChangeMaps (open_string shut_string)
set_option linter.unusedVariables false
set_option linter.unusedSimpArgs false

set_option maxRecDepth 100000 in
set_option maxHeartbeats 1000000 in
theorem walk (w : World) (A0 : Option Addr) (c0 : Nat) (s0 : List Int) (l0 : s0.length ≤ c0) (m0 : c0 ≤ maxLen) (w0 : Ints w 0 w.heap.size A0 s0) (A1 : Option Addr) (c1 : Nat) (l1 : UL) (k1 : l1.length ≤ c1) (m1 : c1 ≤ maxLen) (w1 : Uns w 0 w.heap.size A1 l1) :
    Calls Tryz.prog 6 #[.slice A0 s0.length c0, .slice A1 l1.length c1] w fun e w' => e = .returned (.bool true) ∧ Below w.heap.size w w' := by
  unfold maxLen at m0 m1
  have hn1 := szU_nonneg l1
  by_cases hbig : (1048576 : Int) < s0.length
  · go_enter Tryz.func6, Tryz.ntmps6
    go_wp2
    go_ret
    exact ⟨rfl, Below.refl _ _⟩
  · have hl0 : s0.length ≤ 1048576 := by omega
    have hL0 : (s0.length : Int) ≤ 1048576 := by omega
    by_cases hb : 1048576 - szU l1 < 0
    · have I0 := Lib.hid (show RI w A0 s0 from w0)
      have I1 := Lib.hid (show RU w A1 l1 from w1)
      clear w0 w1
      go_enter Tryz.func6, Tryz.ntmps6
      go_wp2_with fail
      refine (szQueryS_any A1 c1 l1 1048576 (by omega) (by omega) (by omega) _ (by first | exact I1.out | exact I1.out.step (below_drew _) | exact I1.out.step (below_alloc _ _) | exact I1.out.step (step (below_alloc _ _) (below_alloc _ _)))).mono ?_
      rintro e u1 ⟨he, d1⟩
      rw [if_pos (show 1048576 - szU l1 < 0 by omega)] at he
      subst he
      have b1 : Below w.heap.size w u1 := by first | exact d1 | exact und d1 | exact undN d1 | exact below_new d1 | exact und (below_new d1) | exact below_new (und d1) | exact below_new (below_new d1) | exact step (below_drew _) (und (below_new d1))
      have I0' := Lib.hid (I0.out.step b1)
      clear I0
      have I0 := I0'
      clear I0'
      have I1' := Lib.hid (I1.out.step b1)
      clear I1
      have I1 := I1'
      clear I1'
      have T1 := b1
      have Z1 := b1.size
      go_wp2
      go_ret
      exact ⟨rfl, T1⟩
    · skip
      have hz1 : szU l1 ≤ 1048576 := by omega
      have hl1 : l1.length ≤ 1048576 := szU_len hz1
      have hL1 : (l1.length : Int) ≤ 1048576 := by omega
      have hq2 : 0 ≤ 1048576 - szU l1 := by omega
      have hs1 : (sumU l1 : Int) ≤ 1048576 := by unfold szU at hz1; omega
      have hzr : szU (minU s0 l1) ≤ 1048576 := szU_minU s0 hz1
      have CS := Lib.hid fun (A : Option Addr) (c : Nat) (A' : Option Addr) (c' : Nat) (w : World) (h : RI w A s0) (h' : RU w A' l1) => (spec_MinimalUnion A c s0 A' c' l1 hl0 hz1 w h h').mono fun _ _ h => h.toX
      have CI := Lib.hid fun (A : Option Addr) (c : Nat) (A' : Option Addr) (c' : Nat) (w : World) (h : RI w A s0) (h' : RU w A' l1) => (impl_MinimalUnion A c s0 A' c' l1 hl0 hz1 w h h').mono fun _ _ h => h.toX
      generalize minU s0 l1 = res at hzr CS CI
      have hlr := szU_len hzr
      have hsr : (sumU res : Int) ≤ 1048576 := by unfold szU at hzr; omega
      have hsr0 : 0 ≤ (sumU res : Int) := by omega
      have hs10 : 0 ≤ (sumU l1 : Int) := by omega
      have I0 := Lib.hid (show RI w A0 s0 from w0)
      have I1 := Lib.hid (show RU w A1 l1 from w1)
      have I0w := Lib.hid w0
      have I1w := Lib.hid w1
      clear w0 w1
      go_enter Tryz.func6, Tryz.ntmps6
      go_wp2_with fail
      refine (szQueryS_any A1 c1 l1 1048576 (by omega) (by omega) (by omega) _ (by first | exact I1.out | exact I1.out.step (below_drew _) | exact I1.out.step (below_alloc _ _) | exact I1.out.step (step (below_alloc _ _) (below_alloc _ _)))).mono ?_
      rintro e u1 ⟨he, d1⟩
      rw [if_neg (show ¬ (1048576 - szU l1 < 0) by omega)] at he
      subst he
      have b1 : Below w.heap.size w u1 := by first | exact d1 | exact und d1 | exact undN d1 | exact below_new d1 | exact und (below_new d1) | exact below_new (und d1) | exact below_new (below_new d1) | exact step (below_drew _) (und (below_new d1))
      have I0' := Lib.hid (I0.out.step b1)
      clear I0
      have I0 := I0'
      clear I0'
      have I1' := Lib.hid (I1.out.step b1)
      clear I1
      have I1 := I1'
      clear I1'
      have T1 := b1
      have Z1 := b1.size
      go_wp2_with fail
      refine (toIntS_r A0 c0 s0 hl0 _ (by first | exact I0.out | exact I0.out.step (below_drew _) | exact I0.out.step (below_alloc _ _) | exact I0.out.step (step (below_alloc _ _) (below_alloc _ _)))).mono ?_
      rintro e u2 ⟨rfl, r2, d2, z2⟩
      have b2 : Below u1.heap.size u1 u2 := by first | exact d2 | exact und d2 | exact undN d2 | exact below_new d2 | exact und (below_new d2) | exact below_new (und d2) | exact below_new (below_new d2) | exact step (below_drew _) (und (below_new d2))
      have I0' := Lib.hid (I0.out.step b2)
      clear I0
      have I0 := I0'
      clear I0'
      have I1' := Lib.hid (I1.out.step b2)
      clear I1
      have I1 := I1'
      clear I1'
      have T2 := step T1 b2
      have Z2 := b2.size
      have R2 := Lib.hid r2.ri
      clear r2 z2
      go_wp2_with fail
      refine (toQueryS_r A1 c1 l1 hz1 _ (by first | exact I1.out | exact I1.out.step (below_drew _) | exact I1.out.step (below_alloc _ _) | exact I1.out.step (step (below_alloc _ _) (below_alloc _ _)))).mono ?_
      rintro e u3 ⟨rfl, r3, d3, z3⟩
      have b3 : Below u2.heap.size u2 u3 := by first | exact d3 | exact und d3 | exact undN d3 | exact below_new d3 | exact und (below_new d3) | exact below_new (und d3) | exact below_new (below_new d3) | exact step (below_drew _) (und (below_new d3))
      have I0' := Lib.hid (I0.out.step b3)
      clear I0
      have I0 := I0'
      clear I0'
      have I1' := Lib.hid (I1.out.step b3)
      clear I1
      have I1 := I1'
      clear I1'
      have R2' := Lib.hid (R2.out.step b3)
      clear R2
      have R2 := R2'
      clear R2'
      have T3 := step T2 b3
      have Z3 := b3.size
      have R3 := Lib.hid r3
      clear r3 z3
      go_wp2_with fail
      refine (CS.out _ _ _ _ _ (by first | exact R2.out | exact R2.out.step (below_drew _) | exact R2.out.step (below_alloc _ _) | exact R2.out.step (step (below_alloc _ _) (below_alloc _ _))) (by first | exact R3.out | exact R3.out.step (below_drew _) | exact R3.out.step (below_alloc _ _) | exact R3.out.step (step (below_alloc _ _) (below_alloc _ _)))).mono ?_
      rintro e u4 ⟨A4, cp4, rfl, p4, d4⟩
      have b4 : Below u3.heap.size u3 u4 := by first | exact d4 | exact und d4 | exact undN d4 | exact below_new d4 | exact und (below_new d4) | exact below_new (und d4) | exact below_new (below_new d4) | exact step (below_drew _) (und (below_new d4))
      have I0' := Lib.hid (I0.out.step b4)
      clear I0
      have I0 := I0'
      clear I0'
      have I1' := Lib.hid (I1.out.step b4)
      clear I1
      have I1 := I1'
      clear I1'
      have R2' := Lib.hid (R2.out.step b4)
      clear R2
      have R2 := R2'
      clear R2'
      have R3' := Lib.hid (R3.out.step b4)
      clear R3
      have R3 := R3'
      clear R3'
      have T4 := step T3 b4
      have Z4 := b4.size
      have P4 := Lib.hid p4
      clear p4
      go_wp2_with fail
      refine (toIntS_r A0 c0 s0 hl0 _ (by first | exact I0.out | exact I0.out.step (below_drew _) | exact I0.out.step (below_alloc _ _) | exact I0.out.step (step (below_alloc _ _) (below_alloc _ _)))).mono ?_
      rintro e u5 ⟨rfl, r5, d5, z5⟩
      have b5 : Below u4.heap.size u4 u5 := by first | exact d5 | exact und d5 | exact undN d5 | exact below_new d5 | exact und (below_new d5) | exact below_new (und d5) | exact below_new (below_new d5) | exact step (below_drew _) (und (below_new d5))
      have I0' := Lib.hid (I0.out.step b5)
      clear I0
      have I0 := I0'
      clear I0'
      have I1' := Lib.hid (I1.out.step b5)
      clear I1
      have I1 := I1'
      clear I1'
      have P4' := Lib.hid (P4.out.step b5)
      clear P4
      have P4 := P4'
      clear P4'
      have T5 := step T4 b5
      have Z5 := b5.size
      have R5 := Lib.hid r5
      have y5 : u4.heap.size + 1 = u5.heap.size := by omega
      clear r5 z5
      go_wp2_with fail
      refine (toQueryS_any A1 c1 l1 hz1 _ (by first | exact I1.out | exact I1.out.step (below_drew _) | exact I1.out.step (below_alloc _ _) | exact I1.out.step (step (below_alloc _ _) (below_alloc _ _)))).mono ?_
      rintro e u6 ⟨rfl, r6, d6, z6⟩
      have b6 : Below u5.heap.size u5 u6 := by first | exact d6 | exact und d6 | exact undN d6 | exact below_new d6 | exact und (below_new d6) | exact below_new (und d6) | exact below_new (below_new d6) | exact step (below_drew _) (und (below_new d6))
      have I0' := Lib.hid (I0.out.step b6)
      clear I0
      have I0 := I0'
      clear I0'
      have I1' := Lib.hid (I1.out.step b6)
      clear I1
      have I1 := I1'
      clear I1'
      have P4' := Lib.hid (P4.out.step b6)
      clear P4
      have P4 := P4'
      clear P4'
      have R5' := Lib.hid (R5.out.step b6)
      clear R5
      have R5 := R5'
      clear R5'
      have T6 := step T5 b6
      have Z6 := b6.size
      have Q6 := Lib.hid (show OX u6 u5.heap.size u6.heap.size u5.heap.size (l1.length * 2) l1 from ⟨r6, Nat.le_refl _⟩)
      have y6 := z6
      clear r6 z6
      go_wp2_with fail
      refine (CI.out _ _ _ _ _ (by first | exact R5.out.ri | exact (R5.out.step (below_drew _)).ri | exact (R5.out.step (below_alloc _ _)).ri) (by first | exact Q6.out.ru | exact (Q6.out.step (below_drew _)).ru | exact (Q6.out.step (below_alloc _ _)).ru)).mono ?_
      rintro e u7 ⟨g7, cp7, mp7, rfl, p7, d7⟩
      have b7 : Below u6.heap.size u6 u7 := by first | exact d7 | exact und d7 | exact undN d7 | exact below_new d7 | exact und (below_new d7) | exact below_new (und d7) | exact below_new (below_new d7) | exact step (below_drew _) (und (below_new d7))
      have I0' := Lib.hid (I0.out.step b7)
      clear I0
      have I0 := I0'
      clear I0'
      have I1' := Lib.hid (I1.out.step b7)
      clear I1
      have I1 := I1'
      clear I1'
      have P4' := Lib.hid (P4.out.step b7)
      clear P4
      have P4 := P4'
      clear P4'
      have R5' := Lib.hid (R5.out.step b7)
      clear R5
      have R5 := R5'
      clear R5'
      have Q6' := Lib.hid (Q6.out.step b7)
      clear Q6
      have Q6 := Q6'
      clear Q6'
      have T7 := step T6 b7
      have Z7 := b7.size
      have P7 := Lib.hid p7
      clear p7
      go_wp2_with fail
      refine (eqQueryS_r _ _ _ _ res hzr _ (by first | exact P7.out.ru | exact (P7.out.step (below_drew _)).ru | exact (P7.out.step (below_alloc _ _)).ru) (by first | exact P4.out.ru | exact (P4.out.step (below_drew _)).ru | exact (P4.out.step (below_alloc _ _)).ru)).mono ?_
      rintro e u8 ⟨rfl, d8⟩
      have b8 : Below u7.heap.size u7 u8 := by first | exact d8 | exact und d8 | exact undN d8 | exact below_new d8 | exact und (below_new d8) | exact below_new (und d8) | exact below_new (below_new d8) | exact step (below_drew _) (und (below_new d8))
      have I0' := Lib.hid (I0.out.step b8)
      clear I0
      have I0 := I0'
      clear I0'
      have I1' := Lib.hid (I1.out.step b8)
      clear I1
      have I1 := I1'
      clear I1'
      have P4' := Lib.hid (P4.out.step b8)
      clear P4
      have P4 := P4'
      clear P4'
      have R5' := Lib.hid (R5.out.step b8)
      clear R5
      have R5 := R5'
      clear R5'
      have Q6' := Lib.hid (Q6.out.step b8)
      clear Q6
      have Q6 := Q6'
      clear Q6'
      have P7' := Lib.hid (P7.out.step b8)
      clear P7
      have P7 := P7'
      clear P7'
      have T8 := step T7 b8
      have Z8 := b8.size
      go_wp2_with fail
      refine (toIntS_r A0 c0 s0 hl0 _ (by first | exact I0.out | exact I0.out.step (below_drew _) | exact I0.out.step (below_alloc _ _) | exact I0.out.step (step (below_alloc _ _) (below_alloc _ _)))).mono ?_
      rintro e u9 ⟨rfl, r9, d9, z9⟩
      have b9 : Below u8.heap.size u8 u9 := by first | exact d9 | exact und d9 | exact undN d9 | exact below_new d9 | exact und (below_new d9) | exact below_new (und d9) | exact below_new (below_new d9) | exact step (below_drew _) (und (below_new d9))
      have I0' := Lib.hid (I0.out.step b9)
      clear I0
      have I0 := I0'
      clear I0'
      have I1' := Lib.hid (I1.out.step b9)
      clear I1
      have I1 := I1'
      clear I1'
      have P4' := Lib.hid (P4.out.step b9)
      clear P4
      have P4 := P4'
      clear P4'
      have R5' := Lib.hid (R5.out.step b9)
      clear R5
      have R5 := R5'
      clear R5'
      have Q6' := Lib.hid (Q6.out.step b9)
      clear Q6
      have Q6 := Q6'
      clear Q6'
      have P7' := Lib.hid (P7.out.step b9)
      clear P7
      have P7 := P7'
      clear P7'
      have T9 := step T8 b9
      have Z9 := b9.size
      have R9 := Lib.hid r9.ri
      clear r9 z9
      go_wp2_with fail
      refine (eqIntS_r _ _ _ _ s0 hl0 _ (by first | exact R5.out.ri | exact (R5.out.step (below_drew _)).ri | exact (R5.out.step (below_alloc _ _)).ri) (by first | exact R9.out | exact R9.out.step (below_drew _) | exact R9.out.step (below_alloc _ _) | exact R9.out.step (step (below_alloc _ _) (below_alloc _ _)))).mono ?_
      rintro e u10 ⟨rfl, d10⟩
      have b10 : Below u9.heap.size u9 u10 := by first | exact d10 | exact und d10 | exact undN d10 | exact below_new d10 | exact und (below_new d10) | exact below_new (und d10) | exact below_new (below_new d10) | exact step (below_drew _) (und (below_new d10))
      have I0' := Lib.hid (I0.out.step b10)
      clear I0
      have I0 := I0'
      clear I0'
      have I1' := Lib.hid (I1.out.step b10)
      clear I1
      have I1 := I1'
      clear I1'
      have P4' := Lib.hid (P4.out.step b10)
      clear P4
      have P4 := P4'
      clear P4'
      have R5' := Lib.hid (R5.out.step b10)
      clear R5
      have R5 := R5'
      clear R5'
      have Q6' := Lib.hid (Q6.out.step b10)
      clear Q6
      have Q6 := Q6'
      clear Q6'
      have P7' := Lib.hid (P7.out.step b10)
      clear P7
      have P7 := P7'
      clear P7'
      have R9' := Lib.hid (R9.out.step b10)
      clear R9
      have R9 := R9'
      clear R9'
      have T10 := step T9 b10
      have Z10 := b10.size
      go_wp2_with fail
      refine (toQueryS_r A1 c1 l1 hz1 _ (by first | exact I1.out | exact I1.out.step (below_drew _) | exact I1.out.step (below_alloc _ _) | exact I1.out.step (step (below_alloc _ _) (below_alloc _ _)))).mono ?_
      rintro e u11 ⟨rfl, r11, d11, z11⟩
      have b11 : Below u10.heap.size u10 u11 := by first | exact d11 | exact und d11 | exact undN d11 | exact below_new d11 | exact und (below_new d11) | exact below_new (und d11) | exact below_new (below_new d11) | exact step (below_drew _) (und (below_new d11))
      have I0' := Lib.hid (I0.out.step b11)
      clear I0
      have I0 := I0'
      clear I0'
      have I1' := Lib.hid (I1.out.step b11)
      clear I1
      have I1 := I1'
      clear I1'
      have P4' := Lib.hid (P4.out.step b11)
      clear P4
      have P4 := P4'
      clear P4'
      have R5' := Lib.hid (R5.out.step b11)
      clear R5
      have R5 := R5'
      clear R5'
      have Q6' := Lib.hid (Q6.out.step b11)
      clear Q6
      have Q6 := Q6'
      clear Q6'
      have P7' := Lib.hid (P7.out.step b11)
      clear P7
      have P7 := P7'
      clear P7'
      have T11 := step T10 b11
      have Z11 := b11.size
      have R11 := Lib.hid r11
      clear r11 z11
      go_wp2_with fail
      refine (eqQueryS_r _ _ _ _ l1 hz1 _ (by first | exact Q6.out.ru | exact (Q6.out.step (below_drew _)).ru | exact (Q6.out.step (below_alloc _ _)).ru) (by first | exact R11.out | exact R11.out.step (below_drew _) | exact R11.out.step (below_alloc _ _) | exact R11.out.step (step (below_alloc _ _) (below_alloc _ _)))).mono ?_
      rintro e u12 ⟨rfl, d12⟩
      have b12 : Below u11.heap.size u11 u12 := by first | exact d12 | exact und d12 | exact undN d12 | exact below_new d12 | exact und (below_new d12) | exact below_new (und d12) | exact below_new (below_new d12) | exact step (below_drew _) (und (below_new d12))
      have I0' := Lib.hid (I0.out.step b12)
      clear I0
      have I0 := I0'
      clear I0'
      have I1' := Lib.hid (I1.out.step b12)
      clear I1
      have I1 := I1'
      clear I1'
      have P4' := Lib.hid (P4.out.step b12)
      clear P4
      have P4 := P4'
      clear P4'
      have R5' := Lib.hid (R5.out.step b12)
      clear R5
      have R5 := R5'
      clear R5'
      have Q6' := Lib.hid (Q6.out.step b12)
      clear Q6
      have Q6 := Q6'
      clear Q6'
      have P7' := Lib.hid (P7.out.step b12)
      clear P7
      have P7 := P7'
      clear P7'
      have R11' := Lib.hid (R11.out.step b12)
      clear R11
      have R11 := R11'
      clear R11'
      have T12 := step T11 b12
      have Z12 := b12.size
      have k4 : w.heap.size ≤ u4.heap.size := by omega
      have k5 : u4.heap.size < u5.heap.size := by omega
      have k7 := Q6.out.rng
      have k8 := P7.out.rng
      have k6 : u6.heap.size ≤ u12.heap.size := by omega
      go_wp2_with fail
      refine (markIntS_any _ u4.heap.size _ s0.length s0.length 1 _ hl0 (by omega) (by omega) (fun i => .int .i64 (s0.getD i 0)) (fun _ => rfl) (Nat.le_refl _) (fun _ => R5.out)).mono ?_
      rintro e v1 ⟨rfl, W1, _⟩
      have s1' : v1.heap.size = u12.heap.size := W1.size
      have P4a := Lib.hid (P4.out.keep (w' := v1) (fun b h2 => W1.block b (.inl h2)) (by omega))
      have P7a := Lib.hid (P7.out.keep (w' := v1) (fun b h1 _ => W1.block b (.inr (by omega))) (by omega))
      have Q6a := Lib.hid (Q6.out.keep (w' := v1) (fun b h1 _ => W1.block b (.inr (by omega))) (by omega))
      have TA := Lib.hid (T12.trans (W1.below.mono k4))
      clear W1 P4 P7 R5 Q6
      have hm1 : 0 ≤ 1 + (s0.length : Int) := by omega
      go_wp2_with fail
      refine (markQueryS_x u5.heap.size u6.heap.size u5.heap.size _ _ l1 (1 + (s0.length : Int)) (by omega) (by omega) hz1 _ Q6a.out).mono ?_
      rintro e v2 ⟨rfl, _, W2⟩
      have s2' : v2.heap.size = v1.heap.size := W2.size
      have P4b := Lib.hid (P4a.out.keep (w' := v2) (fun b h2 => W2.block b (.inl (by omega))) (by omega))
      have P7b := Lib.hid (P7a.out.keep (w' := v2) (fun b h1 h2 => W2.block b (.inr (by omega))) (by omega))
      have TB := Lib.hid (TA.out.trans (W2.below.mono (by omega)))
      have hk2 : 0 ≤ 1 + (s0.length : Int) + (sumU l1 : Int) := by omega
      have hk2' : ¬ (1 + (s0.length : Int) + (sumU l1 : Int) < 0) := by omega
      clear W2 P4a P7a Q6a TA
      go_wp2_with fail
      refine (eqQueryS_r _ _ _ _ res hzr _ P7b.out.ru P4b.out.ru).mono ?_
      rintro e v3 ⟨rfl, D3⟩
      have P4c := Lib.hid (P4b.out.step D3)
      have P7c := Lib.hid (P7b.out.step D3)
      have TC := Lib.hid (step TB.out D3)
      have s3' := D3.size
      clear D3 P4b P7b TB
      go_wp2_with fail
      refine (markQueryS_x u6.heap.size u7.heap.size g7 mp7 cp7 res 1 (by omega) (by omega) hzr _ P7c.out).mono ?_
      rintro e v4 ⟨rfl, hr4, W4⟩
      have P4d := Lib.hid (P4c.out.keep (w' := v4) (fun b h2 => W4.block b (.inl (by omega))) (by have := W4.size; omega))
      have TV := TC.out.trans (W4.below.mono (by omega))
      have HR := Lib.hid hr4
      have I0v := Lib.hid ((show RI w A0 s0 from I0w.out).step TV)
      have I1v := Lib.hid ((show RU w A1 l1 from I1w.out).step TV)
      have hq0 : ¬ (1 + (sumU res : Int) < 0) := by omega
      have hq1 : 0 ≤ 1 + (sumU res : Int) := by omega
      clear W4 P4c P7c TC hr4
      go_wp2_with fail
      refine (heldQueryS_any (some ⟨g7, 0, none⟩) _ res 1 (by omega) (by omega) hzr _ HR.out.ru).mono ?_
      rintro e v5 ⟨rfl, rfl⟩
      go_wp2_with fail
      refine (toIntS_r A0 c0 s0 hl0 _ (by first | exact I0v.out | exact I0v.out.step (below_drew _) | exact I0v.out.step (below_alloc _ _) | exact I0v.out.step (step (below_alloc _ _) (below_alloc _ _)))).mono ?_
      rintro e u31 ⟨rfl, r31, d31, z31⟩
      have b31 : Below v4.heap.size v4 u31 := by first | exact d31 | exact und d31 | exact undN d31 | exact below_new d31 | exact und (below_new d31) | exact below_new (und d31) | exact below_new (below_new d31) | exact step (below_drew _) (und (below_new d31))
      have I0v' := Lib.hid (I0v.out.step b31)
      clear I0v
      have I0v := I0v'
      clear I0v'
      have I1v' := Lib.hid (I1v.out.step b31)
      clear I1v
      have I1v := I1v'
      clear I1v'
      have P4d' := Lib.hid (P4d.out.step b31)
      clear P4d
      have P4d := P4d'
      clear P4d'
      have HR' := Lib.hid (HR.out.step b31)
      clear HR
      have HR := HR'
      clear HR'
      have T31 := step TV b31
      have Z31 := b31.size
      have R31 := Lib.hid r31.ri
      clear r31 z31
      go_wp2_with fail
      refine (toQueryS_r A1 c1 l1 hz1 _ (by first | exact I1v.out | exact I1v.out.step (below_drew _) | exact I1v.out.step (below_alloc _ _) | exact I1v.out.step (step (below_alloc _ _) (below_alloc _ _)))).mono ?_
      rintro e u32 ⟨rfl, r32, d32, z32⟩
      have b32 : Below u31.heap.size u31 u32 := by first | exact d32 | exact und d32 | exact undN d32 | exact below_new d32 | exact und (below_new d32) | exact below_new (und d32) | exact below_new (below_new d32) | exact step (below_drew _) (und (below_new d32))
      have I0v' := Lib.hid (I0v.out.step b32)
      clear I0v
      have I0v := I0v'
      clear I0v'
      have I1v' := Lib.hid (I1v.out.step b32)
      clear I1v
      have I1v := I1v'
      clear I1v'
      have P4d' := Lib.hid (P4d.out.step b32)
      clear P4d
      have P4d := P4d'
      clear P4d'
      have HR' := Lib.hid (HR.out.step b32)
      clear HR
      have HR := HR'
      clear HR'
      have R31' := Lib.hid (R31.out.step b32)
      clear R31
      have R31 := R31'
      clear R31'
      have T32 := step T31 b32
      have Z32 := b32.size
      have R32 := Lib.hid r32
      clear r32 z32
      go_wp2_with fail
      refine (CI.out _ _ _ _ _ (by first | exact R31.out | exact R31.out.step (below_drew _) | exact R31.out.step (below_alloc _ _) | exact R31.out.step (step (below_alloc _ _) (below_alloc _ _))) (by first | exact R32.out | exact R32.out.step (below_drew _) | exact R32.out.step (below_alloc _ _) | exact R32.out.step (step (below_alloc _ _) (below_alloc _ _)))).mono ?_
      rintro e u33 ⟨g33, cp33, mp33, rfl, p33, d33⟩
      have b33 : Below u32.heap.size u32 u33 := by first | exact d33 | exact und d33 | exact undN d33 | exact below_new d33 | exact und (below_new d33) | exact below_new (und d33) | exact below_new (below_new d33) | exact step (below_drew _) (und (below_new d33))
      have I0v' := Lib.hid (I0v.out.step b33)
      clear I0v
      have I0v := I0v'
      clear I0v'
      have I1v' := Lib.hid (I1v.out.step b33)
      clear I1v
      have I1v := I1v'
      clear I1v'
      have P4d' := Lib.hid (P4d.out.step b33)
      clear P4d
      have P4d := P4d'
      clear P4d'
      have HR' := Lib.hid (HR.out.step b33)
      clear HR
      have HR := HR'
      clear HR'
      have R31' := Lib.hid (R31.out.step b33)
      clear R31
      have R31 := R31'
      clear R31'
      have R32' := Lib.hid (R32.out.step b33)
      clear R32
      have R32 := R32'
      clear R32'
      have T33 := step T32 b33
      have Z33 := b33.size
      have P33 := Lib.hid p33
      clear p33
      go_wp2_with fail
      refine (eqQueryS_r _ _ _ _ res hzr _ (by first | exact P33.out.ru | exact (P33.out.step (below_drew _)).ru | exact (P33.out.step (below_alloc _ _)).ru) (by first | exact P4d.out.ru | exact (P4d.out.step (below_drew _)).ru | exact (P4d.out.step (below_alloc _ _)).ru)).mono ?_
      rintro e u34 ⟨rfl, d34⟩
      have b34 : Below u33.heap.size u33 u34 := by first | exact d34 | exact und d34 | exact undN d34 | exact below_new d34 | exact und (below_new d34) | exact below_new (und d34) | exact below_new (below_new d34) | exact step (below_drew _) (und (below_new d34))
      have I0v' := Lib.hid (I0v.out.step b34)
      clear I0v
      have I0v := I0v'
      clear I0v'
      have I1v' := Lib.hid (I1v.out.step b34)
      clear I1v
      have I1v := I1v'
      clear I1v'
      have P4d' := Lib.hid (P4d.out.step b34)
      clear P4d
      have P4d := P4d'
      clear P4d'
      have HR' := Lib.hid (HR.out.step b34)
      clear HR
      have HR := HR'
      clear HR'
      have P33' := Lib.hid (P33.out.step b34)
      clear P33
      have P33 := P33'
      clear P33'
      have T34 := step T33 b34
      have Z34 := b34.size
      go_wp2_with fail
      refine (heldQueryS_any (some ⟨g7, 0, none⟩) _ res 1 (by omega) (by omega) hzr _ HR.out.ru).mono ?_
      rintro e v9 ⟨rfl, rfl⟩
      go_wp2
      go_ret
      exact ⟨rfl, T34⟩

set_option maxRecDepth 100000 in
theorem lifted (os : Os) (started : os.Started) (H : Type) (enc : TypeId × Value → H) :
    ReturnsInHanded {} Tryz.checked os 6 .any (Rows.fnExactMinimalUnionSpec.pre6 enc Tryz.prog Tryz.f6 Rows.fnExactMinimalUnionRow.domain false) (Rows.fnExactMinimalUnionSpec.post enc Tryz.prog Tryz.f6 false true false false) := by
  refine returnsInHanded_of_change (C := Tryz.checked) own started (by kernel_rfl) Tryz.func6
    (ChangeSpec.witness6 (enc := enc) (C := Tryz.checked) false ⟨#[], #[.slice none 0 0, .slice none 0 0], []⟩ 8 (by kernel_rfl) (by kernel_rfl) (by kernel_rfl) (by kernel_rfl)) ?_
  intro W base args ds gs before hval0 hW hcnd _
  have hval : ∀ (j : Nat) t v, Tryz.f6.params[j]? = some t → args[j]? = some v → Value.okWide Tryz.prog W .any base t v := hval0
  have hpost := fun (W' : World) (hfn : Rows.fnExactMinimalUnionSpec.fn H (ds ++ gs) = { results := [.lit (.bool true)], args := ds }) (hb : Below W.heap.size W W') => law_post (enc := enc) laidOut (f := Tryz.f6) (s := Rows.fnExactMinimalUnionSpec) (args := args) rfl rfl Tryz.underlying4 (by intro t ht; rw [Tryz.params6] at ht; simp at ht; rcases ht with rfl | rfl <;> exact ⟨by kernel_rfl, of_decide_eq_true (by kernel_rfl)⟩) hW hfn hb
  obtain ⟨p, q, hA0, hV, rfl, hfz, hnd⟩ := hW
  have hA : DataW.TrodAll enc Tryz.prog W 0 (fun _ => true) true Tryz.f6.params.toList args.toList ds p := hA0
  rw [Tryz.params6] at hA hval
  obtain ⟨v0, vs0, d0, ds0, p0, q0, hargs, rfl, rfl, h0, r0⟩ := trodAll_cons hA
  obtain ⟨v1, vs1, d1, ds1, p1, q1, rfl, rfl, rfl, h1, r1⟩ := trodAll_cons r0
  obtain ⟨rfl, rfl, rfl⟩ := trodAll_nil r1
  obtain rfl : args = #[v0, v1] := by cases args; simp_all
  obtain ⟨rfl, rfl⟩ := trodVars_none hV
  obtain ⟨A0, c0, s0, rfl, l0, m0, w0⟩ := open_numsT Tryz.underlying22 Tryz.underlying3 (by kernel_rfl) (hval 0 22 v0 rfl rfl) h0
  obtain ⟨A1, c1, l1, rfl, k1, m1, w1⟩ := open_queriesT (hval 1 38 v1 rfl rfl) h1
  refine (walk W A0 c0 s0 l0 m0 w0 A1 c1 l1 k1 m1 w1).mono fun e W' ⟨he, hg⟩ => ?_
  subst he
  exact ⟨_, rfl, hpost W' rfl hg⟩

theorem over : Rows.fnExactMinimalUnionRow.holds Tryz.pinned (OpenSpec.ofChange Rows.fnExactMinimalUnionSpec) :=
  OpenClaim.holds_of_wide 6 Tryz.f6 rfl rfl rfl rfl rfl rfl rfl ⟨rfl, rfl, rfl, rfl, rfl⟩ rfl rfl rfl rfl rfl (by kernel_rfl) Tryz.func6 (by kernel_rfl)
    (of_decide_eq_true (by kernel_rfl)) (by unfold Func.isWrapper; first | (rw [if_pos (by decide +kernel)]; kernel_rfl) | (rw [if_neg (by decide +kernel)]; exact ⟨rfl, rfl⟩))
    (fun os started H enc _ => lifted os started H enc)
end Go.Proofs.YtimlpdcambmcjaaGreat.fnExactMinimalUnion
namespace Go.Proofs.YtimlpdcambmcjaaGreat
theorem fnExactMinimalUnion_holds : Rows.FnExactMinimalUnionSaid := fnExactMinimalUnion.over
#print axioms fnExactMinimalUnion_holds
end Go.Proofs.YtimlpdcambmcjaaGreat
