/- impl.IsUnion answers as its model at every argument: the law FnExactIsUnion returns true. Conditions: none beyond the statement's own. -/
import Derived.Test.YtimlpdcambmcjaaUnB
namespace Go.Proofs.Ytimlpdcambmcjaa.fnExactIsUnion
open Go.ChangeShapes Go.WideShapes Go.ChangeAt Go.RowKit
open Go.ChangeMaps (open_string shut_string)
set_option linter.unusedVariables false
set_option linter.unusedSimpArgs false

set_option maxRecDepth 100000 in
set_option maxHeartbeats 1000000 in
theorem walk (w : World) (A0 : Option Addr) (c0 : Nat) (s0 : List Int) (l0 : s0.length ≤ c0) (m0 : c0 ≤ maxLen) (w0 : Ints w 0 w.heap.size A0 s0) (A1 : Option Addr) (c1 : Nat) (l1 : UL) (k1 : l1.length ≤ c1) (m1 : c1 ≤ maxLen) (w1 : Uns w 0 w.heap.size A1 l1) :
    Calls Try.prog 5 #[.slice A0 s0.length c0, .slice A1 l1.length c1] w fun e w' => e = .returned (.bool true) ∧ Below w.heap.size w w' := by
  unfold maxLen at m0 m1
  have hn1 := szU_nonneg l1
  by_cases hb0 : (1048576 : Int) < s0.length
  · have I0 := Lib.hid (show RI w A0 s0 from w0)
    have I1 := Lib.hid (show RU w A1 l1 from w1)
    clear w0 w1
    go_enter Try.func5, Try.ntmps5
    go_wp2
    go_ret
    exact ⟨rfl, Below.refl _ _⟩
  · skip
    by_cases hb1 : 1048576 - szU l1 < 0
    · have I0 := Lib.hid (show RI w A0 s0 from w0)
      have I1 := Lib.hid (show RU w A1 l1 from w1)
      clear w0 w1
      go_enter Try.func5, Try.ntmps5
      go_wp2_with fail
      refine (szQueryS_any A1 c1 l1 1048576 (by omega) (by omega) (by omega) _ (by first | exact I1.out | exact I1.out.step (below_drew _) | exact I1.out.step (below_alloc _ _) | exact I1.out.step (step (below_alloc _ _) (below_alloc _ _)))).mono ?_
      rintro e u1 ⟨he, d1⟩
      rw [if_pos (show 1048576 - szU l1 < 0 by omega)] at he
      subst he
      have b1 : Below w.heap.size w u1 := by first | exact d1 | exact und d1 | exact undN d1 | exact below_new d1 | exact und (below_new d1) | exact below_new (und d1) | exact below_new (below_new d1) | exact step (below_drew _) (und (below_new d1))
      have I0' := Lib.hid (I0.out.step b1)
      clear I0
      have I0 := I0'
      clear I0'
      have I1' := Lib.hid (I1.out.step b1)
      clear I1
      have I1 := I1'
      clear I1'
      have T1 := b1
      have Z1 := b1.size
      go_wp2
      go_ret
      exact ⟨rfl, T1⟩
    · skip
      have hl0 : s0.length ≤ 1048576 := by omega
      have hL0 : (s0.length : Int) ≤ 1048576 := by omega
      have hz1 : szU l1 ≤ 1048576 := by omega
      have hl1 : l1.length ≤ 1048576 := szU_len hz1
      have hL1 : (l1.length : Int) ≤ 1048576 := by omega
      have I0 := Lib.hid (show RI w A0 s0 from w0)
      have I1 := Lib.hid (show RU w A1 l1 from w1)
      clear w0 w1
      go_enter Try.func5, Try.ntmps5
      go_wp2_with fail
      refine (szQueryS_any A1 c1 l1 1048576 (by omega) (by omega) (by omega) _ (by first | exact I1.out | exact I1.out.step (below_drew _) | exact I1.out.step (below_alloc _ _) | exact I1.out.step (step (below_alloc _ _) (below_alloc _ _)))).mono ?_
      rintro e u1 ⟨he, d1⟩
      rw [if_neg (show ¬ (1048576 - szU l1 < 0) by omega)] at he
      subst he
      have b1 : Below w.heap.size w u1 := by first | exact d1 | exact und d1 | exact undN d1 | exact below_new d1 | exact und (below_new d1) | exact below_new (und d1) | exact below_new (below_new d1) | exact step (below_drew _) (und (below_new d1))
      have I0' := Lib.hid (I0.out.step b1)
      clear I0
      have I0 := I0'
      clear I0'
      have I1' := Lib.hid (I1.out.step b1)
      clear I1
      have I1 := I1'
      clear I1'
      have T1 := b1
      have Z1 := b1.size
      go_wp2_with fail
      refine (toIntS_r A0 c0 s0 hl0 _ (by first | exact I0.out | exact I0.out.step (below_drew _) | exact I0.out.step (below_alloc _ _) | exact I0.out.step (step (below_alloc _ _) (below_alloc _ _)))).mono ?_
      rintro e u2 ⟨rfl, r2, d2, z2⟩
      have b2 : Below u1.heap.size u1 u2 := by first | exact d2 | exact und d2 | exact undN d2 | exact below_new d2 | exact und (below_new d2) | exact below_new (und d2) | exact below_new (below_new d2) | exact step (below_drew _) (und (below_new d2))
      have I0' := Lib.hid (I0.out.step b2)
      clear I0
      have I0 := I0'
      clear I0'
      have I1' := Lib.hid (I1.out.step b2)
      clear I1
      have I1 := I1'
      clear I1'
      have T2 := step T1 b2
      have Z2 := b2.size
      try rw [al_size] at r2
      have R2 := Lib.hid r2.ri
      clear r2 z2
      go_wp2_with fail
      refine (toQueryS_r A1 c1 l1 hz1 _ (by first | exact I1.out | exact I1.out.step (below_drew _) | exact I1.out.step (below_alloc _ _) | exact I1.out.step (step (below_alloc _ _) (below_alloc _ _)))).mono ?_
      rintro e u3 ⟨rfl, r3, d3, z3⟩
      have b3 : Below u2.heap.size u2 u3 := by first | exact d3 | exact und d3 | exact undN d3 | exact below_new d3 | exact und (below_new d3) | exact below_new (und d3) | exact below_new (below_new d3) | exact step (below_drew _) (und (below_new d3))
      have I0' := Lib.hid (I0.out.step b3)
      clear I0
      have I0 := I0'
      clear I0'
      have I1' := Lib.hid (I1.out.step b3)
      clear I1
      have I1 := I1'
      clear I1'
      have R2' := Lib.hid (R2.out.step b3)
      clear R2
      have R2 := R2'
      clear R2'
      have T3 := step T2 b3
      have Z3 := b3.size
      try rw [al_size] at r3
      have R3 := Lib.hid r3
      clear r3 z3
      go_wp2_with fail
      refine (spec_IsUnion _ _ s0 _ _ l1 hl0 hz1 _ (by first | exact R2.out | exact R2.out.step (below_drew _) | exact R2.out.step (below_alloc _ _) | exact R2.out.step (step (below_alloc _ _) (below_alloc _ _))) (by first | exact R3.out | exact R3.out.step (below_drew _) | exact R3.out.step (below_alloc _ _) | exact R3.out.step (step (below_alloc _ _) (below_alloc _ _)))).mono ?_
      rintro e u4 ⟨rfl, d4⟩
      have b4 : Below u3.heap.size u3 u4 := by first | exact d4 | exact und d4 | exact undN d4 | exact below_new d4 | exact und (below_new d4) | exact below_new (und d4) | exact below_new (below_new d4) | exact step (below_drew _) (und (below_new d4))
      have I0' := Lib.hid (I0.out.step b4)
      clear I0
      have I0 := I0'
      clear I0'
      have I1' := Lib.hid (I1.out.step b4)
      clear I1
      have I1 := I1'
      clear I1'
      have R2' := Lib.hid (R2.out.step b4)
      clear R2
      have R2 := R2'
      clear R2'
      have R3' := Lib.hid (R3.out.step b4)
      clear R3
      have R3 := R3'
      clear R3'
      have T4 := step T3 b4
      have Z4 := b4.size
      go_wp2_with fail
      refine (toIntS_r A0 c0 s0 hl0 _ (by first | exact I0.out | exact I0.out.step (below_drew _) | exact I0.out.step (below_alloc _ _) | exact I0.out.step (step (below_alloc _ _) (below_alloc _ _)))).mono ?_
      rintro e u5 ⟨rfl, r5, d5, z5⟩
      have b5 : Below u4.heap.size u4 u5 := by first | exact d5 | exact und d5 | exact undN d5 | exact below_new d5 | exact und (below_new d5) | exact below_new (und d5) | exact below_new (below_new d5) | exact step (below_drew _) (und (below_new d5))
      have I0' := Lib.hid (I0.out.step b5)
      clear I0
      have I0 := I0'
      clear I0'
      have I1' := Lib.hid (I1.out.step b5)
      clear I1
      have I1 := I1'
      clear I1'
      have T5 := step T4 b5
      have Z5 := b5.size
      try rw [al_size] at r5
      have R5 := Lib.hid r5.ri
      clear r5 z5
      go_wp2_with fail
      refine (toQueryS_r A1 c1 l1 hz1 _ (by first | exact I1.out | exact I1.out.step (below_drew _) | exact I1.out.step (below_alloc _ _) | exact I1.out.step (step (below_alloc _ _) (below_alloc _ _)))).mono ?_
      rintro e u6 ⟨rfl, r6, d6, z6⟩
      have b6 : Below u5.heap.size u5 u6 := by first | exact d6 | exact und d6 | exact undN d6 | exact below_new d6 | exact und (below_new d6) | exact below_new (und d6) | exact below_new (below_new d6) | exact step (below_drew _) (und (below_new d6))
      have I0' := Lib.hid (I0.out.step b6)
      clear I0
      have I0 := I0'
      clear I0'
      have I1' := Lib.hid (I1.out.step b6)
      clear I1
      have I1 := I1'
      clear I1'
      have R5' := Lib.hid (R5.out.step b6)
      clear R5
      have R5 := R5'
      clear R5'
      have T6 := step T5 b6
      have Z6 := b6.size
      try rw [al_size] at r6
      have R6 := Lib.hid r6
      clear r6 z6
      go_wp2_with fail
      refine (impl_IsUnion _ _ s0 _ _ l1 hl0 hz1 _ (by first | exact R5.out | exact R5.out.step (below_drew _) | exact R5.out.step (below_alloc _ _) | exact R5.out.step (step (below_alloc _ _) (below_alloc _ _))) (by first | exact R6.out | exact R6.out.step (below_drew _) | exact R6.out.step (below_alloc _ _) | exact R6.out.step (step (below_alloc _ _) (below_alloc _ _)))).mono ?_
      rintro e u7 ⟨rfl, d7⟩
      have b7 : Below u6.heap.size u6 u7 := by first | exact d7 | exact und d7 | exact undN d7 | exact below_new d7 | exact und (below_new d7) | exact below_new (und d7) | exact below_new (below_new d7) | exact step (below_drew _) (und (below_new d7))
      have I0' := Lib.hid (I0.out.step b7)
      clear I0
      have I0 := I0'
      clear I0'
      have I1' := Lib.hid (I1.out.step b7)
      clear I1
      have I1 := I1'
      clear I1'
      have R5' := Lib.hid (R5.out.step b7)
      clear R5
      have R5 := R5'
      clear R5'
      have R6' := Lib.hid (R6.out.step b7)
      clear R6
      have R6 := R6'
      clear R6'
      have T7 := step T6 b7
      have Z7 := b7.size
      go_wp2_with fail
      refine (toIntS_r A0 c0 s0 hl0 _ (by first | exact I0.out | exact I0.out.step (below_drew _) | exact I0.out.step (below_alloc _ _) | exact I0.out.step (step (below_alloc _ _) (below_alloc _ _)))).mono ?_
      rintro e u8 ⟨rfl, r8, d8, z8⟩
      have b8 : Below u7.heap.size u7 u8 := by first | exact d8 | exact und d8 | exact undN d8 | exact below_new d8 | exact und (below_new d8) | exact below_new (und d8) | exact below_new (below_new d8) | exact step (below_drew _) (und (below_new d8))
      have I0' := Lib.hid (I0.out.step b8)
      clear I0
      have I0 := I0'
      clear I0'
      have I1' := Lib.hid (I1.out.step b8)
      clear I1
      have I1 := I1'
      clear I1'
      have R5' := Lib.hid (R5.out.step b8)
      clear R5
      have R5 := R5'
      clear R5'
      have R6' := Lib.hid (R6.out.step b8)
      clear R6
      have R6 := R6'
      clear R6'
      have T8 := step T7 b8
      have Z8 := b8.size
      try rw [al_size] at r8
      have R8 := Lib.hid r8.ri
      clear r8 z8
      go_wp2_with fail
      refine (eqIntS_r _ _ _ _ s0 hl0 _ (by first | exact R5.out | exact R5.out.step (below_drew _) | exact R5.out.step (below_alloc _ _) | exact R5.out.step (step (below_alloc _ _) (below_alloc _ _))) (by first | exact R8.out | exact R8.out.step (below_drew _) | exact R8.out.step (below_alloc _ _) | exact R8.out.step (step (below_alloc _ _) (below_alloc _ _)))).mono ?_
      rintro e u9 ⟨rfl, d9⟩
      have b9 : Below u8.heap.size u8 u9 := by first | exact d9 | exact und d9 | exact undN d9 | exact below_new d9 | exact und (below_new d9) | exact below_new (und d9) | exact below_new (below_new d9) | exact step (below_drew _) (und (below_new d9))
      have I0' := Lib.hid (I0.out.step b9)
      clear I0
      have I0 := I0'
      clear I0'
      have I1' := Lib.hid (I1.out.step b9)
      clear I1
      have I1 := I1'
      clear I1'
      have R5' := Lib.hid (R5.out.step b9)
      clear R5
      have R5 := R5'
      clear R5'
      have R6' := Lib.hid (R6.out.step b9)
      clear R6
      have R6 := R6'
      clear R6'
      have R8' := Lib.hid (R8.out.step b9)
      clear R8
      have R8 := R8'
      clear R8'
      have T9 := step T8 b9
      have Z9 := b9.size
      go_wp2_with fail
      refine (toQueryS_r A1 c1 l1 hz1 _ (by first | exact I1.out | exact I1.out.step (below_drew _) | exact I1.out.step (below_alloc _ _) | exact I1.out.step (step (below_alloc _ _) (below_alloc _ _)))).mono ?_
      rintro e u10 ⟨rfl, r10, d10, z10⟩
      have b10 : Below u9.heap.size u9 u10 := by first | exact d10 | exact und d10 | exact undN d10 | exact below_new d10 | exact und (below_new d10) | exact below_new (und d10) | exact below_new (below_new d10) | exact step (below_drew _) (und (below_new d10))
      have I0' := Lib.hid (I0.out.step b10)
      clear I0
      have I0 := I0'
      clear I0'
      have I1' := Lib.hid (I1.out.step b10)
      clear I1
      have I1 := I1'
      clear I1'
      have R5' := Lib.hid (R5.out.step b10)
      clear R5
      have R5 := R5'
      clear R5'
      have R6' := Lib.hid (R6.out.step b10)
      clear R6
      have R6 := R6'
      clear R6'
      have T10 := step T9 b10
      have Z10 := b10.size
      try rw [al_size] at r10
      have R10 := Lib.hid r10
      clear r10 z10
      go_wp2_with fail
      refine (eqQueryS_r _ _ _ _ l1 hz1 _ (by first | exact R6.out | exact R6.out.step (below_drew _) | exact R6.out.step (below_alloc _ _) | exact R6.out.step (step (below_alloc _ _) (below_alloc _ _))) (by first | exact R10.out | exact R10.out.step (below_drew _) | exact R10.out.step (below_alloc _ _) | exact R10.out.step (step (below_alloc _ _) (below_alloc _ _)))).mono ?_
      rintro e u11 ⟨rfl, d11⟩
      have b11 : Below u10.heap.size u10 u11 := by first | exact d11 | exact und d11 | exact undN d11 | exact below_new d11 | exact und (below_new d11) | exact below_new (und d11) | exact below_new (below_new d11) | exact step (below_drew _) (und (below_new d11))
      have I0' := Lib.hid (I0.out.step b11)
      clear I0
      have I0 := I0'
      clear I0'
      have I1' := Lib.hid (I1.out.step b11)
      clear I1
      have I1 := I1'
      clear I1'
      have R5' := Lib.hid (R5.out.step b11)
      clear R5
      have R5 := R5'
      clear R5'
      have R6' := Lib.hid (R6.out.step b11)
      clear R6
      have R6 := R6'
      clear R6'
      have R10' := Lib.hid (R10.out.step b11)
      clear R10
      have R10 := R10'
      clear R10'
      have T11 := step T10 b11
      have Z11 := b11.size
      go_wp2
      go_ret
      exact ⟨rfl, by first | exact T11 | exact T11.drew⟩

set_option maxRecDepth 100000 in
theorem lifted (os : Os) (started : os.Started) (H : Type) (enc : TypeId × Value → H) :
    ReturnsInHanded {} Try.checked os 5 .any (Rows.fnExactIsUnionSpec.pre6 enc Try.prog Try.f5 Rows.fnExactIsUnionRow.domain false) (Rows.fnExactIsUnionSpec.post enc Try.prog Try.f5 false true false false) := by
  refine returnsInHanded_of_change (C := Try.checked) own started (by kernel_rfl) Try.func5
    (ChangeSpec.witness6 (enc := enc) (C := Try.checked) false ⟨#[], #[.slice none 0 0, .slice none 0 0], []⟩ 8 (by kernel_rfl) (by kernel_rfl) (by kernel_rfl) (by kernel_rfl)) ?_
  intro W base args ds gs before hval0 hW hcnd _
  have hval : ∀ (j : Nat) t v, Try.f5.params[j]? = some t → args[j]? = some v → Value.okWide Try.prog W .any base t v := hval0
  have hpost := fun (W' : World) (hfn : Rows.fnExactIsUnionSpec.fn H (ds ++ gs) = { results := [.lit (.bool true)], args := ds }) (hb : Below W.heap.size W W') => law_post (enc := enc) laidOut (f := Try.f5) (s := Rows.fnExactIsUnionSpec) (args := args) rfl rfl Try.underlying4 (by intro t ht; rw [Try.params5] at ht; simp at ht; rcases ht with rfl | rfl <;> exact ⟨by kernel_rfl, of_decide_eq_true (by kernel_rfl)⟩) hW hfn hb
  obtain ⟨p, q, hA0, hV, rfl, hfz, hnd⟩ := hW
  have hA : DataW.TrodAll enc Try.prog W 0 (fun _ => true) true Try.f5.params.toList args.toList ds p := hA0
  rw [Try.params5] at hA hval
  obtain ⟨v0, vs0, d0, ds0, p0, q0, hargs, rfl, rfl, h0, r0⟩ := trodAll_cons hA
  obtain ⟨v1, vs1, d1, ds1, p1, q1, rfl, rfl, rfl, h1, r1⟩ := trodAll_cons r0
  obtain ⟨rfl, rfl, rfl⟩ := trodAll_nil r1
  obtain rfl : args = #[v0, v1] := by cases args; simp_all
  obtain ⟨rfl, rfl⟩ := trodVars_none hV
  obtain ⟨A0, c0, s0, rfl, l0, m0, w0⟩ := open_numsT Try.underlying22 Try.underlying3 (by kernel_rfl) (hval 0 22 v0 rfl rfl) h0
  obtain ⟨A1, c1, l1, rfl, k1, m1, w1⟩ := open_queriesT (hval 1 36 v1 rfl rfl) h1
  refine (walk W A0 c0 s0 l0 m0 w0 A1 c1 l1 k1 m1 w1).mono fun e W' ⟨he, hg⟩ => ?_
  subst he
  exact ⟨_, rfl, hpost W' rfl hg⟩

theorem over : Rows.fnExactIsUnionRow.holds Try.pinned (OpenSpec.ofChange Rows.fnExactIsUnionSpec) :=
  OpenClaim.holds_of_wide 5 Try.f5 rfl rfl rfl rfl rfl rfl rfl ⟨rfl, rfl, rfl, rfl, rfl⟩ rfl rfl rfl rfl rfl (by kernel_rfl) Try.func5 (by kernel_rfl)
    (of_decide_eq_true (by kernel_rfl)) (by unfold Func.isWrapper; first | (rw [if_pos (by decide +kernel)]; kernel_rfl) | (rw [if_neg (by decide +kernel)]; exact ⟨rfl, rfl⟩))
    (fun os started H enc _ => lifted os started H enc)
end Go.Proofs.Ytimlpdcambmcjaa.fnExactIsUnion
namespace Go.Proofs.Ytimlpdcambmcjaa
theorem fnExactIsUnion_holds : Rows.FnExactIsUnionSaid := fnExactIsUnion.over
#print axioms fnExactIsUnion_holds
end Go.Proofs.Ytimlpdcambmcjaa
