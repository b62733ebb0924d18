/- impl.IsSchema answers as its model at every argument: the law FnExactIsSchema returns true. Conditions: none beyond the statement's own. -/
import Derived.Test.YtafibomclpeheaaInts3
import Derived.Test.YtafibomclpeheaaOpen
namespace Go.Proofs.Ytafibomclpeheaa.fnExactIsSchema
open Go.ChangeShapes Go.WideShapes Go.ChangeAt Go.RowKit
open Go.ChangeMaps (open_string shut_string)
set_option linter.unusedVariables false
set_option linter.unusedSimpArgs false

set_option maxRecDepth 100000 in
set_option maxHeartbeats 1000000 in
theorem walk (w : World) (A0 : Option Addr) (c0 : Nat) (s0 : List Int) (l0 : s0.length ≤ c0) (m0 : c0 ≤ maxLen) (w0 : Ints w 0 w.heap.size A0 s0) :
    Calls Try.prog 3 #[.slice A0 s0.length c0] w fun e w' => e = .returned (.bool true) ∧ Below w.heap.size w w' := by
  unfold maxLen at m0
  by_cases hbig : (1048576 : Int) < s0.length
  · go_enter Try.func3, Try.ntmps3
    go_wp2
    go_ret
    exact ⟨rfl, Below.refl _ _⟩
  · have hl : s0.length ≤ 1048576 := by omega
    go_enter Try.func3, Try.ntmps3
    go_wp2_with fail
    refine (toIntS_any 0 w.heap.size A0 c0 s0 hl _ (Nat.le_refl _) w0).mono ?_
    rintro e w1 ⟨rfl, r1, b1, z1⟩
    have i1 := r1.ints
    have Z1 := Lib.hid z1
    have R1 := Lib.hid r1
    have I1 := Lib.hid i1
    clear r1 z1 i1
    go_wp2_with fail
    refine (spec_IsSchema _ _ _ _ s0 (by omega) _ I1.out).mono ?_
    rintro e w2 ⟨rfl, rfl⟩
    go_wp2_with fail
    refine (toIntS_any 0 w.heap.size A0 c0 s0 hl _ b1.size (w0.below b1 (Nat.le_refl _))).mono ?_
    rintro e w2 ⟨rfl, r2, b2, z2⟩
    have B2 := b1.trans (b2.mono b1.size)
    have i2 := r2.ints
    have Z2 := Lib.hid z2
    have I2 := Lib.hid i2
    clear r2 z2 i2
    go_wp2_with fail
    refine (impl_IsSchema _ _ _ _ s0 (by omega) _ I2.out).mono ?_
    rintro e w3 ⟨rfl, rfl⟩
    go_wp2_with fail
    refine (toIntS_any 0 w.heap.size A0 c0 s0 hl _ B2.size (w0.below B2 (Nat.le_refl _))).mono ?_
    rintro e w3 ⟨rfl, r3, b3, z3⟩
    have B3 := B2.trans (b3.mono B2.size)
    have i3 := r3.ints
    have I3 := Lib.hid i3
    clear r3 z3 i3
    go_wp2_with fail
    refine (eqIntS_any _ _ _ _ _ _ _ _ s0 s0 (by omega) (by omega) _ (I2.out.below b3 (by have := Z2.out; omega)) I3.out).mono ?_
    rintro e w4 ⟨he, b4⟩
    have B4 := B3.trans (b4.mono B3.size)
    rw [decide_eq_true rfl] at he
    subst he
    go_wp2
    go_ret
    exact ⟨rfl, B4⟩

set_option maxRecDepth 100000 in
theorem lifted (os : Os) (started : os.Started) (H : Type) (enc : TypeId × Value → H) :
    ReturnsInHanded {} Try.checked os 3 .any (Rows.fnExactIsSchemaSpec.pre6 enc Try.prog Try.f3 Rows.fnExactIsSchemaRow.domain false) (Rows.fnExactIsSchemaSpec.post enc Try.prog Try.f3 false true false false) := by
  refine returnsInHanded_of_change (C := Try.checked) own started (by kernel_rfl) Try.func3
    (ChangeSpec.witness6 (enc := enc) (C := Try.checked) false ⟨#[], #[.slice none 0 0], []⟩ 8 (by kernel_rfl) (by kernel_rfl) (by kernel_rfl) (by kernel_rfl)) ?_
  intro W base args ds gs before hval0 hW hcnd _
  have hval : ∀ (j : Nat) t v, Try.f3.params[j]? = some t → args[j]? = some v → Value.okWide Try.prog W .any base t v := hval0
  have hpost := fun (W' : World) (hfn : Rows.fnExactIsSchemaSpec.fn H (ds ++ gs) = { results := [.lit (.bool true)], args := ds }) (hb : Below W.heap.size W W') => law_post (enc := enc) laidOut (f := Try.f3) (s := Rows.fnExactIsSchemaSpec) (args := args) rfl rfl Try.underlying4 (by intro t ht; rw [Try.params3] at ht; simp at ht; rcases ht with rfl <;> exact ⟨by kernel_rfl, of_decide_eq_true (by kernel_rfl)⟩) hW hfn hb
  obtain ⟨p, q, hA0, hV, rfl, hfz, hnd⟩ := hW
  have hA : DataW.TrodAll enc Try.prog W 0 (fun _ => true) true Try.f3.params.toList args.toList ds p := hA0
  rw [Try.params3] at hA hval
  obtain ⟨v0, vs0, d0, ds0, p0, q0, hargs, rfl, rfl, h0, r0⟩ := trodAll_cons hA
  obtain ⟨rfl, rfl, rfl⟩ := trodAll_nil r0
  obtain rfl : args = #[v0] := by cases args; simp_all
  obtain ⟨rfl, rfl⟩ := trodVars_none hV
  obtain ⟨A0, c0, s0, rfl, l0, m0, w0⟩ := open_numsT Try.underlying22 Try.underlying3 (by kernel_rfl) (hval 0 22 v0 rfl rfl) h0
  refine (walk W A0 c0 s0 l0 m0 w0).mono fun e W' ⟨he, hg⟩ => ?_
  subst he
  exact ⟨_, rfl, hpost W' rfl hg⟩

theorem over : Rows.fnExactIsSchemaRow.holds Try.pinned (OpenSpec.ofChange Rows.fnExactIsSchemaSpec) :=
  OpenClaim.holds_of_wide 3 Try.f3 rfl rfl rfl rfl rfl rfl rfl ⟨rfl, rfl, rfl, rfl, rfl⟩ rfl rfl rfl rfl rfl (by kernel_rfl) Try.func3 (by kernel_rfl)
    (of_decide_eq_true (by kernel_rfl)) (by unfold Func.isWrapper; first | (rw [if_pos (by decide +kernel)]; kernel_rfl) | (rw [if_neg (by decide +kernel)]; exact ⟨rfl, rfl⟩))
    (fun os started H enc _ => lifted os started H enc)
end Go.Proofs.Ytafibomclpeheaa.fnExactIsSchema
namespace Go.Proofs.Ytafibomclpeheaa
theorem fnExactIsSchema_holds : Rows.FnExactIsSchemaSaid := fnExactIsSchema.over
#print axioms fnExactIsSchema_holds
end Go.Proofs.Ytafibomclpeheaa
