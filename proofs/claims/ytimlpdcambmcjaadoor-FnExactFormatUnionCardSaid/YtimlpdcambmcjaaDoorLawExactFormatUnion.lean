/- impl.FormatUnion answers as its model at every argument: the law FnExactFormatUnion returns true. The listed package-level variables are tied to the program's text by the card. Conditions: none beyond the statement's own. -/
import Derived.Test.YtimlpdcambmcjaaDoorFmtU
import Derived.Test.YtimlpdcambmcjaaDoorDoor
namespace Go.Proofs.YtimlpdcambmcjaaDoor.fnExactFormatUnion
open Go.ChangeShapes Go.WideShapes Go.ChangeAt Go.RowKit Go.Sort
open Go.ChangeMaps (open_string shut_string)
set_option linter.unusedVariables false
set_option linter.unusedSimpArgs false


set_option maxRecDepth 100000 in
set_option maxHeartbeats 1000000 in
theorem walk (w : World) (ht : Tab w) (A0 : Option Addr) (c0 : Nat) (l0 : UL) (k0 : l0.length ≤ c0) (m0 : c0 ≤ maxLen) (w0 : Uns w 0 w.heap.size A0 l0) (g0 : headsW l0) :
    Calls Tryd.prog 3 #[.slice A0 l0.length c0] w fun e w' => e = .returned (.bool true) ∧ Below w.heap.size w w' := by
  unfold maxLen at m0
  have hn0 := szU_nonneg l0
  by_cases hb0 : 1048576 - szU l0 < 0
  · have I0 := Lib.hid (show RU w A0 l0 from w0)
    clear w0
    have TT := Lib.hid (TabB.of ht)
    go_enter Tryd.func3, Tryd.ntmps3
    go_wp2_with fail
    refine (szQueryS_any A0 c0 l0 1048576 (by omega) (by omega) (by omega) _ (by first | exact I0.out | exact I0.out.step (below_drew _) | exact I0.out.step (below_alloc _ _) | exact I0.out.step (step (below_alloc _ _) (below_alloc _ _)))).mono ?_
    rintro e u1 ⟨he, d1⟩
    rw [if_pos (show 1048576 - szU l0 < 0 by omega)] at he
    subst he
    have b1 : Below w.heap.size w u1 := by first | exact d1 | exact und d1 | exact undN d1 | exact below_new d1 | exact und (below_new d1) | exact below_new (und d1) | exact below_new (below_new d1) | exact step (below_drew _) (und (below_new d1))
    have I0' := Lib.hid (I0.out.step b1)
    clear I0
    have I0 := I0'
    clear I0'
    have TT' := Lib.hid (TT.out.step b1)
    clear TT
    have TT := TT'
    clear TT'
    have T1 := b1
    have Z1 := b1.size
    go_wp2
    go_ret
    exact ⟨rfl, T1⟩
  · skip
    have hz0 : szU l0 ≤ 1048576 := by omega
    have hl0 : l0.length ≤ 1048576 := szU_len hz0
    have hL0 : (l0.length : Int) ≤ 1048576 := by omega
    have HW := Lib.hid g0
    clear g0
    have I0 := Lib.hid (show RU w A0 l0 from w0)
    clear w0
    have TT := Lib.hid (TabB.of ht)
    go_enter Tryd.func3, Tryd.ntmps3
    go_wp2_with fail
    refine (szQueryS_any A0 c0 l0 1048576 (by omega) (by omega) (by omega) _ (by first | exact I0.out | exact I0.out.step (below_drew _) | exact I0.out.step (below_alloc _ _) | exact I0.out.step (step (below_alloc _ _) (below_alloc _ _)))).mono ?_
    rintro e u1 ⟨he, d1⟩
    rw [if_neg (show ¬ (1048576 - szU l0 < 0) by omega)] at he
    subst he
    have b1 : Below w.heap.size w u1 := by first | exact d1 | exact und d1 | exact undN d1 | exact below_new d1 | exact und (below_new d1) | exact below_new (und d1) | exact below_new (below_new d1) | exact step (below_drew _) (und (below_new d1))
    have I0' := Lib.hid (I0.out.step b1)
    clear I0
    have I0 := I0'
    clear I0'
    have TT' := Lib.hid (TT.out.step b1)
    clear TT
    have TT := TT'
    clear TT'
    have T1 := b1
    have Z1 := b1.size
    go_wp2_with fail
    refine (toQueryS_r A0 c0 l0 hz0 _ (by first | exact I0.out | exact I0.out.step (below_drew _) | exact I0.out.step (below_alloc _ _) | exact I0.out.step (step (below_alloc _ _) (below_alloc _ _)))).mono ?_
    rintro e u2 ⟨rfl, r2, d2, z2⟩
    have b2 : Below u1.heap.size u1 u2 := by first | exact d2 | exact und d2 | exact undN d2 | exact below_new d2 | exact und (below_new d2) | exact below_new (und d2) | exact below_new (below_new d2) | exact step (below_drew _) (und (below_new d2))
    have I0' := Lib.hid (I0.out.step b2)
    clear I0
    have I0 := I0'
    clear I0'
    have TT' := Lib.hid (TT.out.step b2)
    clear TT
    have TT := TT'
    clear TT'
    have T2 := step T1 b2
    have Z2 := b2.size
    try rw [al_size] at r2
    have R2 := Lib.hid r2
    clear r2 z2
    go_wp2_with fail
    refine (spec_FormatUnion _ _ l0 hz0 HW.out _ (by first | exact R2.out | exact R2.out.step (below_drew _) | exact R2.out.step (below_alloc _ _) | exact R2.out.step (step (below_alloc _ _) (below_alloc _ _)))).mono ?_
    rintro e u3 ⟨rfl, d3⟩
    have b3 : Below u2.heap.size u2 u3 := by first | exact d3 | exact und d3 | exact undN d3 | exact below_new d3 | exact und (below_new d3) | exact below_new (und d3) | exact below_new (below_new d3) | exact step (below_drew _) (und (below_new d3))
    have I0' := Lib.hid (I0.out.step b3)
    clear I0
    have I0 := I0'
    clear I0'
    have TT' := Lib.hid (TT.out.step b3)
    clear TT
    have TT := TT'
    clear TT'
    have R2' := Lib.hid (R2.out.step b3)
    clear R2
    have R2 := R2'
    clear R2'
    have T3 := step T2 b3
    have Z3 := b3.size
    go_wp2_with fail
    refine (toQueryS_r A0 c0 l0 hz0 _ (by first | exact I0.out | exact I0.out.step (below_drew _) | exact I0.out.step (below_alloc _ _) | exact I0.out.step (step (below_alloc _ _) (below_alloc _ _)))).mono ?_
    rintro e u4 ⟨rfl, r4, d4, z4⟩
    have b4 : Below u3.heap.size u3 u4 := by first | exact d4 | exact und d4 | exact undN d4 | exact below_new d4 | exact und (below_new d4) | exact below_new (und d4) | exact below_new (below_new d4) | exact step (below_drew _) (und (below_new d4))
    have I0' := Lib.hid (I0.out.step b4)
    clear I0
    have I0 := I0'
    clear I0'
    have TT' := Lib.hid (TT.out.step b4)
    clear TT
    have TT := TT'
    clear TT'
    have T4 := step T3 b4
    have Z4 := b4.size
    try rw [al_size] at r4
    have R4 := Lib.hid r4
    clear r4 z4
    go_wp2_with fail
    refine (impl_FormatUnion_r _ _ l0 hz0 _ (by first | exact R4.out | exact R4.out.step (below_drew _) | exact R4.out.step (below_alloc _ _) | exact R4.out.step (step (below_alloc _ _) (below_alloc _ _))) (by first | exact TT.out | exact TT.out.step (below_drew _) | exact TT.out.step (below_alloc _ _) | exact TT.out.step (step (below_alloc _ _) (below_alloc _ _)))).mono ?_
    rintro e u5 ⟨rfl, d5⟩
    have b5 : Below u4.heap.size u4 u5 := by first | exact d5 | exact und d5 | exact undN d5 | exact below_new d5 | exact und (below_new d5) | exact below_new (und d5) | exact below_new (below_new d5) | exact step (below_drew _) (und (below_new d5))
    have I0' := Lib.hid (I0.out.step b5)
    clear I0
    have I0 := I0'
    clear I0'
    have TT' := Lib.hid (TT.out.step b5)
    clear TT
    have TT := TT'
    clear TT'
    have R4' := Lib.hid (R4.out.step b5)
    clear R4
    have R4 := R4'
    clear R4'
    have T5 := step T4 b5
    have Z5 := b5.size
    go_wp2_with fail
    refine (toQueryS_r A0 c0 l0 hz0 _ (by first | exact I0.out | exact I0.out.step (below_drew _) | exact I0.out.step (below_alloc _ _) | exact I0.out.step (step (below_alloc _ _) (below_alloc _ _)))).mono ?_
    rintro e u6 ⟨rfl, r6, d6, z6⟩
    have b6 : Below u5.heap.size u5 u6 := by first | exact d6 | exact und d6 | exact undN d6 | exact below_new d6 | exact und (below_new d6) | exact below_new (und d6) | exact below_new (below_new d6) | exact step (below_drew _) (und (below_new d6))
    have I0' := Lib.hid (I0.out.step b6)
    clear I0
    have I0 := I0'
    clear I0'
    have TT' := Lib.hid (TT.out.step b6)
    clear TT
    have TT := TT'
    clear TT'
    have R4' := Lib.hid (R4.out.step b6)
    clear R4
    have R4 := R4'
    clear R4'
    have T6 := step T5 b6
    have Z6 := b6.size
    try rw [al_size] at r6
    have R6 := Lib.hid r6
    clear r6 z6
    go_wp2_with fail
    refine (eqQueryS_r _ _ _ _ l0 hz0 _ (by first | exact R4.out | exact R4.out.step (below_drew _) | exact R4.out.step (below_alloc _ _) | exact R4.out.step (step (below_alloc _ _) (below_alloc _ _))) (by first | exact R6.out | exact R6.out.step (below_drew _) | exact R6.out.step (below_alloc _ _) | exact R6.out.step (step (below_alloc _ _) (below_alloc _ _)))).mono ?_
    rintro e u7 ⟨rfl, d7⟩
    have b7 : Below u6.heap.size u6 u7 := by first | exact d7 | exact und d7 | exact undN d7 | exact below_new d7 | exact und (below_new d7) | exact below_new (und d7) | exact below_new (below_new d7) | exact step (below_drew _) (und (below_new d7))
    have I0' := Lib.hid (I0.out.step b7)
    clear I0
    have I0 := I0'
    clear I0'
    have TT' := Lib.hid (TT.out.step b7)
    clear TT
    have TT := TT'
    clear TT'
    have R4' := Lib.hid (R4.out.step b7)
    clear R4
    have R4 := R4'
    clear R4'
    have R6' := Lib.hid (R6.out.step b7)
    clear R6
    have R6 := R6'
    clear R6'
    have T7 := step T6 b7
    have Z7 := b7.size
    go_wp2
    go_ret
    exact ⟨rfl, by first | exact T7 | exact T7.drew⟩

set_option maxRecDepth 100000 in
theorem contract (H : Type) (enc : TypeId × Value → H) (W : World) (hsh : W.ShapedOpen Tryd.prog) (base : Nat) (args : Array Value) (ds gs : List (DataW H)) (before : List MemPlace)
    (hval : ∀ (j : Nat) t v, Tryd.f3.params[j]? = some t → args[j]? = some v → Value.okWide Tryd.prog W .any base t v)
    (hW : DataW.Whole enc Tryd.prog Tryd.f3.params.toList Rows.fnExactFormatUnionSpec.vars false W args.toList ds gs before) (hL : laidMetH Tryd.prog Rows.fnExactFormatUnionRow.laid W) :
    Calls Tryd.prog 3 args W fun e W' => ∃ v, e = .returned v ∧ Rows.fnExactFormatUnionSpec.post enc Tryd.prog Tryd.f3 false true false false W args v W' := by
  have hpost := fun (W' : World) (hfn : Rows.fnExactFormatUnionSpec.fn H (ds ++ gs) = { results := [.lit (.bool true)], args := ds }) (hb : Below W.heap.size W W') => law_post (enc := enc) laidOut (f := Tryd.f3) (s := Rows.fnExactFormatUnionSpec) (args := args) rfl rfl Tryd.underlying4 (by intro t ht; rw [Tryd.params3] at ht; simp at ht; rcases ht with rfl <;> exact ⟨by kernel_rfl, of_decide_eq_true (by kernel_rfl)⟩) hW hfn hb
  obtain ⟨p, q, hA0, hV, rfl, hfz, hnd⟩ := hW
  have hA : DataW.TrodAll enc Tryd.prog W 0 (fun _ => true) true Tryd.f3.params.toList args.toList ds p := hA0
  rw [Tryd.params3] at hA hval
  obtain ⟨v0, vs0, d0, ds0, p0, q0, hargs, rfl, rfl, h0, r0⟩ := trodAll_cons hA
  obtain ⟨rfl, rfl, rfl⟩ := trodAll_nil r0
  obtain rfl : args = #[v0] := by cases args; simp_all
  obtain ⟨rfl, rfl⟩ := trodVars_none hV
  obtain ⟨A0, c0, l0, rfl, k0, m0, w0, g0⟩ := open_queriesR (hval 0 22 v0 rfl rfl) h0
  refine (walk W (table hL) A0 c0 l0 k0 m0 w0 g0).mono fun e W' ⟨he, hg⟩ => ?_
  subst he
  exact ⟨_, rfl, hpost W' rfl hg⟩

set_option maxRecDepth 100000 in
theorem laid_met (os : Os) : laidMet Tryd.prog Rows.fnExactFormatUnionRow.laid ((laidWorld os).forCall (fun _ _ => 0) ⟨#[], #[.slice none 0 0], []⟩).memory :=
  laidMet_of_run' 8 (by kernel_rfl) (by kernel_rfl)
theorem reads (os : Os) {H : Type} (enc : TypeId × Value → H) : ∃ places, DataW.whole enc Tryd.prog ((laidWorld os).forCall (fun _ _ => 0) ⟨#[], #[.slice none 0 0], []⟩).memory Tryd.f3.params.toList Rows.fnExactFormatUnionSpec.vars false (#[.slice none 0 0] : Array Value).toList 8 = some ([.nil], [], places) :=
  ⟨[], by kernel_rfl⟩

set_option maxRecDepth 100000 in
theorem lifted (os : Os) (started : os.Started) (H : Type) (enc : TypeId × Value → H) (F : Stop.Interp) :
    ReturnsInHanded {} Tryd.checked os 3 .any ((OpenSpec.ofChange Rows.fnExactFormatUnionSpec).preRow enc Tryd.prog Tryd.f3 Rows.fnExactFormatUnionRow.domain false Rows.fnExactFormatUnionRow.laid) (((OpenSpec.ofChange Rows.fnExactFormatUnionSpec).at F).post enc Tryd.prog Tryd.f3 false true false false) := by
  obtain ⟨places, hx⟩ := reads os enc
  refine returnsInHanded_of_row (C := Tryd.checked) (s := OpenSpec.ofChange Rows.fnExactFormatUnionSpec) own started (by kernel_rfl) Tryd.func3
    (witness_row_at (enc := enc) (C := Tryd.checked) false (laidWorld os) #[.slice none 0 0] rfl (by kernel_rfl) (by kernel_rfl) (by kernel_rfl)
      (OpenSpec.preRow_of_cond 8 hx (by kernel_rfl) (fun k hk => by cases hk) (by kernel_rfl) (laid_met os))) ?_
  intro W base args ds gs before hval hW h1 h2 h3 hL h4 h5
  exact contract H enc W (by assumption) base args ds gs before hval hW hL

theorem said : Rows.FnExactFormatUnionSaid :=
  OpenClaim.holds_of_cond 3 Tryd.f3 rfl rfl rfl rfl rfl rfl rfl ⟨rfl, rfl, rfl, rfl, rfl⟩ rfl rfl rfl rfl rfl (by kernel_rfl) Tryd.func3 (by kernel_rfl)
    (of_decide_eq_true (by kernel_rfl)) (by unfold Func.isWrapper; first | (rw [if_pos (by decide +kernel)]; kernel_rfl) | (rw [if_neg (by decide +kernel)]; exact ⟨rfl, rfl⟩))
    (fun os started H enc _ F => by rw [OpenClaim.pre_eq_preRow]; exact lifted os started H enc F)

theorem plain (f : FuncId) (fn : Func) (hf : Tryd.pinned.checked.prog.funcNamed "loop.example/g01989/laws.FnExactFormatUnion" = some f) (hfn : Tryd.pinned.checked.prog.funcs[f]? = some fn) :
    false = Tryd.pinned.checked.prog.looks [] ∧ ∀ (j : Nat) t, fn.params[j]? = some t → Tryd.pinned.checked.prog.wantsStandIn t = false := by
  obtain rfl : f = 3 := Option.some.inj ((show Tryd.prog.funcNamed "loop.example/g01989/laws.FnExactFormatUnion" = some 3 by kernel_rfl).symm.trans hf) |>.symm
  obtain rfl : fn = Tryd.f3 := (Option.some.inj (Tryd.func3.symm.trans hfn)).symm
  refine ⟨by kernel_rfl, fun j t ht => ?_⟩
  rw [Tryd.params3] at ht
  obtain rfl : t = 22 := by simpa using Array.mem_of_getElem? ht
  exact (show Tryd.prog.wantsStandIn 22 = false by kernel_rfl)
end Go.Proofs.YtimlpdcambmcjaaDoor.fnExactFormatUnion
namespace Go.Proofs.YtimlpdcambmcjaaDoor
theorem fnExactFormatUnion_card : Rows.FnExactFormatUnionCardSaid :=
  Claim7.holds_tied_plain_at .later [] _ _ _ _ fnExactFormatUnion.said (fun _ h => by cases h) (by kernel_rfl) (fun _ h => by cases h) fnExactFormatUnion_row_tie rfl ⟨rfl, rfl⟩ (by kernel_rfl) rfl fnExactFormatUnion.plain (by kernel_rfl)
#print axioms fnExactFormatUnion_card
end Go.Proofs.YtimlpdcambmcjaaDoor
