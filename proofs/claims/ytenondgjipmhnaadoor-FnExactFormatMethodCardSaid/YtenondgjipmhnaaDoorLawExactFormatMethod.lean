/- impl.FormatMethod answers as its model at every argument: the law FnExactFormatMethod returns true. The listed package-level variables are tied to the program's text by the card. Conditions: none beyond the statement's own. -/
import Derived.Test.YtenondgjipmhnaaDoorFmtN
import Derived.Test.YtenondgjipmhnaaDoorMethL
import Derived.Test.YtenondgjipmhnaaDoorDoor
namespace Go.Proofs.YtenondgjipmhnaaDoor.fnExactFormatMethod
open Go.ChangeShapes Go.WideShapes Go.ChangeAt Go.RowKit Go.Sort
open Go.ChangeMaps (open_string shut_string)
set_option linter.unusedVariables false
set_option linter.unusedSimpArgs false


set_option maxRecDepth 100000 in
set_option maxHeartbeats 1000000 in
theorem walk (w : World) (ht : Tab w) (f0 : Met) (A0 : Option Addr) (c0 : Nat) (l0 : f0.2.1.length ≤ c0) (m0 : c0 ≤ maxLen) (w0 : Ints w 0 w.heap.size A0 f0.2.1) :
    Calls Tryd.prog 3 #[.agg #[.int .i64 f0.1, .slice A0 f0.2.1.length c0, .int .i64 f0.2.2.1, .int .i64 f0.2.2.2.1, .int .i64 f0.2.2.2.2]] w fun e w' => e = .returned (.bool true) ∧ Below w.heap.size w w' := by
  unfold maxLen at m0
  obtain ⟨r0, s0, li0, co0, qu0⟩ := f0
  simp only at l0 w0 ⊢
  by_cases hb0 : 1048576 - (s0.length : Int) < 0
  · have I0 := Lib.hid (show RI w A0 s0 from w0)
    clear w0
    have TT := Lib.hid (TabB.of ht)
    go_enter Tryd.func3, Tryd.ntmps3
    go_wp2_with fail
    refine (szMethod_any (r0, s0, li0, co0, qu0) A0 c0 1048576 (by simp; omega) (by omega) (by omega) _).mono ?_
    rintro e u1 ⟨he, d1⟩
    rw [if_pos (show 1048576 - (s0.length : Int) < 0 by omega)] at he
    subst he
    have X0 := Lib.hid (Box.of_new d1)
    have b1 : Below w.heap.size w u1 := by first | exact d1 | exact und d1 | exact undN d1 | exact below_new d1 | exact und (below_new d1) | exact below_new (und d1) | exact below_new (below_new d1) | exact step (below_drew _) (und (below_new d1))
    have I0' := Lib.hid (I0.out.step b1)
    clear I0
    have I0 := I0'
    clear I0'
    have TT' := Lib.hid (TT.out.step b1)
    clear TT
    have TT := TT'
    clear TT'
    have T1 := b1
    have Z1 := b1.size
    have g100 := X0.out.cell 0
    have g101 := X0.out.cell 1
    have g102 := X0.out.cell 2
    have g103 := X0.out.cell 3
    have g104 := X0.out.cell 4
    simp only [List.getElem?_toArray, List.getElem?_cons_zero, List.getElem?_cons_succ] at g100 g101 g102 g103 g104
    have g10n := X0.out.lt
    go_wp2
    go_ret
    exact ⟨rfl, T1⟩
  · skip
    have hl0 : s0.length ≤ 1048576 := by omega
    have hL0 : (s0.length : Int) ≤ 1048576 := by omega
    have I0 := Lib.hid (show RI w A0 s0 from w0)
    clear w0
    have TT := Lib.hid (TabB.of ht)
    go_enter Tryd.func3, Tryd.ntmps3
    go_wp2_with fail
    refine (szMethod_any (r0, s0, li0, co0, qu0) A0 c0 1048576 (by simp; omega) (by omega) (by omega) _).mono ?_
    rintro e u1 ⟨he, d1⟩
    rw [if_neg (show ¬ (1048576 - (s0.length : Int) < 0) by omega)] at he
    subst he
    have X0 := Lib.hid (Box.of_new d1)
    have b1 : Below w.heap.size w u1 := by first | exact d1 | exact und d1 | exact undN d1 | exact below_new d1 | exact und (below_new d1) | exact below_new (und d1) | exact below_new (below_new d1) | exact step (below_drew _) (und (below_new d1))
    have I0' := Lib.hid (I0.out.step b1)
    clear I0
    have I0 := I0'
    clear I0'
    have TT' := Lib.hid (TT.out.step b1)
    clear TT
    have TT := TT'
    clear TT'
    have T1 := b1
    have Z1 := b1.size
    have g100 := X0.out.cell 0
    have g101 := X0.out.cell 1
    have g102 := X0.out.cell 2
    have g103 := X0.out.cell 3
    have g104 := X0.out.cell 4
    simp only [List.getElem?_toArray, List.getElem?_cons_zero, List.getElem?_cons_succ] at g100 g101 g102 g103 g104
    have g10n := X0.out.lt
    have z100 := X0.out.cell 0
    have z101 := X0.out.cell 1
    have z102 := X0.out.cell 2
    have z103 := X0.out.cell 3
    have z104 := X0.out.cell 4
    simp only [List.getElem?_toArray, List.getElem?_cons_zero, List.getElem?_cons_succ] at z100 z101 z102 z103 z104
    have z10n := X0.out.lt
    go_wp2_with fail
    refine (toMethod_r r0 s0 li0 co0 qu0 A0 c0 hl0 _ (by first | exact I0.out | exact I0.out.step (below_drew _) | exact I0.out.step (below_alloc _ _) | exact I0.out.step (step (below_alloc _ _) (below_alloc _ _)))).mono ?_
    rintro e u2 ⟨rfl, r2, d2, z2⟩
    have b2 : Below u1.heap.size u1 u2 := by first | exact d2 | exact und d2 | exact undN d2 | exact below_new d2 | exact und (below_new d2) | exact below_new (und d2) | exact below_new (below_new d2) | exact step (below_drew _) (und (below_new d2))
    have I0' := Lib.hid (I0.out.step b2)
    clear I0
    have I0 := I0'
    clear I0'
    have TT' := Lib.hid (TT.out.step b2)
    clear TT
    have TT := TT'
    clear TT'
    have X0' := Lib.hid (X0.out.step b2)
    clear X0
    have X0 := X0'
    clear X0'
    have T2 := step T1 b2
    have Z2 := b2.size
    try rw [al_size] at r2
    have R2 := Lib.hid r2.ri
    clear r2 z2
    go_wp2_with fail
    refine (spec_FormatMethod r0 s0 li0 co0 qu0 _ _ hl0 _ (by first | exact R2.out | exact R2.out.step (below_drew _) | exact R2.out.step (below_alloc _ _) | exact R2.out.step (step (below_alloc _ _) (below_alloc _ _)))).mono ?_
    rintro e u3 ⟨rfl, d3⟩
    have b3 : Below u2.heap.size u2 u3 := by first | exact d3 | exact und d3 | exact undN d3 | exact below_new d3 | exact und (below_new d3) | exact below_new (und d3) | exact below_new (below_new d3) | exact step (below_drew _) (und (below_new d3))
    have I0' := Lib.hid (I0.out.step b3)
    clear I0
    have I0 := I0'
    clear I0'
    have TT' := Lib.hid (TT.out.step b3)
    clear TT
    have TT := TT'
    clear TT'
    have X0' := Lib.hid (X0.out.step b3)
    clear X0
    have X0 := X0'
    clear X0'
    have R2' := Lib.hid (R2.out.step b3)
    clear R2
    have R2 := R2'
    clear R2'
    have T3 := step T2 b3
    have Z3 := b3.size
    have h300 := X0.out.cell 0
    have h301 := X0.out.cell 1
    have h302 := X0.out.cell 2
    have h303 := X0.out.cell 3
    have h304 := X0.out.cell 4
    simp only [List.getElem?_toArray, List.getElem?_cons_zero, List.getElem?_cons_succ] at h300 h301 h302 h303 h304
    have h30n := X0.out.lt
    go_wp2_with fail
    refine (toMethod_r r0 s0 li0 co0 qu0 A0 c0 hl0 _ (by first | exact I0.out | exact I0.out.step (below_drew _) | exact I0.out.step (below_alloc _ _) | exact I0.out.step (step (below_alloc _ _) (below_alloc _ _)))).mono ?_
    rintro e u4 ⟨rfl, r4, d4, z4⟩
    have b4 : Below u3.heap.size u3 u4 := by first | exact d4 | exact und d4 | exact undN d4 | exact below_new d4 | exact und (below_new d4) | exact below_new (und d4) | exact below_new (below_new d4) | exact step (below_drew _) (und (below_new d4))
    have I0' := Lib.hid (I0.out.step b4)
    clear I0
    have I0 := I0'
    clear I0'
    have TT' := Lib.hid (TT.out.step b4)
    clear TT
    have TT := TT'
    clear TT'
    have X0' := Lib.hid (X0.out.step b4)
    clear X0
    have X0 := X0'
    clear X0'
    have T4 := step T3 b4
    have Z4 := b4.size
    try rw [al_size] at r4
    have R4 := Lib.hid r4.ri
    clear r4 z4
    go_wp2_with fail
    refine (impl_FormatMethod r0 s0 li0 co0 qu0 _ _ hl0 _ (by first | exact R4.out | exact R4.out.step (below_drew _) | exact R4.out.step (below_alloc _ _) | exact R4.out.step (step (below_alloc _ _) (below_alloc _ _))) (by first | exact TT.out | exact TT.out.step (below_drew _) | exact TT.out.step (below_alloc _ _) | exact TT.out.step (step (below_alloc _ _) (below_alloc _ _)))).mono ?_
    rintro e u5 ⟨rfl, d5⟩
    have Y0 := Lib.hid (Box.of_new d5)
    have b5 : Below u4.heap.size u4 u5 := by first | exact d5 | exact und d5 | exact undN d5 | exact below_new d5 | exact und (below_new d5) | exact below_new (und d5) | exact below_new (below_new d5) | exact step (below_drew _) (und (below_new d5))
    have I0' := Lib.hid (I0.out.step b5)
    clear I0
    have I0 := I0'
    clear I0'
    have TT' := Lib.hid (TT.out.step b5)
    clear TT
    have TT := TT'
    clear TT'
    have X0' := Lib.hid (X0.out.step b5)
    clear X0
    have X0 := X0'
    clear X0'
    have R4' := Lib.hid (R4.out.step b5)
    clear R4
    have R4 := R4'
    clear R4'
    have T5 := step T4 b5
    have Z5 := b5.size
    have p500 := X0.out.cell 0
    have p501 := X0.out.cell 1
    have p502 := X0.out.cell 2
    have p503 := X0.out.cell 3
    have p504 := X0.out.cell 4
    simp only [List.getElem?_toArray, List.getElem?_cons_zero, List.getElem?_cons_succ] at p500 p501 p502 p503 p504
    have p50n := X0.out.lt
    have q500 := Y0.out.cell 0
    have q501 := Y0.out.cell 1
    have q502 := Y0.out.cell 2
    have q503 := Y0.out.cell 3
    have q504 := Y0.out.cell 4
    simp only [List.getElem?_toArray, List.getElem?_cons_zero, List.getElem?_cons_succ] at q500 q501 q502 q503 q504
    have q50n := Y0.out.lt
    have tok6 : True := trivial
    have tok7 : True := trivial
    go_wp2_with fail
    go_region_held3 (fun w' => w'.cell? ⟨w.heap.size, 0, none⟩ = some (.int .i64 r0) ∧ w'.cell? ⟨w.heap.size, 1, none⟩ = some (.slice A0 s0.length c0) ∧ w'.cell? ⟨w.heap.size, 2, none⟩ = some (.int .i64 li0) ∧ w'.cell? ⟨w.heap.size, 3, none⟩ = some (.int .i64 co0) ∧ w'.cell? ⟨w.heap.size, 4, none⟩ = some (.int .i64 qu0) ∧ w'.cell? ⟨u4.heap.size, 0, none⟩ = some (.int .i64 r0) ∧ w'.cell? ⟨u4.heap.size, 1, none⟩ = some (.slice (some ⟨u3.heap.size + 3, 0, none⟩) s0.length s0.length) ∧ w'.cell? ⟨u4.heap.size, 2, none⟩ = some (.int .i64 li0) ∧ w'.cell? ⟨u4.heap.size, 3, none⟩ = some (.int .i64 co0) ∧ w'.cell? ⟨u4.heap.size, 4, none⟩ = some (.int .i64 qu0))
      (first
        | go_keep
        | (go_split_ands; refine ⟨?_, ?_, ?_, ?_, ?_, ?_, ?_, ?_, ?_, ?_⟩ <;> (rw [d6.cell (by (try simp) <;> omega)]; assumption))
        | (go_split_ands; refine ⟨?_, ?_, ?_, ?_, ?_, ?_, ?_, ?_, ?_, ?_⟩ <;> (rw [d7.cell (by (try simp) <;> omega)]; assumption)))
      (first
        | (go_at_call 7
           clear tok6
           refine (toMethod_r r0 s0 li0 co0 qu0 A0 c0 hl0 _ (by first | exact I0.out | exact I0.out.step (below_drew _) | exact I0.out.step (below_alloc _ _) | exact I0.out.step (step (below_alloc _ _) (below_alloc _ _)))).mono ?_
           rintro e u6 ⟨rfl, r6, d6, z6⟩
           have b6 : Below u5.heap.size u5 u6 := by first | exact d6 | exact und d6 | exact undN d6 | exact below_new d6 | exact und (below_new d6) | exact below_new (und d6) | exact below_new (below_new d6) | exact step (below_drew _) (und (below_new d6))
           have I0' := Lib.hid (I0.out.step b6)
           clear I0
           have I0 := I0'
           clear I0'
           have TT' := Lib.hid (TT.out.step b6)
           clear TT
           have TT := TT'
           clear TT'
           have X0' := Lib.hid (X0.out.step b6)
           clear X0
           have X0 := X0'
           clear X0'
           have R4' := Lib.hid (R4.out.step b6)
           clear R4
           have R4 := R4'
           clear R4'
           have Y0' := Lib.hid (Y0.out.step b6)
           clear Y0
           have Y0 := Y0'
           clear Y0'
           have T6 := step T5 b6
           have Z6 := b6.size
           try rw [al_size] at r6
           have R6 := Lib.hid r6.ri
           clear r6 z6)
        | (go_at_call 9
           clear tok7
           refine (eqMethod_r r0 s0 li0 co0 qu0 _ _ _ _ hl0 _ (by first | exact R4.out | exact R4.out.step (below_drew _) | exact R4.out.step (below_alloc _ _) | exact R4.out.step (step (below_alloc _ _) (below_alloc _ _))) (by first | exact R6.out | exact R6.out.step (below_drew _) | exact R6.out.step (below_alloc _ _) | exact R6.out.step (step (below_alloc _ _) (below_alloc _ _)))).mono ?_
           rintro e u7 ⟨rfl, d7⟩
           have b7 : Below u6.heap.size u6 u7 := by first | exact d7 | exact und d7 | exact undN d7 | exact below_new d7 | exact und (below_new d7) | exact below_new (und d7) | exact below_new (below_new d7) | exact step (below_drew _) (und (below_new d7))
           have I0' := Lib.hid (I0.out.step b7)
           clear I0
           have I0 := I0'
           clear I0'
           have TT' := Lib.hid (TT.out.step b7)
           clear TT
           have TT := TT'
           clear TT'
           have X0' := Lib.hid (X0.out.step b7)
           clear X0
           have X0 := X0'
           clear X0'
           have R4' := Lib.hid (R4.out.step b7)
           clear R4
           have R4 := R4'
           clear R4'
           have Y0' := Lib.hid (Y0.out.step b7)
           clear Y0
           have Y0 := Y0'
           clear Y0'
           have R6' := Lib.hid (R6.out.step b7)
           clear R6
           have R6 := R6'
           clear R6'
           have T7 := step T6 b7
           have Z7 := b7.size))
    go_wp2
    go_ret
    exact ⟨rfl, by first | exact T7 | exact T7.drew⟩

set_option maxRecDepth 100000 in
theorem contract (H : Type) (enc : TypeId × Value → H) (W : World) (hsh : W.ShapedOpen Tryd.prog) (base : Nat) (args : Array Value) (ds gs : List (DataW H)) (before : List MemPlace)
    (hval : ∀ (j : Nat) t v, Tryd.f3.params[j]? = some t → args[j]? = some v → Value.okWide Tryd.prog W .any base t v)
    (hW : DataW.Whole enc Tryd.prog Tryd.f3.params.toList Rows.fnExactFormatMethodSpec.vars false W args.toList ds gs before) (hL : laidMetH Tryd.prog Rows.fnExactFormatMethodRow.laid W) :
    Calls Tryd.prog 3 args W fun e W' => ∃ v, e = .returned v ∧ Rows.fnExactFormatMethodSpec.post enc Tryd.prog Tryd.f3 false true false false W args v W' := by
  have hpost := fun (W' : World) (hfn : Rows.fnExactFormatMethodSpec.fn H (ds ++ gs) = { results := [.lit (.bool true)], args := ds }) (hb : Below W.heap.size W W') => law_post (enc := enc) laidOut (f := Tryd.f3) (s := Rows.fnExactFormatMethodSpec) (args := args) rfl rfl Tryd.underlying4 (by intro t ht; rw [Tryd.params3] at ht; simp at ht; rcases ht with rfl <;> exact ⟨by kernel_rfl, of_decide_eq_true (by kernel_rfl)⟩) hW hfn hb
  obtain ⟨p, q, hA0, hV, rfl, hfz, hnd⟩ := hW
  have hA : DataW.TrodAll enc Tryd.prog W 0 (fun _ => true) true Tryd.f3.params.toList args.toList ds p := hA0
  rw [Tryd.params3] at hA hval
  obtain ⟨v0, vs0, d0, ds0, p0, q0, hargs, rfl, rfl, h0, r0⟩ := trodAll_cons hA
  obtain ⟨rfl, rfl, rfl⟩ := trodAll_nil r0
  obtain rfl : args = #[v0] := by cases args; simp_all
  obtain ⟨rfl, rfl⟩ := trodVars_none hV
  obtain ⟨f0, A0, c0, rfl, l0, m0, w0⟩ := open_methodT (hval 0 24 v0 rfl rfl) h0
  refine (walk W (table hL) f0 A0 c0 l0 m0 w0).mono fun e W' ⟨he, hg⟩ => ?_
  subst he
  exact ⟨_, rfl, hpost W' rfl hg⟩

set_option maxRecDepth 100000 in
theorem laid_met (os : Os) : laidMet Tryd.prog Rows.fnExactFormatMethodRow.laid ((laidWorld os).forCall (fun _ _ => 0) ⟨#[], #[.agg #[.int .i64 0, .slice none 0 0, .int .i64 0, .int .i64 0, .int .i64 0]], []⟩).memory :=
  laidMet_of_run' 8 (by kernel_rfl) (by kernel_rfl)
theorem reads (os : Os) {H : Type} (enc : TypeId × Value → H) : ∃ places, DataW.whole enc Tryd.prog ((laidWorld os).forCall (fun _ _ => 0) ⟨#[], #[.agg #[.int .i64 0, .slice none 0 0, .int .i64 0, .int .i64 0, .int .i64 0]], []⟩).memory Tryd.f3.params.toList Rows.fnExactFormatMethodSpec.vars false (#[.agg #[.int .i64 0, .slice none 0 0, .int .i64 0, .int .i64 0, .int .i64 0]] : Array Value).toList 8 = some ([.agg [.lit (.int .i64 0), .nil, .lit (.int .i64 0), .lit (.int .i64 0), .lit (.int .i64 0)]], [], places) :=
  ⟨[], by kernel_rfl⟩

set_option maxRecDepth 100000 in
theorem lifted (os : Os) (started : os.Started) (H : Type) (enc : TypeId × Value → H) (F : Stop.Interp) :
    ReturnsInHanded {} Tryd.checked os 3 .any ((OpenSpec.ofChange Rows.fnExactFormatMethodSpec).preRow enc Tryd.prog Tryd.f3 Rows.fnExactFormatMethodRow.domain false Rows.fnExactFormatMethodRow.laid) (((OpenSpec.ofChange Rows.fnExactFormatMethodSpec).at F).post enc Tryd.prog Tryd.f3 false true false false) := by
  obtain ⟨places, hx⟩ := reads os enc
  refine returnsInHanded_of_row (C := Tryd.checked) (s := OpenSpec.ofChange Rows.fnExactFormatMethodSpec) own started (by kernel_rfl) Tryd.func3
    (witness_row_at (enc := enc) (C := Tryd.checked) false (laidWorld os) #[.agg #[.int .i64 0, .slice none 0 0, .int .i64 0, .int .i64 0, .int .i64 0]] rfl (by kernel_rfl) (by kernel_rfl) (by kernel_rfl)
      (OpenSpec.preRow_of_cond 8 hx (by kernel_rfl) (fun k hk => by cases hk) (by kernel_rfl) (laid_met os))) ?_
  intro W base args ds gs before hval hW h1 h2 h3 hL h4 h5
  exact contract H enc W (by assumption) base args ds gs before hval hW hL

theorem said : Rows.FnExactFormatMethodSaid :=
  OpenClaim.holds_of_cond 3 Tryd.f3 rfl rfl rfl rfl rfl rfl rfl ⟨rfl, rfl, rfl, rfl, rfl⟩ rfl rfl rfl rfl rfl (by kernel_rfl) Tryd.func3 (by kernel_rfl)
    (of_decide_eq_true (by kernel_rfl)) (by unfold Func.isWrapper; first | (rw [if_pos (by decide +kernel)]; kernel_rfl) | (rw [if_neg (by decide +kernel)]; exact ⟨rfl, rfl⟩))
    (fun os started H enc _ F => by rw [OpenClaim.pre_eq_preRow]; exact lifted os started H enc F)

theorem plain (f : FuncId) (fn : Func) (hf : Tryd.pinned.checked.prog.funcNamed "loop.example/g01989/laws.FnExactFormatMethod" = some f) (hfn : Tryd.pinned.checked.prog.funcs[f]? = some fn) :
    false = Tryd.pinned.checked.prog.looks [] ∧ ∀ (j : Nat) t, fn.params[j]? = some t → Tryd.pinned.checked.prog.wantsStandIn t = false := by
  obtain rfl : f = 3 := Option.some.inj ((show Tryd.prog.funcNamed "loop.example/g01989/laws.FnExactFormatMethod" = some 3 by kernel_rfl).symm.trans hf) |>.symm
  obtain rfl : fn = Tryd.f3 := (Option.some.inj (Tryd.func3.symm.trans hfn)).symm
  refine ⟨by kernel_rfl, fun j t ht => ?_⟩
  rw [Tryd.params3] at ht
  obtain rfl : t = 24 := by simpa using Array.mem_of_getElem? ht
  exact (show Tryd.prog.wantsStandIn 24 = false by kernel_rfl)
end Go.Proofs.YtenondgjipmhnaaDoor.fnExactFormatMethod
namespace Go.Proofs.YtenondgjipmhnaaDoor
theorem fnExactFormatMethod_card : Rows.FnExactFormatMethodCardSaid :=
  Claim7.holds_tied_plain_at .later [] _ _ _ _ fnExactFormatMethod.said (fun _ h => by cases h) (by kernel_rfl) (fun _ h => by cases h) fnExactFormatMethod_row_tie rfl ⟨rfl, rfl⟩ (by kernel_rfl) rfl fnExactFormatMethod.plain (by kernel_rfl)
#print axioms fnExactFormatMethod_card
end Go.Proofs.YtenondgjipmhnaaDoor
