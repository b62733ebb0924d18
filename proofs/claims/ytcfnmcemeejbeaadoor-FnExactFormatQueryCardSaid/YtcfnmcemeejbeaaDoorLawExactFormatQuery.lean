/- impl.FormatQuery answers as its model at every argument: the law FnExactFormatQuery returns true. The listed package-level variables are tied to the program's text by the card. Conditions: none beyond the statement's own. -/
import Derived.Test.YtcfnmcemeejbeaaDoorFmtQS
import Derived.Test.YtcfnmcemeejbeaaDoorDoor
import Derived.Test.YtcfnmcemeejbeaaDoorQR
namespace Go.Proofs.YtcfnmcemeejbeaaDoor.fnExactFormatQuery
open Go.ChangeShapes Go.WideShapes Go.ChangeAt Go.RowKit Go.Sort
open Go.ChangeMaps (open_string shut_string)
set_option linter.unusedVariables false
set_option linter.unusedSimpArgs false
open Go.Proofs.YtcfnmcemeejbeaaDoor.atom

set_option maxRecDepth 100000 in
set_option maxHeartbeats 1000000 in
theorem walk (w : World) (ht : Tab w) (H0 A0 : Option Addr) (x0 c0 : Nat) (s0 : List Int) (l0 : FL) (y0 : s0.length ≤ x0) (z0 : x0 ≤ maxLen) (k0 : l0.length ≤ c0) (m0 : c0 ≤ maxLen) (w0 : Ints w 0 w.heap.size H0 s0 ∧ Facts w 0 w.heap.size A0 l0) (g0 : ∀ n ∈ s0, (Lit.int .i64 n).wf = true) :
    Calls Tryd.prog 5 #[.agg #[.slice H0 s0.length x0, .slice A0 l0.length c0]] w fun e w' => e = .returned (.bool true) ∧ Below w.heap.size w w' := by
  unfold maxLen at z0 m0
  have hn := szF_nonneg l0
  have HR := Lib.hid (range_of g0)
  clear g0
  have EQ := Lib.hid (show szQ s0 l0 = (s0.length : Int) + szF l0 from rfl)
  by_cases hb : 1048576 - szQ s0 l0 < 0
  · have I0 := Lib.hid (show RI w H0 s0 from w0.1)
    have F0 := Lib.hid (show RF w A0 l0 from w0.2)
    have TT := Lib.hid (TabB.of ht)
    clear w0 ht
    go_enter Tryd.func5, Tryd.ntmps5
    go_wp2_with fail
    refine (szQuery_any H0 A0 x0 c0 s0 l0 1048576 (by omega) (by omega) (by omega) (by omega) _ (by first | exact F0.out | exact F0.out.step (below_drew _) | exact F0.out.step (below_alloc _ _))).mono ?_
    rintro e u1 ⟨he, d1⟩
    rw [szR_neg hb] at he
    subst he
    have X0 := Lib.hid (Box.of_new d1)
    have b1 : Below w.heap.size w u1 := by first | exact d1 | exact und d1 | exact undN d1 | exact below_new d1 | exact und (below_new d1) | exact below_new (und d1) | exact below_new (below_new d1) | exact step (below_drew _) (und (below_new d1))
    have I0' := Lib.hid (I0.out.step b1)
    clear I0
    have I0 := I0'
    clear I0'
    have F0' := Lib.hid (F0.out.step b1)
    clear F0
    have F0 := F0'
    clear F0'
    have TT' := Lib.hid (TT.out.step b1)
    clear TT
    have TT := TT'
    clear TT'
    have T1 := b1
    have Z1 := b1.size
    have ga0 := X0.out.cell 0
    have ga1 := X0.out.cell 1
    simp only [List.getElem?_toArray, List.getElem?_cons_zero, List.getElem?_cons_succ] at ga0 ga1
    have gan := X0.out.lt
    go_wp2
    go_ret
    exact ⟨rfl, T1⟩
  · skip
    have hz : szQ s0 l0 ≤ 1048576 := by omega
    have hz0 : szF l0 ≤ 1048576 := by rw [EQ.out] at hz; omega
    have hl0 : s0.length ≤ 1048576 := by rw [EQ.out] at hz; omega
    have hq2 : 0 ≤ 1048576 - szQ s0 l0 := by omega
    have CS := Lib.hid fun (H A : Option Addr) (ch c : Nat) (w : World) (h : RI w H s0) (h' : RF w A l0) => spec_FormatQuery H A ch c s0 l0 (by omega) HR.out hz0 w h h'
    have CI := Lib.hid fun (H A : Option Addr) (ch c : Nat) (w : World) (h : RI w H s0) (h' : RF w A l0) (ht : TabB w) => impl_FormatQuery_r H A ch c s0 l0 (by omega) hz0 w h h' ht
    generalize fmtQ s0 l0 = txt at CS CI
    have I0 := Lib.hid (show RI w H0 s0 from w0.1)
    have F0 := Lib.hid (show RF w A0 l0 from w0.2)
    have TT := Lib.hid (TabB.of ht)
    clear w0 ht
    go_enter Tryd.func5, Tryd.ntmps5
    go_wp2_with fail
    refine (szQuery_any H0 A0 x0 c0 s0 l0 1048576 (by omega) (by omega) (by omega) (by omega) _ (by first | exact F0.out | exact F0.out.step (below_drew _) | exact F0.out.step (below_alloc _ _))).mono ?_
    rintro e u1 ⟨he, d1⟩
    rw [szR_pos (show ¬ (1048576 - szQ s0 l0 < 0) by omega)] at he
    subst he
    have X0 := Lib.hid (Box.of_new d1)
    have b1 : Below w.heap.size w u1 := by first | exact d1 | exact und d1 | exact undN d1 | exact below_new d1 | exact und (below_new d1) | exact below_new (und d1) | exact below_new (below_new d1) | exact step (below_drew _) (und (below_new d1))
    have I0' := Lib.hid (I0.out.step b1)
    clear I0
    have I0 := I0'
    clear I0'
    have F0' := Lib.hid (F0.out.step b1)
    clear F0
    have F0 := F0'
    clear F0'
    have TT' := Lib.hid (TT.out.step b1)
    clear TT
    have TT := TT'
    clear TT'
    have T1 := b1
    have Z1 := b1.size
    have ga0 := X0.out.cell 0
    have ga1 := X0.out.cell 1
    simp only [List.getElem?_toArray, List.getElem?_cons_zero, List.getElem?_cons_succ] at ga0 ga1
    have gan := X0.out.lt
    go_wp2_with fail
    refine (toQuery_r H0 A0 x0 c0 s0 l0 hl0 hz0 _ (by first | exact I0.out | exact I0.out.step (below_drew _) | exact I0.out.step (below_alloc _ _)) (by first | exact F0.out | exact F0.out.step (below_drew _) | exact F0.out.step (below_alloc _ _))).mono ?_
    rintro e u2 ⟨rfl, r2, d2, z2⟩
    have b2 : Below u1.heap.size u1 u2 := by first | exact d2 | exact und d2 | exact undN d2 | exact below_new d2 | exact und (below_new d2) | exact below_new (und d2) | exact below_new (below_new d2) | exact step (below_drew _) (und (below_new d2))
    have I0' := Lib.hid (I0.out.step b2)
    clear I0
    have I0 := I0'
    clear I0'
    have F0' := Lib.hid (F0.out.step b2)
    clear F0
    have F0 := F0'
    clear F0'
    have TT' := Lib.hid (TT.out.step b2)
    clear TT
    have TT := TT'
    clear TT'
    have X0' := Lib.hid (X0.out.step b2)
    clear X0
    have X0 := X0'
    clear X0'
    have T2 := step T1 b2
    have Z2 := b2.size
    have Q2 := Lib.hid r2
    clear r2 z2
    have gb0 := X0.out.cell 0
    have gb1 := X0.out.cell 1
    simp only [List.getElem?_toArray, List.getElem?_cons_zero, List.getElem?_cons_succ] at gb0 gb1
    have gbn := X0.out.lt
    go_wp2_with fail
    refine (CS.out _ _ _ _ _ (by first | exact Q2.out.ri | exact (Q2.out.step (below_drew _)).ri | exact (Q2.out.step (below_alloc _ _)).ri) (by first | exact Q2.out.rf | exact (Q2.out.step (below_drew _)).rf | exact (Q2.out.step (below_alloc _ _)).rf)).mono ?_
    rintro e u3 ⟨rfl, d3⟩
    have b3 : Below u2.heap.size u2 u3 := by first | exact d3 | exact und d3 | exact undN d3 | exact below_new d3 | exact und (below_new d3) | exact below_new (und d3) | exact below_new (below_new d3) | exact step (below_drew _) (und (below_new d3))
    have I0' := Lib.hid (I0.out.step b3)
    clear I0
    have I0 := I0'
    clear I0'
    have F0' := Lib.hid (F0.out.step b3)
    clear F0
    have F0 := F0'
    clear F0'
    have TT' := Lib.hid (TT.out.step b3)
    clear TT
    have TT := TT'
    clear TT'
    have X0' := Lib.hid (X0.out.step b3)
    clear X0
    have X0 := X0'
    clear X0'
    have Q2' := Lib.hid (Q2.out.step b3)
    clear Q2
    have Q2 := Q2'
    clear Q2'
    have T3 := step T2 b3
    have Z3 := b3.size
    have gc0 := X0.out.cell 0
    have gc1 := X0.out.cell 1
    simp only [List.getElem?_toArray, List.getElem?_cons_zero, List.getElem?_cons_succ] at gc0 gc1
    have gcn := X0.out.lt
    go_wp2_with fail
    refine (toQuery_r H0 A0 x0 c0 s0 l0 hl0 hz0 _ (by first | exact I0.out | exact I0.out.step (below_drew _) | exact I0.out.step (below_alloc _ _)) (by first | exact F0.out | exact F0.out.step (below_drew _) | exact F0.out.step (below_alloc _ _))).mono ?_
    rintro e u4 ⟨rfl, r4, d4, z4⟩
    have b4 : Below u3.heap.size u3 u4 := by first | exact d4 | exact und d4 | exact undN d4 | exact below_new d4 | exact und (below_new d4) | exact below_new (und d4) | exact below_new (below_new d4) | exact step (below_drew _) (und (below_new d4))
    have I0' := Lib.hid (I0.out.step b4)
    clear I0
    have I0 := I0'
    clear I0'
    have F0' := Lib.hid (F0.out.step b4)
    clear F0
    have F0 := F0'
    clear F0'
    have TT' := Lib.hid (TT.out.step b4)
    clear TT
    have TT := TT'
    clear TT'
    have X0' := Lib.hid (X0.out.step b4)
    clear X0
    have X0 := X0'
    clear X0'
    have T4 := step T3 b4
    have Z4 := b4.size
    have Q4 := Lib.hid r4
    clear r4 z4
    go_wp2_with fail
    refine (CI.out _ _ _ _ _ (by first | exact Q4.out.ri | exact (Q4.out.step (below_drew _)).ri | exact (Q4.out.step (below_alloc _ _)).ri) (by first | exact Q4.out.rf | exact (Q4.out.step (below_drew _)).rf | exact (Q4.out.step (below_alloc _ _)).rf) (by first | exact TT.out | exact TT.out.step (below_drew _) | exact TT.out.step (below_alloc _ _))).mono ?_
    rintro e u5 ⟨rfl, d5⟩
    have Y0 := Lib.hid (Box.of_new d5)
    have b5 : Below u4.heap.size u4 u5 := by first | exact d5 | exact und d5 | exact undN d5 | exact below_new d5 | exact und (below_new d5) | exact below_new (und d5) | exact below_new (below_new d5) | exact step (below_drew _) (und (below_new d5))
    have I0' := Lib.hid (I0.out.step b5)
    clear I0
    have I0 := I0'
    clear I0'
    have F0' := Lib.hid (F0.out.step b5)
    clear F0
    have F0 := F0'
    clear F0'
    have TT' := Lib.hid (TT.out.step b5)
    clear TT
    have TT := TT'
    clear TT'
    have X0' := Lib.hid (X0.out.step b5)
    clear X0
    have X0 := X0'
    clear X0'
    have Q4' := Lib.hid (Q4.out.step b5)
    clear Q4
    have Q4 := Q4'
    clear Q4'
    have T5 := step T4 b5
    have Z5 := b5.size
    have gd0 := X0.out.cell 0
    have gd1 := X0.out.cell 1
    simp only [List.getElem?_toArray, List.getElem?_cons_zero, List.getElem?_cons_succ] at gd0 gd1
    have gdn := X0.out.lt
    have ge0 := Y0.out.cell 0
    have ge1 := Y0.out.cell 1
    simp only [List.getElem?_toArray, List.getElem?_cons_zero, List.getElem?_cons_succ] at ge0 ge1
    have gen := Y0.out.lt
    have tok6 : True := trivial
    have tok7 : True := trivial
    go_wp2_with fail
    go_region_held3 (fun w' => w'.cell? ⟨w.heap.size, 0, none⟩ = some (.slice H0 s0.length x0) ∧ w'.cell? ⟨w.heap.size, 1, none⟩ = some (.slice A0 l0.length c0) ∧ w'.cell? ⟨u4.heap.size, 0, none⟩ = some (.slice (some ⟨u3.heap.size + 3, 0, none⟩) s0.length s0.length) ∧ w'.cell? ⟨u4.heap.size, 1, none⟩ = some (.slice (some ⟨u3.heap.size + 3 + 1, 0, none⟩) l0.length l0.length))
      (first
        | go_keep
        | (go_split_ands; refine ⟨?_, ?_, ?_, ?_⟩ <;> (rw [d6.cell (by (try simp) <;> omega)]; assumption))
        | (go_split_ands; refine ⟨?_, ?_, ?_, ?_⟩ <;> (rw [d7.cell (by (try simp) <;> omega)]; assumption)))
      (first
        | (go_at_call 20
           clear tok6
           refine (toQuery_r H0 A0 x0 c0 s0 l0 hl0 hz0 _ (by first | exact I0.out | exact I0.out.step (below_drew _) | exact I0.out.step (below_alloc _ _)) (by first | exact F0.out | exact F0.out.step (below_drew _) | exact F0.out.step (below_alloc _ _))).mono ?_
           rintro e u6 ⟨rfl, r6, d6, z6⟩
           have b6 : Below u5.heap.size u5 u6 := by first | exact d6 | exact und d6 | exact undN d6 | exact below_new d6 | exact und (below_new d6) | exact below_new (und d6) | exact below_new (below_new d6) | exact step (below_drew _) (und (below_new d6))
           have I0' := Lib.hid (I0.out.step b6)
           clear I0
           have I0 := I0'
           clear I0'
           have F0' := Lib.hid (F0.out.step b6)
           clear F0
           have F0 := F0'
           clear F0'
           have TT' := Lib.hid (TT.out.step b6)
           clear TT
           have TT := TT'
           clear TT'
           have X0' := Lib.hid (X0.out.step b6)
           clear X0
           have X0 := X0'
           clear X0'
           have Q4' := Lib.hid (Q4.out.step b6)
           clear Q4
           have Q4 := Q4'
           clear Q4'
           have Y0' := Lib.hid (Y0.out.step b6)
           clear Y0
           have Y0 := Y0'
           clear Y0'
           have T6 := step T5 b6
           have Z6 := b6.size
           have Q6 := Lib.hid r6
           clear r6 z6)
        | (go_at_call 22
           clear tok7
           refine (eqQuery_b _ _ _ _ _ _ _ _ s0 l0 hl0 (by omega) _ (by first | exact Q4.out.ri | exact (Q4.out.step (below_drew _)).ri | exact (Q4.out.step (below_alloc _ _)).ri) (by first | exact Q4.out.rf | exact (Q4.out.step (below_drew _)).rf | exact (Q4.out.step (below_alloc _ _)).rf) (by first | exact Q6.out.ri | exact (Q6.out.step (below_drew _)).ri | exact (Q6.out.step (below_alloc _ _)).ri) (by first | exact Q6.out.rf | exact (Q6.out.step (below_drew _)).rf | exact (Q6.out.step (below_alloc _ _)).rf)).mono ?_
           rintro e u7 ⟨rfl, d7⟩
           have b7 : Below u6.heap.size u6 u7 := by first | exact d7 | exact und d7 | exact undN d7 | exact below_new d7 | exact und (below_new d7) | exact below_new (und d7) | exact below_new (below_new d7) | exact step (below_drew _) (und (below_new d7))
           have I0' := Lib.hid (I0.out.step b7)
           clear I0
           have I0 := I0'
           clear I0'
           have F0' := Lib.hid (F0.out.step b7)
           clear F0
           have F0 := F0'
           clear F0'
           have TT' := Lib.hid (TT.out.step b7)
           clear TT
           have TT := TT'
           clear TT'
           have X0' := Lib.hid (X0.out.step b7)
           clear X0
           have X0 := X0'
           clear X0'
           have Q4' := Lib.hid (Q4.out.step b7)
           clear Q4
           have Q4 := Q4'
           clear Q4'
           have Y0' := Lib.hid (Y0.out.step b7)
           clear Y0
           have Y0 := Y0'
           clear Y0'
           have Q6' := Lib.hid (Q6.out.step b7)
           clear Q6
           have Q6 := Q6'
           clear Q6'
           have T7 := step T6 b7
           have Z7 := b7.size))
    go_wp2
    go_ret
    exact ⟨rfl, by first | exact T7 | exact T7.drew⟩

set_option maxRecDepth 100000 in
theorem contract (H : Type) (enc : TypeId × Value → H) (W : World) (hsh : W.ShapedOpen Tryd.prog) (base : Nat) (args : Array Value) (ds gs : List (DataW H)) (before : List MemPlace)
    (hval : ∀ (j : Nat) t v, Tryd.f5.params[j]? = some t → args[j]? = some v → Value.okWide Tryd.prog W .any base t v)
    (hW : DataW.Whole enc Tryd.prog Tryd.f5.params.toList Rows.fnExactFormatQuerySpec.vars false W args.toList ds gs before) (hL : laidMetH Tryd.prog Rows.fnExactFormatQueryRow.laid W) :
    Calls Tryd.prog 5 args W fun e W' => ∃ v, e = .returned v ∧ Rows.fnExactFormatQuerySpec.post enc Tryd.prog Tryd.f5 false true false false W args v W' := by
  have hpost := fun (W' : World) (hfn : Rows.fnExactFormatQuerySpec.fn H (ds ++ gs) = { results := [.lit (.bool true)], args := ds }) (hb : Below W.heap.size W W') => law_post (enc := enc) laidOut (f := Tryd.f5) (s := Rows.fnExactFormatQuerySpec) (args := args) rfl rfl Tryd.underlying4 (by intro t ht; rw [Tryd.params5] at ht; simp at ht; rcases ht with rfl <;> exact ⟨by kernel_rfl, of_decide_eq_true (by kernel_rfl)⟩) hW hfn hb
  obtain ⟨p, q, hA0, hV, rfl, hfz, hnd⟩ := hW
  have hA : DataW.TrodAll enc Tryd.prog W 0 (fun _ => true) true Tryd.f5.params.toList args.toList ds p := hA0
  rw [Tryd.params5] at hA hval
  obtain ⟨v0, vs0, d0, ds0, p0, q0, hargs, rfl, rfl, h0, r0⟩ := trodAll_cons hA
  obtain ⟨rfl, rfl, rfl⟩ := trodAll_nil r0
  obtain rfl : args = #[v0] := by cases args; simp_all
  obtain ⟨rfl, rfl⟩ := trodVars_none hV
  obtain ⟨H0, A0, x0, c0, s0, l0, rfl, y0, z0, k0, m0, w0, g0⟩ := open_queryR (hval 0 41 v0 rfl rfl) h0
  refine (walk W (table hL) H0 A0 x0 c0 s0 l0 y0 z0 k0 m0 w0 g0).mono fun e W' ⟨he, hg⟩ => ?_
  subst he
  exact ⟨_, rfl, hpost W' rfl hg⟩

set_option maxRecDepth 100000 in
theorem laid_met (os : Os) : laidMet Tryd.prog Rows.fnExactFormatQueryRow.laid ((laidWorld os).forCall (fun _ _ => 0) ⟨#[], #[.agg #[.slice none 0 0, .slice none 0 0]], []⟩).memory :=
  laidMet_of_run' 8 (by kernel_rfl) (by kernel_rfl)
theorem reads (os : Os) {H : Type} (enc : TypeId × Value → H) : ∃ places, DataW.whole enc Tryd.prog ((laidWorld os).forCall (fun _ _ => 0) ⟨#[], #[.agg #[.slice none 0 0, .slice none 0 0]], []⟩).memory Tryd.f5.params.toList Rows.fnExactFormatQuerySpec.vars false (#[.agg #[.slice none 0 0, .slice none 0 0]] : Array Value).toList 8 = some ([.agg [.nil, .nil]], [], places) :=
  ⟨[], by kernel_rfl⟩

set_option maxRecDepth 100000 in
theorem lifted (os : Os) (started : os.Started) (H : Type) (enc : TypeId × Value → H) (F : Stop.Interp) :
    ReturnsInHanded {} Tryd.checked os 5 .any ((OpenSpec.ofChange Rows.fnExactFormatQuerySpec).preRow enc Tryd.prog Tryd.f5 Rows.fnExactFormatQueryRow.domain false Rows.fnExactFormatQueryRow.laid) (((OpenSpec.ofChange Rows.fnExactFormatQuerySpec).at F).post enc Tryd.prog Tryd.f5 false true false false) := by
  obtain ⟨places, hx⟩ := reads os enc
  refine returnsInHanded_of_row (C := Tryd.checked) (s := OpenSpec.ofChange Rows.fnExactFormatQuerySpec) own started (by kernel_rfl) Tryd.func5
    (witness_row_at (enc := enc) (C := Tryd.checked) false (laidWorld os) #[.agg #[.slice none 0 0, .slice none 0 0]] rfl (by kernel_rfl) (by kernel_rfl) (by kernel_rfl)
      (OpenSpec.preRow_of_cond 8 hx (by kernel_rfl) (fun k hk => by cases hk) (by kernel_rfl) (laid_met os))) ?_
  intro W base args ds gs before hval hW h1 h2 h3 hL h4 h5
  exact contract H enc W (by assumption) base args ds gs before hval hW hL

theorem said : Rows.FnExactFormatQuerySaid :=
  OpenClaim.holds_of_cond 5 Tryd.f5 rfl rfl rfl rfl rfl rfl rfl ⟨rfl, rfl, rfl, rfl, rfl⟩ rfl rfl rfl rfl rfl (by kernel_rfl) Tryd.func5 (by kernel_rfl)
    (of_decide_eq_true (by kernel_rfl)) (by unfold Func.isWrapper; first | (rw [if_pos (by decide +kernel)]; kernel_rfl) | (rw [if_neg (by decide +kernel)]; exact ⟨rfl, rfl⟩))
    (fun os started H enc _ F => by rw [OpenClaim.pre_eq_preRow]; exact lifted os started H enc F)

theorem plain (f : FuncId) (fn : Func) (hf : Tryd.pinned.checked.prog.funcNamed "loop.example/g01989/laws.FnExactFormatQuery" = some f) (hfn : Tryd.pinned.checked.prog.funcs[f]? = some fn) :
    false = Tryd.pinned.checked.prog.looks [] ∧ ∀ (j : Nat) t, fn.params[j]? = some t → Tryd.pinned.checked.prog.wantsStandIn t = false := by
  obtain rfl : f = 5 := Option.some.inj ((show Tryd.prog.funcNamed "loop.example/g01989/laws.FnExactFormatQuery" = some 5 by kernel_rfl).symm.trans hf) |>.symm
  obtain rfl : fn = Tryd.f5 := (Option.some.inj (Tryd.func5.symm.trans hfn)).symm
  refine ⟨by kernel_rfl, fun j t ht => ?_⟩
  rw [Tryd.params5] at ht
  obtain rfl : t = 41 := by simpa using Array.mem_of_getElem? ht
  exact (show Tryd.prog.wantsStandIn 41 = false by kernel_rfl)
end Go.Proofs.YtcfnmcemeejbeaaDoor.fnExactFormatQuery
namespace Go.Proofs.YtcfnmcemeejbeaaDoor
theorem fnExactFormatQuery_card : Rows.FnExactFormatQueryCardSaid :=
  Claim7.holds_tied_plain_at .later [] _ _ _ _ fnExactFormatQuery.said (fun _ h => by cases h) (by kernel_rfl) (fun _ h => by cases h) fnExactFormatQuery_row_tie rfl ⟨rfl, rfl⟩ (by kernel_rfl) rfl fnExactFormatQuery.plain (by kernel_rfl)
#print axioms fnExactFormatQuery_card
end Go.Proofs.YtcfnmcemeejbeaaDoor
