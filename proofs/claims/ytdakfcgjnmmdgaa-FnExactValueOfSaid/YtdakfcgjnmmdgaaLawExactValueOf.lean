/- impl.ValueOf answers as its model at every argument: the law FnExactValueOf returns true. Conditions: none beyond the statement's own. -/
import Derived.Test.YtdakfcgjnmmdgaaValW
namespace Go.Proofs.Ytdakfcgjnmmdgaa.fnExactValueOf
open Go.ChangeShapes Go.WideShapes Go.ChangeAt Go.RowKit
open Go.ChangeMaps (open_string shut_string)
set_option linter.unusedVariables false
set_option linter.unusedSimpArgs false

set_option maxRecDepth 100000 in
set_option maxHeartbeats 1000000 in
theorem walk (w : World) (H0 A0 : Option Addr) (x0 c0 : Nat) (s0 l0 : List Int) (y0 : s0.length ≤ x0) (z0 : x0 ≤ maxLen) (k0 : l0.length ≤ c0) (m0 : c0 ≤ maxLen) (w0 : Ints w 0 w.heap.size H0 s0 ∧ Ints w 0 w.heap.size A0 l0) (a1 : Int) (w1 : (Lit.int .i64 a1).wf = true) :
    Calls Try.prog 4 #[.agg #[.slice H0 s0.length x0, .slice A0 l0.length c0], .int .i64 a1] w fun e w' => e = .returned (.bool true) ∧ Below w.heap.size w w' := by
  unfold maxLen at z0 m0
  have EQ := Lib.hid (show szB s0 l0 = (s0.length : Int) + (l0.length : Int) from rfl)
  have hq : 0 ≤ szB s0 l0 := by rw [EQ.out]; omega
  by_cases hb : 1048576 - szB s0 l0 < 0
  · have I0 := Lib.hid (show RI w H0 s0 from w0.1)
    have F0 := Lib.hid (show RI w A0 l0 from w0.2)
    clear w0
    go_enter Try.func4, Try.ntmps4
    go_wp2_with fail
    refine (szBinding_any H0 A0 x0 c0 s0 l0 1048576 (by omega) (by omega) (by omega) (by omega) _).mono ?_
    rintro e u1 ⟨he, d1⟩
    rw [szR_neg hb] at he
    subst he
    have X0 := Lib.hid (Box.of_new d1)
    have b1 : Below w.heap.size w u1 := by first | exact d1 | exact und d1 | exact undN d1 | exact below_new d1 | exact und (below_new d1) | exact below_new (und d1) | exact below_new (below_new d1) | exact step (below_drew _) (und (below_new d1))
    have I0' := Lib.hid (I0.out.step b1)
    clear I0
    have I0 := I0'
    clear I0'
    have F0' := Lib.hid (F0.out.step b1)
    clear F0
    have F0 := F0'
    clear F0'
    have T1 := b1
    have Z1 := b1.size
    have ga0 := X0.out.cell 0
    have ga1 := X0.out.cell 1
    simp only [List.getElem?_toArray, List.getElem?_cons_zero, List.getElem?_cons_succ] at ga0 ga1
    have gan := X0.out.lt
    go_wp2
    go_ret
    exact ⟨rfl, T1⟩
  · skip
    have hz : szB s0 l0 ≤ 1048576 := by omega
    have hl0 : l0.length ≤ 1048576 := by rw [EQ.out] at hz; omega
    have hs0 : s0.length ≤ 1048576 := by rw [EQ.out] at hz; omega
    have hq2 : 0 ≤ 1048576 - szB s0 l0 := by omega
    have CS := Lib.hid fun (H A : Option Addr) (ch c : Nat) (w : World) (a : RI w H s0) (b : RI w A l0) => spec_ValueOf H A ch c s0 l0 a1 hs0 hl0 w a b
    have CI := Lib.hid fun (H A : Option Addr) (ch c : Nat) (w : World) (a : RI w H s0) (b : RI w A l0) => impl_ValueOf H A ch c s0 l0 a1 hs0 hl0 w a b
    generalize bval s0 l0 a1 = res at CS CI
    have I0 := Lib.hid (show RI w H0 s0 from w0.1)
    have F0 := Lib.hid (show RI w A0 l0 from w0.2)
    clear w0
    go_enter Try.func4, Try.ntmps4
    go_wp2_with fail
    refine (szBinding_any H0 A0 x0 c0 s0 l0 1048576 (by omega) (by omega) (by omega) (by omega) _).mono ?_
    rintro e u1 ⟨he, d1⟩
    rw [szR_pos (show ¬ (1048576 - szB s0 l0 < 0) by omega)] at he
    subst he
    have X0 := Lib.hid (Box.of_new d1)
    have b1 : Below w.heap.size w u1 := by first | exact d1 | exact und d1 | exact undN d1 | exact below_new d1 | exact und (below_new d1) | exact below_new (und d1) | exact below_new (below_new d1) | exact step (below_drew _) (und (below_new d1))
    have I0' := Lib.hid (I0.out.step b1)
    clear I0
    have I0 := I0'
    clear I0'
    have F0' := Lib.hid (F0.out.step b1)
    clear F0
    have F0 := F0'
    clear F0'
    have T1 := b1
    have Z1 := b1.size
    have ga0 := X0.out.cell 0
    have ga1 := X0.out.cell 1
    simp only [List.getElem?_toArray, List.getElem?_cons_zero, List.getElem?_cons_succ] at ga0 ga1
    have gan := X0.out.lt
    go_wp2_with fail
    refine (toBinding_r H0 A0 x0 c0 s0 l0 hs0 hl0 _ (by first | exact I0.out | exact I0.out.step (below_drew _) | exact I0.out.step (below_alloc _ _) | exact I0.out.step (step (below_alloc _ _) (below_alloc _ _))) (by first | exact F0.out | exact F0.out.step (below_drew _) | exact F0.out.step (below_alloc _ _) | exact F0.out.step (step (below_alloc _ _) (below_alloc _ _)))).mono ?_
    rintro e u2 ⟨rfl, r2, d2, z2⟩
    have b2 : Below u1.heap.size u1 u2 := by first | exact d2 | exact und d2 | exact undN d2 | exact below_new d2 | exact und (below_new d2) | exact below_new (und d2) | exact below_new (below_new d2) | exact step (below_drew _) (und (below_new d2))
    have I0' := Lib.hid (I0.out.step b2)
    clear I0
    have I0 := I0'
    clear I0'
    have F0' := Lib.hid (F0.out.step b2)
    clear F0
    have F0 := F0'
    clear F0'
    have X0' := Lib.hid (X0.out.step b2)
    clear X0
    have X0 := X0'
    clear X0'
    have T2 := step T1 b2
    have Z2 := b2.size
    try rw [al_size] at r2
    have Q2 := Lib.hid r2
    clear r2 z2
    go_wp2_with fail
    refine (CS.out _ _ _ _ _ (by first | exact Q2.out.ri | exact (Q2.out.step (below_drew _)).ri | exact (Q2.out.step (below_alloc _ _)).ri) (by first | exact Q2.out.rv | exact (Q2.out.step (below_drew _)).rv | exact (Q2.out.step (below_alloc _ _)).rv)).mono ?_
    rintro e u3 ⟨rfl, d3⟩
    have b3 : Below u2.heap.size u2 u3 := by first | exact d3 | exact und d3 | exact undN d3 | exact below_new d3 | exact und (below_new d3) | exact below_new (und d3) | exact below_new (below_new d3) | exact step (below_drew _) (und (below_new d3))
    have I0' := Lib.hid (I0.out.step b3)
    clear I0
    have I0 := I0'
    clear I0'
    have F0' := Lib.hid (F0.out.step b3)
    clear F0
    have F0 := F0'
    clear F0'
    have X0' := Lib.hid (X0.out.step b3)
    clear X0
    have X0 := X0'
    clear X0'
    have Q2' := Lib.hid (Q2.out.step b3)
    clear Q2
    have Q2 := Q2'
    clear Q2'
    have T3 := step T2 b3
    have Z3 := b3.size
    have gb0 := X0.out.cell 0
    have gb1 := X0.out.cell 1
    simp only [List.getElem?_toArray, List.getElem?_cons_zero, List.getElem?_cons_succ] at gb0 gb1
    have gbn := X0.out.lt
    go_wp2_with fail
    refine (toBinding_r H0 A0 x0 c0 s0 l0 hs0 hl0 _ (by first | exact I0.out | exact I0.out.step (below_drew _) | exact I0.out.step (below_alloc _ _) | exact I0.out.step (step (below_alloc _ _) (below_alloc _ _))) (by first | exact F0.out | exact F0.out.step (below_drew _) | exact F0.out.step (below_alloc _ _) | exact F0.out.step (step (below_alloc _ _) (below_alloc _ _)))).mono ?_
    rintro e u4 ⟨rfl, r4, d4, z4⟩
    have b4 : Below u3.heap.size u3 u4 := by first | exact d4 | exact und d4 | exact undN d4 | exact below_new d4 | exact und (below_new d4) | exact below_new (und d4) | exact below_new (below_new d4) | exact step (below_drew _) (und (below_new d4))
    have I0' := Lib.hid (I0.out.step b4)
    clear I0
    have I0 := I0'
    clear I0'
    have F0' := Lib.hid (F0.out.step b4)
    clear F0
    have F0 := F0'
    clear F0'
    have X0' := Lib.hid (X0.out.step b4)
    clear X0
    have X0 := X0'
    clear X0'
    have T4 := step T3 b4
    have Z4 := b4.size
    try rw [al_size] at r4
    have Q4 := Lib.hid r4
    clear r4 z4
    go_wp2_with fail
    refine (CI.out _ _ _ _ _ (by first | exact Q4.out.ri | exact (Q4.out.step (below_drew _)).ri | exact (Q4.out.step (below_alloc _ _)).ri) (by first | exact Q4.out.rv | exact (Q4.out.step (below_drew _)).rv | exact (Q4.out.step (below_alloc _ _)).rv)).mono ?_
    rintro e u5 ⟨rfl, d5⟩
    have Y0 := Lib.hid (Box.of_new d5)
    have b5 : Below u4.heap.size u4 u5 := by first | exact d5 | exact und d5 | exact undN d5 | exact below_new d5 | exact und (below_new d5) | exact below_new (und d5) | exact below_new (below_new d5) | exact step (below_drew _) (und (below_new d5))
    have I0' := Lib.hid (I0.out.step b5)
    clear I0
    have I0 := I0'
    clear I0'
    have F0' := Lib.hid (F0.out.step b5)
    clear F0
    have F0 := F0'
    clear F0'
    have X0' := Lib.hid (X0.out.step b5)
    clear X0
    have X0 := X0'
    clear X0'
    have Q4' := Lib.hid (Q4.out.step b5)
    clear Q4
    have Q4 := Q4'
    clear Q4'
    have T5 := step T4 b5
    have Z5 := b5.size
    have gd0 := X0.out.cell 0
    have gd1 := X0.out.cell 1
    simp only [List.getElem?_toArray, List.getElem?_cons_zero, List.getElem?_cons_succ] at gd0 gd1
    have gdn := X0.out.lt
    have ge0 := Y0.out.cell 0
    have ge1 := Y0.out.cell 1
    simp only [List.getElem?_toArray, List.getElem?_cons_zero, List.getElem?_cons_succ] at ge0 ge1
    have gen := Y0.out.lt
    have tok6 : True := trivial
    have tok7 : True := trivial
    go_wp2_with fail
    go_region_held3 (fun w' => w'.cell? ⟨w.heap.size, 0, none⟩ = some (.slice H0 s0.length x0) ∧ w'.cell? ⟨w.heap.size, 1, none⟩ = some (.slice A0 l0.length c0) ∧ w'.cell? ⟨u4.heap.size, 0, none⟩ = some (.slice (some ⟨u3.heap.size + 3, 0, none⟩) s0.length s0.length) ∧ w'.cell? ⟨u4.heap.size, 1, none⟩ = some (.slice (some ⟨u3.heap.size + 3 + 1, 0, none⟩) l0.length l0.length))
      (first
        | go_keep
        | (go_split_ands; refine ⟨?_, ?_, ?_, ?_⟩ <;> (rw [d6.cell (by (try simp) <;> omega)]; assumption))
        | (go_split_ands; refine ⟨?_, ?_, ?_, ?_⟩ <;> (rw [d7.cell (by (try simp) <;> omega)]; assumption)))
      (first
        | (go_at_call 22
           clear tok6
           refine (toBinding_r H0 A0 x0 c0 s0 l0 hs0 hl0 _ (by first | exact I0.out | exact I0.out.step (below_drew _) | exact I0.out.step (below_alloc _ _) | exact I0.out.step (step (below_alloc _ _) (below_alloc _ _))) (by first | exact F0.out | exact F0.out.step (below_drew _) | exact F0.out.step (below_alloc _ _) | exact F0.out.step (step (below_alloc _ _) (below_alloc _ _)))).mono ?_
           rintro e u6 ⟨rfl, r6, d6, z6⟩
           have b6 : Below u5.heap.size u5 u6 := by first | exact d6 | exact und d6 | exact undN d6 | exact below_new d6 | exact und (below_new d6) | exact below_new (und d6) | exact below_new (below_new d6) | exact step (below_drew _) (und (below_new d6))
           have I0' := Lib.hid (I0.out.step b6)
           clear I0
           have I0 := I0'
           clear I0'
           have F0' := Lib.hid (F0.out.step b6)
           clear F0
           have F0 := F0'
           clear F0'
           have X0' := Lib.hid (X0.out.step b6)
           clear X0
           have X0 := X0'
           clear X0'
           have Q4' := Lib.hid (Q4.out.step b6)
           clear Q4
           have Q4 := Q4'
           clear Q4'
           have Y0' := Lib.hid (Y0.out.step b6)
           clear Y0
           have Y0 := Y0'
           clear Y0'
           have T6 := step T5 b6
           have Z6 := b6.size
           try rw [al_size] at r6
           have Q6 := Lib.hid r6
           clear r6 z6)
        | (go_at_call 24
           clear tok7
           refine (eqBinding_b _ _ _ _ _ _ _ _ s0 l0 hs0 hl0 _ (by first | exact Q4.out.ri | exact (Q4.out.step (below_drew _)).ri | exact (Q4.out.step (below_alloc _ _)).ri) (by first | exact Q4.out.rv | exact (Q4.out.step (below_drew _)).rv | exact (Q4.out.step (below_alloc _ _)).rv) (by first | exact Q6.out.ri | exact (Q6.out.step (below_drew _)).ri | exact (Q6.out.step (below_alloc _ _)).ri) (by first | exact Q6.out.rv | exact (Q6.out.step (below_drew _)).rv | exact (Q6.out.step (below_alloc _ _)).rv)).mono ?_
           rintro e u7 ⟨rfl, d7⟩
           have b7 : Below u6.heap.size u6 u7 := by first | exact d7 | exact und d7 | exact undN d7 | exact below_new d7 | exact und (below_new d7) | exact below_new (und d7) | exact below_new (below_new d7) | exact step (below_drew _) (und (below_new d7))
           have I0' := Lib.hid (I0.out.step b7)
           clear I0
           have I0 := I0'
           clear I0'
           have F0' := Lib.hid (F0.out.step b7)
           clear F0
           have F0 := F0'
           clear F0'
           have X0' := Lib.hid (X0.out.step b7)
           clear X0
           have X0 := X0'
           clear X0'
           have Q4' := Lib.hid (Q4.out.step b7)
           clear Q4
           have Q4 := Q4'
           clear Q4'
           have Y0' := Lib.hid (Y0.out.step b7)
           clear Y0
           have Y0 := Y0'
           clear Y0'
           have Q6' := Lib.hid (Q6.out.step b7)
           clear Q6
           have Q6 := Q6'
           clear Q6'
           have T7 := step T6 b7
           have Z7 := b7.size))
    go_wp2
    go_ret
    exact ⟨rfl, by first | exact T7 | exact T7.drew⟩

set_option maxRecDepth 100000 in
theorem lifted (os : Os) (started : os.Started) (H : Type) (enc : TypeId × Value → H) :
    ReturnsInHanded {} Try.checked os 4 .any (Rows.fnExactValueOfSpec.pre6 enc Try.prog Try.f4 Rows.fnExactValueOfRow.domain false) (Rows.fnExactValueOfSpec.post enc Try.prog Try.f4 false true false false) := by
  refine returnsInHanded_of_change (C := Try.checked) own started (by kernel_rfl) Try.func4
    (ChangeSpec.witness6 (enc := enc) (C := Try.checked) false ⟨#[], #[.agg #[.slice none 0 0, .slice none 0 0], .int .i64 0], []⟩ 8 (by kernel_rfl) (by kernel_rfl) (by kernel_rfl) (by kernel_rfl)) ?_
  intro W base args ds gs before hval0 hW hcnd _
  have hval : ∀ (j : Nat) t v, Try.f4.params[j]? = some t → args[j]? = some v → Value.okWide Try.prog W .any base t v := hval0
  have hpost := fun (W' : World) (hfn : Rows.fnExactValueOfSpec.fn H (ds ++ gs) = { results := [.lit (.bool true)], args := ds }) (hb : Below W.heap.size W W') => law_post (enc := enc) laidOut (f := Try.f4) (s := Rows.fnExactValueOfSpec) (args := args) rfl rfl Try.underlying4 (by intro t ht; rw [Try.params4] at ht; simp at ht; rcases ht with rfl | rfl <;> exact ⟨by kernel_rfl, of_decide_eq_true (by kernel_rfl)⟩) hW hfn hb
  obtain ⟨p, q, hA0, hV, rfl, hfz, hnd⟩ := hW
  have hA : DataW.TrodAll enc Try.prog W 0 (fun _ => true) true Try.f4.params.toList args.toList ds p := hA0
  rw [Try.params4] at hA hval
  obtain ⟨v0, vs0, d0, ds0, p0, q0, hargs, rfl, rfl, h0, r0⟩ := trodAll_cons hA
  obtain ⟨v1, vs1, d1, ds1, p1, q1, rfl, rfl, rfl, h1, r1⟩ := trodAll_cons r0
  obtain ⟨rfl, rfl, rfl⟩ := trodAll_nil r1
  obtain rfl : args = #[v0, v1] := by cases args; simp_all
  obtain ⟨rfl, rfl⟩ := trodVars_none hV
  obtain ⟨H0, A0, x0, c0, s0, l0, rfl, y0, z0, k0, m0, w0⟩ := open_bindingT (hval 0 39 v0 rfl rfl) h0
  obtain ⟨a1, rfl, rfl, rfl, w1⟩ := open_int Try.underlying3 (hval 1 3 v1 rfl rfl) h1
  refine (walk W H0 A0 x0 c0 s0 l0 y0 z0 k0 m0 w0 a1 w1).mono fun e W' ⟨he, hg⟩ => ?_
  subst he
  exact ⟨_, rfl, hpost W' rfl hg⟩

theorem over : Rows.fnExactValueOfRow.holds Try.pinned (OpenSpec.ofChange Rows.fnExactValueOfSpec) :=
  OpenClaim.holds_of_wide 4 Try.f4 rfl rfl rfl rfl rfl rfl rfl ⟨rfl, rfl, rfl, rfl, rfl⟩ rfl rfl rfl rfl rfl (by kernel_rfl) Try.func4 (by kernel_rfl)
    (of_decide_eq_true (by kernel_rfl)) (by unfold Func.isWrapper; first | (rw [if_pos (by decide +kernel)]; kernel_rfl) | (rw [if_neg (by decide +kernel)]; exact ⟨rfl, rfl⟩))
    (fun os started H enc _ => lifted os started H enc)
end Go.Proofs.Ytdakfcgjnmmdgaa.fnExactValueOf
namespace Go.Proofs.Ytdakfcgjnmmdgaa
theorem fnExactValueOf_holds : Rows.FnExactValueOfSaid := fnExactValueOf.over
#print axioms fnExactValueOf_holds
end Go.Proofs.Ytdakfcgjnmmdgaa
