/- What the model's l4Tuples answers. Conditions: none beyond each theorem's own. What the model's AnswersOf answers. Conditions: none beyond each theorem's own. What the program does with each matching that it finds: its head goes into a set. Conditions: none beyond each theorem's own. What sortAnswers answers. Conditions: none beyond each theorem's own. -/
import Derived.Test.YtighalbnpgmdfaaGreatAg4
import Derived.Test.YtighalbnpgmdfaaGreatAg10
import Derived.Test.YtighalbnpgmdfaaGreatAg11
import Derived.Deep.RegionLaw
import Derived.Test.YtighalbnpgmdfaaGreatAg5
import Derived.Maps.RangeWalk
import Derived.Test.YtighalbnpgmdfaaGreatTs5

namespace Go.Proofs.YtighalbnpgmdfaaGreat
open Go.ChangeShapes Go.WideShapes Go.ChangeAt Go.RowKit Go.Sort
set_option linter.unusedVariables false
set_option linter.unusedSimpArgs false

theorem step_callB2 {P : Program} {ops : Array Oper} {o : Oper} {a : Act} {w : World} {K : Act → World → Prop} {Q : Exit → Act → World → Prop} {E : Prop}
    (hgd : o.guard = none) (g : FuncId) (x y : Operand) (t t' : TypeId) (ho : o.op = .call { callee := .value (.func g), args := #[x, y], argTypes := #[t, t'] })
    (vx vy v : Value) (hx : a.eval x = vx) (hy : a.eval y = vy) (hcf : (callFunc g #[vx, vy]).run P w = .ok (.enter g #[vx, vy]) w) (hc : Calls P g #[vx, vy] w fun e w' => e = .returned v ∧ Below w.heap.size w w') (hK : ∀ w', Below w.heap.size w w' → K (a.put o.dst v) w') :
    if Region.wanted o (yielded ops a.tmps) = true then Oper.wp P o a w K Q else E := by
  have hw : Region.wanted o (yielded ops a.tmps) = true := by simp [Region.wanted, hgd]
  rw [if_pos hw]
  unfold Oper.wp
  have hf : a.eval (.func g) = Value.func (.func g) #[] #[] := rfl
  have e : (execOp a.eval o).run P w = .ok (.enter g #[vx, vy]) w := by
    rw [← hx, ← hy] at hcf ⊢
    simpa [go_sem, execOp, ho, resolve, invoke] using hcf
  rw [e, Oper.upon_enter]
  refine hc.mono ?_
  rintro _ w' ⟨rfl, d⟩
  exact hK w' d

/-- What a list of lists that can be read is. -/
def TOut (w : World) (ts : TL) (e : Ending) (w' : World) : Prop := ∃ A c, e = .returned (.slice A ts.length c) ∧ RT w' A ts ∧ Below w.heap.size w w'

set_option maxRecDepth 100000 in
set_option maxHeartbeats 4000000 in
theorem l4Tuples_any (H Q : Option Addr) (ch c : Nat) (hs : List Int) (ats : FL) (B : Option Addr) (cb : Nat) (ps : List PL) (lo : Nat)
    (hh : hs.length ≤ 3) (hpl : ps.length ≤ 1073741824) (hb1 : ∀ p ∈ ps, p.1.length ≤ 1048576 ∧ p.2.length ≤ 1048576) (hsm : ∀ k, szT (tupA hs (ps.take k)) ≤ 4000)
    (w : World) (hH : RI w H hs) (hB : BC w lo (.slice B ps.length cb) ps) :
    Calls Tryz.prog 29 #[.agg #[.slice H hs.length ch, .slice Q ats.length c], .slice B ps.length cb] w (TOut w (tupA hs ps)) := by
  obtain ⟨i0, hi, hz0, hz1, hz2⟩ := info_parts int_info
  have hh' : (hs.length : Int) ≤ 3 := by omega
  have hpl' : (ps.length : Int) ≤ 1073741824 := by omega
  have B0 := Lib.hid (step (below_alloc w (.cells #[.slice H hs.length ch, .slice Q ats.length c] 34)) (below_alloc _ (.cells #[] 22)))
  have X0 := Lib.hid ((Box.new w #[.slice H hs.length ch, .slice Q ats.length c] 34).step (below_alloc _ (.cells #[] 22)))
  have HH := Lib.hid hH
  have HB := Lib.hid hB
  have HPM := Lib.hid hb1
  have HSM := Lib.hid hsm
  clear hH hB hb1 hsm
  go_enter Tryz.func29, Tryz.ntmps29
  go_wp2
  go_loopw [5, 6, 7, 8] (fun o i _ _ wr => ∃ (n : Nat) (A : Option Addr) (ca : Nat) (out : TL), n ≤ ps.length ∧ i = .int .i64 n ∧ o = .slice A out.length ca ∧ Hid (out = tupA hs (ps.take n)) ∧ Hid (RT wr A out) ∧ Hid (Box wr w.heap.size #[.slice H hs.length ch, .slice Q ats.length c] 34) ∧ Hid (Below w.heap.size w wr)) (fun _ i _ _ _ => ps.length - (intOf i).toNat)
  case atStart => exact ⟨0, _, 0, [], by omega, rfl, rfl, Lib.hid rfl, Lib.hid (fun h => absurd rfl h), X0, B0⟩
  case round =>
    clear X0 B0
    obtain ⟨n, A, ca, out, hn, rfl, rfl, hO, hR, hX, hb⟩ := hrel
    have hn0 : (0 : Int) ≤ (n : Int) := by omega
    by_cases hlt : n < ps.length
    · have hn1 : (n : Int) < (ps.length : Int) := by omega
      generalize hp0 : ps.getD n noP = p
      obtain ⟨us, bs⟩ := p
      have HP := Lib.hid hp0
      have TK := Lib.hid (tupA_take hs ps hlt hp0)
      have hpm : us.length ≤ 1048576 ∧ bs.length ≤ 1048576 := by
        have := HPM.out (us, bs) (by rw [← hp0, List.getD_eq_getElem?_getD, List.getElem?_eq_getElem hlt]; exact List.getElem_mem _)
        exact this
      obtain ⟨hpm1, hpm2⟩ := hpm
      generalize wr = wo at *
      have bn := below_alloc wo (.cells #[] 3)
      have X1 := Lib.hid (hX.out.step bn)
      have B1 := Lib.hid bn
      have O1 := Lib.hid (World.ownsRow_lit (base := wo.heap.size) (e := 3) (size := 1) wo #[] 0 (Nat.le_refl _) (by unfold maxLen; omega) rfl)
      clear hp0 bn
      go_wp2
      go_loopw [7, 8] (fun t i wx => ∃ (j : Nat) (A2 : Option Addr) (c2 : Nat), j ≤ hs.length ∧ i = .int .i64 j ∧ t = .slice A2 j c2 ∧ Hid (wx.ownsRow wo.heap.size 3 1 (.slice A2 j c2) j (((headT hs (us, bs)).take j).map (Value.int .i64))) ∧ Hid (Box wx w.heap.size #[.slice H hs.length ch, .slice Q ats.length c] 34) ∧ Hid (Below wo.heap.size wo wx)) (fun _ i _ => hs.length - (intOf i).toNat)
      case atStart => exact ⟨0, _, 0, by omega, rfl, rfl, Lib.hid (by simpa using O1.out), X1, B1⟩
      case round =>
        clear X1 B1 O1
        obtain ⟨j, A2, c2, hj, rfl, rfl, hown, hX2, hb2⟩ := hrel
        have x0 := hX2.out.cell 0
        simp only [List.getElem?_toArray, List.getElem?_cons_zero, List.getElem?_cons_succ] at x0
        by_cases hlt2 : j < hs.length
        · have hj0 : (0 : Int) ≤ (j : Int) := by omega
          have hj1 : (j : Int) < (hs.length : Int) := by omega
          have hbw := step hb.out hb2.out
          obtain ⟨gB, X1, c1, Y1, d1, rfl, ngB, b0, b1', rw1, rw2⟩ := (HB.out.step hbw).at_ hlt HP.out
          obtain ⟨bH, oH, rfl, nbH, h0⟩ := (HH.out.step hbw).at_ hlt2
          generalize hx : hs.getD j 0 = x at h0
          have TJ := Lib.hid (show (headT hs (us, bs)).take (j + 1) = (headT hs (us, bs)).take j ++ [bval us bs x] by
            have e : hs[j] = x := by rw [← hx]; simp [List.getD_eq_getElem?_getD, hlt2]
            have hl : j < (headT hs (us, bs)).length := by simpa [headT] using hlt2
            rw [List.take_succ_eq_append_getElem hl]
            congr 1
            simp [headT, e])
          have XV := Lib.hid (fun (W : World) (hW : Below wr.heap.size wr W) => spec_ValueOf X1 Y1 c1 d1 us bs x hpm1 hpm2 W (rw1.ri.step hW) (rw2.ri.step hW))
          generalize bval us bs x = y at TJ XV
          have hsz : wo.heap.size ≤ wr.heap.size := hb2.out.size
          clear hx rw1 rw2 hbw
          go_wp2
          go_region_law (first
            | (refine step_callB2 rfl 57 _ _ _ _ rfl (.agg #[.slice X1 us.length c1, .slice Y1 bs.length d1]) (.int .i64 x) _ rfl rfl (by kernel_rfl) (by first | exact XV.out _ (Below.refl _ _) | exact XV.out _ (below_drew _)) ?_
               intro u5 d5
               have b5 : Below wr.heap.size wr u5 := by first | exact d5 | exact und d5 | exact undN d5
               have z5 := b5.size
               have HO5 := Lib.hid (ownsRow_step hown.out b5)
               have hb5 : Below wo.heap.size wr u5 := b5.mono hsz
               have hz5 : wo.heap.size ≤ u5.heap.size := by omega
               clear d5)
            | (refine step_pushR rfl _ _ _ 3 rfl i0 Tryz.underlying22 hi (.int .i64 0) 8 hz0 hz1 hz2 rfl (by omega) wo.heap.size j _ (((headT hs (us, bs)).take j).map (Value.int .i64)) _ 1 (.int .i64 y) rfl rfl rfl (by first | exact HO5.out.alloc _ | exact (HO5.out.alloc _).drew | exact HO5.out.drew.alloc _) (by first | exact hb5.alloc hz5 _ | exact (hb5.alloc hz5 _).drew | exact hb5.drew.alloc hz5 _) (by (try simp) <;> omega) (by omega) (by simp [Addr.add]) ?_
               intro v6 u6 hown6 hb6 hz6
               obtain ⟨A6, c6, rfl⟩ := ownsRow_form hown6
               have HO6 := Lib.hid hown6
               have H6 := Lib.hid hb6
               clear hown6 hb6 hz6))
          all_goals
            go_wp2
            go_roundw
            case rel =>
              refine ⟨j + 1, A6, c6, by omega, by go_num, rfl, Lib.hid ?_, Lib.hid ?_, Lib.hid (hb2.out.trans H6.out)⟩
              · rw [TJ.out, List.map_append]
                exact HO6.out
              · exact (H6.out.block _ (by have := hX.out.lt; omega)).trans hX2.out
            case measure => simp [intOf]; omega
        · obtain rfl : j = hs.length := by omega
          have eh : (headT hs (us, bs)).length = hs.length := by simp [headT]
          have hown2 := hown.out
          rw [← eh, List.take_length] at hown2
          have hRI := ri_of_row (xs := headT hs (us, bs)) hown2
          have hs1 := HSM.out n
          rw [← hO.out] at hs1
          have XA0 := spec_AddTuple A ca out (headT hs (us, bs)) A2 c2 (by omega) (by omega) wr (hR.out.step hb2.out) hRI
          rw [eh] at XA0
          have XA := Lib.hid XA0
          clear eh hown2 hRI XA0 hs1
          go_wp2_with fail
          refine XA.out.mono ?_
          rintro e u ⟨A5, c5, cs5, bs5, rfl, ho5, d5⟩
          have R5 := Lib.hid ho5.rt
          have D5 := Lib.hid (step hb.out (step hb2.out d5))
          have X5 := Lib.hid (hX2.out.step d5)
          have O5 := Lib.hid (show addT out (headT hs (us, bs)) = tupA hs (ps.take (n + 1)) by rw [TK.out, hO.out])
          clear ho5 d5
          go_wp2
          go_roundw
          case rel => exact ⟨n + 1, A5, c5, _, by omega, by go_num, rfl, O5, R5, X5, D5⟩
          case measure => simp [intOf]; omega
    · obtain rfl : n = ps.length := by omega
      have OO := Lib.hid (show out = tupA hs ps by rw [hO.out, List.take_length])
      go_wp2
      go_ret
      rw [← OO.out]
      exact ⟨A, ca, rfl, hR.out, hb.out⟩
end Go.Proofs.YtighalbnpgmdfaaGreat

namespace Go.Proofs.YtighalbnpgmdfaaGreat
open Go.ChangeShapes Go.WideShapes Go.ChangeAt Go.RowKit Go.Sort
set_option linter.unusedVariables false
set_option linter.unusedSimpArgs false

theorem step_callP2 {P : Program} {ops : Array Oper} {o : Oper} {a : Act} {w : World} {K : Act → World → Prop} {Q : Exit → Act → World → Prop} {E : Prop}
    (hgd : o.guard = none) (g : FuncId) (x y : Operand) (t t' : TypeId) (ho : o.op = .call { callee := .value (.func g), args := #[x, y], argTypes := #[t, t'] })
    (vx vy : Value) (hx : a.eval x = vx) (hy : a.eval y = vy) (hcf : (callFunc g #[vx, vy]).run P w = .ok (.enter g #[vx, vy]) w) {R : Value → World → Prop} (hc : Calls P g #[vx, vy] w fun e w' => ∃ v, e = .returned v ∧ R v w') (hK : ∀ v w', R v w' → K (a.put o.dst v) w') :
    if Region.wanted o (yielded ops a.tmps) = true then Oper.wp P o a w K Q else E := by
  have hw : Region.wanted o (yielded ops a.tmps) = true := by simp [Region.wanted, hgd]
  rw [if_pos hw]
  unfold Oper.wp
  have hf : a.eval (.func g) = Value.func (.func g) #[] #[] := rfl
  have e : (execOp a.eval o).run P w = .ok (.enter g #[vx, vy]) w := by
    rw [← hx, ← hy] at hcf ⊢
    simpa [go_sem, execOp, ho, resolve, invoke] using hcf
  rw [e, Oper.upon_enter]
  refine hc.mono ?_
  rintro _ w' ⟨v, rfl, d⟩
  exact hK v w' d

/-- The answers of a query. -/
def ansT (s hs : List Int) (ats fs : FL) : TL := if queryB s hs ats = true ∧ areB s fs = true then tupA hs (bnds fs ats) else []
theorem ansT_no {s hs : List Int} {ats fs : FL} (h : ¬ (queryB s hs ats = true ∧ areB s fs = true)) : ansT s hs ats fs = [] := if_neg h
theorem bnds_mem_take {fs ats : FL} {k : Nat} {p : PL} (h : p ∈ (bnds fs ats).take k) : p ∈ bnds fs ats := List.mem_of_mem_take h

set_option maxRecDepth 100000 in
set_option maxHeartbeats 4000000 in
theorem spec_AnswersOf (S H Q F : Option Addr) (cs ch c cf : Nat) (s hs : List Int) (ats fs : FL) (hls : s.length ≤ 1048576) (hh : hs.length ≤ 1048577) (hz : szF ats ≤ 1048576) (hzf : szF fs ≤ 1048576)
    (w : World) (hS : RI w S s) (hH : RI w H hs) (hQ : RF w Q ats) (hF : RF w F fs) :
    Calls Tryz.prog 7 #[.slice S s.length cs, .agg #[.slice H hs.length ch, .slice Q ats.length c], .slice F fs.length cf] w (TOut w (ansT s hs ats fs)) := by
  have b0 := below_alloc w (.cells #[.slice H hs.length ch, .slice Q ats.length c] 34)
  have B0 := Lib.hid b0
  have X0 := Lib.hid (Box.new w #[.slice H hs.length ch, .slice Q ats.length c] 34)
  obtain ⟨W0, hW0⟩ : ∃ W0, W0 = w.alloc (.cells #[.slice H hs.length ch, .slice Q ats.length c] 34) := ⟨_, rfl⟩
  rw [← hW0] at b0 B0 X0
  have EW := Lib.hid hW0
  have hss := hS.step b0
  have hhh := hH.step b0
  have hqq := hQ.step b0
  have hff := hF.step b0
  have XQ := Lib.hid (spec_IsQuery S H Q cs ch c s hs ats hls hh hz W0 hss hhh hqq)
  have XF := Lib.hid fun (W : World) (hW : Below W0.heap.size W0 W) => spec_AreFacts S cs s F cf fs hls hzf W (hss.step hW) (hff.step hW)
  have g0 := X0.out.cell 0
  have g1 := X0.out.cell 1
  simp only [List.getElem?_toArray, List.getElem?_cons_zero, List.getElem?_cons_succ] at g0 g1
  clear hW0
  by_cases c1 : queryB s hs ats = true
  · have C1 := Lib.hid c1
    by_cases c2 : areB s fs = true
    · have C2 := Lib.hid c2
      have QO := Lib.hid (QOk.of c1)
      have FO := Lib.hid (areB_few c2)
      have E := Lib.hid (show ansT s hs ats fs = tupA hs (bnds fs ats) from if_pos ⟨c1, c2⟩)
      have BO := Lib.hid fun (p : PL) (hp : p ∈ bnds fs ats) => bnds_ok QO.out (fun f hf => (FO.out.2 f hf).1) hp
      have BF := Lib.hid (bnds_few fs ats FO.out.1 QO.out.few.2)
      have LB := Lib.hid (show ∀ p ∈ bnds fs ats, p.1.length ≤ 1048576 ∧ p.2.length ≤ 1048576 from fun p hp => by
        have h := bndsF_elem fs 3 ats QO.out.short [noP] 0 (fun p hp => by
          have : p = noP := by simpa using hp
          subst this
          exact ⟨rfl, Nat.le_refl _⟩) p hp
        have := QO.out.few.2
        omega)
      have SM := Lib.hid (show ∀ k, szT (tupA hs ((bnds fs ats).take k)) ≤ 4000 from fun k => (tupA_small QO.out.head fun p hp => BO.out p (List.mem_of_mem_take hp)).2.1)
      have XB := Lib.hid fun (W : World) (hW : Below W0.heap.size W0 W) => spec_BindingsOf H Q ch c hs ats F cf fs QO.out.few.2 (fun a ha => by have := QO.out.short a ha; omega) FO.out.1 hzf W (hqq.step hW) (hff.step hW)
      have XT := Lib.hid fun (B : Option Addr) (cb lo : Nat) (W : World) (hW : Below W0.heap.size W0 W) (hB : BC W lo (.slice B (bnds fs ats).length cb) (bnds fs ats)) => l4Tuples_any H Q ch c hs ats B cb (bnds fs ats) lo QO.out.head (by have := BF.out; omega) LB.out SM.out W (hhh.step hW) hB
      rw [E.out]
      clear c1 c2 hss hhh hqq hff b0 hS hH hQ hF
      generalize bnds fs ats = ps at XB XT ⊢
      go_enter Tryz.func7, Tryz.ntmps7
      go_wp2_with fail
      rw [← EW.out]
      refine XQ.out.mono ?_
      rintro e u1 ⟨he, d1⟩
      rw [C1.out] at he
      subst he
      have D1 := Lib.hid d1
      clear d1
      go_wp2_with fail
      refine (XF.out _ D1.out).mono ?_
      rintro e u2 ⟨he, d2⟩
      rw [C2.out] at he
      subst he
      have D2 := Lib.hid (step D1.out d2)
      have g0' := (X0.out.step D2.out).cell 0
      have g1' := (X0.out.step D2.out).cell 1
      simp only [List.getElem?_toArray, List.getElem?_cons_zero, List.getElem?_cons_succ] at g0' g1'
      clear d2 g0 g1
      go_wp2
      go_region_law (first
        | (refine step_callP2 rfl 30 _ _ _ _ rfl (.agg #[.slice H hs.length ch, .slice Q ats.length c]) (.slice F fs.length cf) rfl rfl (by kernel_rfl) (R := fun v w' => ∃ A c, v = .slice A ps.length c ∧ BC w' u2.heap.size (.slice A ps.length c) ps ∧ Below u2.heap.size u2 w') (by
             refine (XB.out _ (by first | exact step D2.out (below_drew _) | exact D2.out)).mono ?_
             rintro e w' ⟨A, c, rfl, h1, h2⟩
             exact ⟨_, rfl, A, c, rfl, h1, by first | exact h2 | exact und h2⟩) ?_
           rintro v3 u3 ⟨A3, c3, rfl, hb3, d3⟩
           have C3 := Lib.hid hb3
           have D3 := Lib.hid d3
           have y0 := ((X0.out.step D2.out).step d3).cell 0
           have y1 := ((X0.out.step D2.out).step d3).cell 1
           simp only [List.getElem?_toArray, List.getElem?_cons_zero, List.getElem?_cons_succ] at y0 y1
           clear hb3 d3)
        | (refine step_callP2 rfl 29 _ _ _ _ rfl (.agg #[.slice H hs.length ch, .slice Q ats.length c]) (.slice A3 ps.length c3) rfl rfl (by kernel_rfl) (R := fun v w' => ∃ A c, v = .slice A (tupA hs ps).length c ∧ RT w' A (tupA hs ps) ∧ Below u3.heap.size u3 w') (by
             refine (XT.out A3 c3 _ u3 (step D2.out D3.out) C3.out).mono ?_
             rintro e w' ⟨A, c, rfl, h1, h2⟩
             exact ⟨_, rfl, A, c, rfl, h1, h2⟩) ?_
           rintro v4 u4 ⟨A4, c4, rfl, hb4, d4⟩
           have R4 := Lib.hid hb4
           have D4 := Lib.hid (step D2.out (step D3.out d4))
           clear hb4 d4))
      all_goals
        go_wp2
        go_ret
        exact ⟨A4, c4, rfl, R4.out, step B0.out D4.out⟩
    · have C2 := Lib.hid (show areB s fs = false by simpa using c2)
      have E := Lib.hid (ansT_no (s := s) (hs := hs) (ats := ats) (fs := fs) (fun h => c2 h.2))
      rw [E.out]
      clear c1 c2 hss hhh hqq hff b0 hS hH hQ hF
      go_enter Tryz.func7, Tryz.ntmps7
      go_wp2_with fail
      rw [← EW.out]
      refine XQ.out.mono ?_
      rintro e u1 ⟨he, d1⟩
      rw [C1.out] at he
      subst he
      have D1 := Lib.hid d1
      clear d1
      go_wp2_with fail
      refine (XF.out _ D1.out).mono ?_
      rintro e u2 ⟨he, d2⟩
      rw [C2.out] at he
      subst he
      have D2 := Lib.hid (step D1.out d2)
      clear d2 g0 g1
      go_wp2
      go_ret
      exact ⟨_, 0, rfl, fun h => absurd rfl h, step (step B0.out D2.out) (below_alloc _ _)⟩
  · have C1 := Lib.hid (show queryB s hs ats = false by simpa using c1)
    have E := Lib.hid (ansT_no (s := s) (hs := hs) (ats := ats) (fs := fs) (fun h => c1 h.1))
    rw [E.out]
    clear c1 hss hhh hqq hff b0 hS hH hQ hF
    go_enter Tryz.func7, Tryz.ntmps7
    go_wp2_with fail
    rw [← EW.out]
    refine XQ.out.mono ?_
    rintro e u1 ⟨he, d1⟩
    rw [C1.out] at he
    subst he
    have D1 := Lib.hid d1
    clear d1 g0 g1
    go_wp2
    go_ret
    exact ⟨_, 0, rfl, fun h => absurd rfl h, step (step B0.out D1.out) (below_alloc _ _)⟩
end Go.Proofs.YtighalbnpgmdfaaGreat

namespace Go.Proofs.YtighalbnpgmdfaaGreat
open Go.ChangeShapes Go.WideShapes Go.ChangeAt Go.RowKit Go.Sort
open Go.Maps (Keyed int_keyed keyOf_int_mk)
set_option linter.unusedVariables false
set_option linter.unusedSimpArgs false

/-- The map's keys are those of the lists done. -/
def AK (D : DataW Unit) (done : TL) : Prop := Maps.IsMap D ∧ ∀ kl, Maps.has D kl = true ↔ ∃ l ∈ done, ky l = kl
set_option maxRecDepth 100000 in
theorem AK.start : AK (.map []) [] := ⟨Maps.isMap_empty, fun kl => ⟨fun h => by simp [Maps.has] at h, fun h => by obtain ⟨l, hl, _⟩ := h; simp at hl⟩⟩
set_option maxRecDepth 100000 in
theorem AK.put {D : DataW Unit} {done : TL} (h : AK D done) {l : List Int} (hl : allB 0 9 l = true) (v : DataW Unit) : AK (D.put (ky l) v) (done ++ [l]) := by
  refine ⟨h.1.put _ _, fun kl => ?_⟩
  by_cases e : kl = ky l
  · subst e
    rw [Maps.has_put_same h.1 (lawK.key (ky_of hl))]
    exact ⟨fun _ => ⟨l, by simp, rfl⟩, fun _ => rfl⟩
  · rw [Maps.has_put_other e, h.2]
    constructor
    · rintro ⟨x, hx, rfl⟩
      exact ⟨x, by simp [hx], rfl⟩
    · rintro ⟨x, hx, rfl⟩
      rcases List.mem_append.1 hx with h1 | h1
      · exact ⟨x, h1, rfl⟩
      · have : x = l := by simpa using h1
        subst this
        exact absurd rfl e
/-- The answers found so far: a map at block mb. -/
def AM (w : World) (mb : Nat) (done : TL) : Prop := ∃ n D, w.ownsMap Tryz.prog 68 (plainElem Tryz.prog 4) mb n D ∧ n ≤ done.length ∧ AK D done
theorem AM.keep {w w' : World} {mb : Nat} {done : TL} (h : AM w mb done) (e : w'.heap[mb]? = w.heap[mb]?) : AM w' mb done := by
  obtain ⟨n, D, ⟨es, ck, h1, r⟩, h2, h3⟩ := h
  exact ⟨n, D, ⟨es, ck, e.trans h1, r⟩, h2, h3⟩
theorem AM.block {w : World} {mb : Nat} {done : TL} (h : AM w mb done) : ∃ es ck, w.heap[mb]? = some (.map es ck) := by
  obtain ⟨n, D, ⟨es, ck, h1, r⟩, h2, h3⟩ := h
  exact ⟨es, ck, h1⟩

end Go.Proofs.YtighalbnpgmdfaaGreat

namespace Go.Proofs.YtighalbnpgmdfaaGreat
open Go.ChangeShapes Go.WideShapes Go.ChangeAt Go.RowKit Go.Sort
open Go.Maps (Keyed int_keyed keyOf_int_mk)
set_option linter.unusedVariables false
set_option linter.unusedSimpArgs false

theorem plainBool_inv {v : Value} {y : DataW Unit × List MemPlace} (h : plainElem Tryz.prog 4 v = some y) : ∃ c : Bool, v = .bool c := by
  have he := Tryz.underlying4
  unfold plainElem at h
  simp only [he] at h
  cases v
  all_goals try (simp at h; done)
  exact ⟨_, rfl⟩
def mkA (x : Int × Int × Int) : Value := .agg #[.int .i64 x.1, .int .i64 x.2.1, .int .i64 x.2.2]
theorem keyA (key : Value) (kl : Lit) (h : keyOf Tryz.prog 68 key = some kl) : ∃ x, key = mkA x := by
  obtain ⟨a, b, c, e, _⟩ := keyOf_inv h
  exact ⟨(a, b, c), e⟩
/-- What the round's key says. -/
theorem key_is {l : List Int} {x : Int × Int × Int} {kl : Lit} (h : keyOf Tryz.prog 68 (mkA x) = some kl) (hl : allB 0 9 l = true) (e : ky l = kl) : hd3 l = #[.int .i64 x.1, .int .i64 x.2.1, .int .i64 x.2.2] := by
  have h2 := lawK.inj (ky_of hl) (by rw [e]; exact h)
  unfold mkA at h2
  injection h2
theorem hd3_ri {w : World} {l : List Int} (g : Nat) (hl : l.length ≤ 3) (hb : Box w g (hd3 l) 68) : RI w (some ⟨g, 0, none⟩) l := fun _ => by
  refine ⟨g, 0, rfl, Nat.zero_le _, hb.lt, fun k hk => ?_⟩
  show w.cell? ⟨g, 0 + k, none⟩ = _
  rw [Nat.zero_add, hb.cell k]
  obtain rfl | rfl | rfl : k = 0 ∨ k = 1 ∨ k = 2 := by omega
  all_goals rfl
theorem clone_n {A : Option Addr} {n c : Nat} {xs : List Int} (hn : xs.length = n) (h3 : n ≤ 3) (w : World) (h : RI w A xs) : Calls Tryz.prog 71 #[.slice A n c] w (CopyI w xs) := by
  subst hn
  exact clone_any A c xs (by omega) w h

/-- Which keys have come. -/
structure Come (D : DataW Unit) (tl : TL) (left : Lit → Bool) (dl : TL) : Prop where
  nd : dl.Nodup
  sub : ∀ l ∈ dl, l ∈ tl
  got : ∀ l ∈ tl, left (ky l) = false ↔ l ∈ dl
  is : ∀ kl, left kl = true → ∃ l ∈ tl, ky l = kl
set_option maxRecDepth 100000 in
theorem Come.start {D : DataW Unit} {tl : TL} (h : AK D tl) : Come D tl (Maps.has D) [] :=
  ⟨List.nodup_nil, fun l hl => absurd hl List.not_mem_nil, fun l hl => ⟨fun e => absurd (e.symm.trans ((h.2 _).2 ⟨l, hl, rfl⟩)) (by decide), fun e => absurd e List.not_mem_nil⟩, fun kl e => (h.2 kl).1 e⟩
set_option maxRecDepth 100000 in
theorem Come.step {D : DataW Unit} {tl dl : TL} {n : Nat} (hn : n ≤ 3) (hl : ∀ t ∈ tl, t.length = n ∧ allB 0 9 t = true) {left : Lit → Bool} (h : Come D tl left dl) {l : List Int} (hm : l ∈ tl) (hk : left (ky l) = true) : Come D tl (fun z => left z && !z.sameKey (ky l)) (dl ++ [l]) := by
  have key := lawK.key (ky_of (hl l hm).2)
  have hnl : l ∉ dl := fun e => by
    rw [(h.got l hm).2 e] at hk
    cases hk
  refine ⟨?_, fun x hx => ?_, fun x hx => ?_, fun kl e => ?_⟩
  · rw [List.nodup_append]
    refine ⟨h.nd, by simp, fun a ha b hb => ?_⟩
    have : b = l := by simpa using hb
    subst this
    exact fun e => hnl (e ▸ ha)
  · rcases List.mem_append.1 hx with h1 | h1
    · exact h.sub x h1
    · have : x = l := by simpa using h1
      exact this ▸ hm
  · by_cases e : x = l
    · subst e
      simp [WideAt.sameKey_self key]
    · have e2 : ky x ≠ ky l := fun k => e (ky_inj (hl x hx).1 (hl l hm).1 hn (hl x hx).2 (hl l hm).2 k)
      show (left (ky x) && !(ky x).sameKey (ky l)) = false ↔ _
      rw [Maps.sameKey_ne e2]
      simp only [Bool.not_false, Bool.and_true, List.mem_append, List.mem_singleton]
      rw [h.got x hx]
      exact ⟨fun a => .inl a, fun a => a.elim id fun b => absurd b e⟩
  · have e' : (left kl && !kl.sameKey (ky l)) = true := e
    rw [Bool.and_eq_true] at e'
    exact h.is kl e'.1
theorem Come.done {D : DataW Unit} {tl dl : TL} {left : Lit → Bool} (h : Come D tl left dl) (hz : ∀ kl, left kl = false) (x : List Int) : x ∈ dl ↔ x ∈ tl :=
  ⟨h.sub x, fun hx => (h.got x hx).1 (hz _)⟩

/-- append(v, y) of one list, in a new block. -/
theorem wpList_pushT {P : Program} {W : World} {ops : Array Oper} {rest : List Oper} {o : Oper} {a : Act} {Q : Exit → Act → World → Prop} (hgd : o.guard = none) (s x : Operand) (t : TypeId)
    (ho : o.op = .call { callee := .builtin .append, args := #[s, x], argTypes := #[t, t] })
    (i : TypeInfo) (ht : P.underlying t = some (.slice 22)) (hi : P.info? 22 = some i) (hz : i.zero = some (.slice none 0 0)) (hz1 : i.size = 1) (hz2 : i.bytes = 24)
    {lo mid : Nat} {v y : Value} {ts : TL} {xs : List Int} {cs : List Value} {bs : Nat → Nat} {q : Nat} (hs : a.eval s = v) (hx : a.eval x = .slice (some ⟨W.heap.size, 0, none⟩) 1 1)
    (hown : OwnCT W lo mid v ts cs bs) (hE : OwnV W mid W.heap.size y q xs) (h1 : lo ≤ mid) (h2 : mid ≤ W.heap.size) (hn : ts.length + 1 ≤ 1099511627776)
    (h : ∀ v' w' cs' bs', OwnCT w' lo w'.heap.size v' (ts ++ [xs]) cs' bs' → W.grownBy w' v.ownBlock → wpList P ops Q rest (a.put o.dst v') w') :
    wpList P ops Q (o :: rest) a (W.alloc (.cells #[y] 22)) := by
  obtain ⟨A, c, rfl, _⟩ := id hE
  refine wpList_append_own (P := P) _ hgd s x t ho lo 22 i _ 1 24 ht hi hz hz1 hz2 rfl (by omega) v ts.length cs hs (hown.1.alloc _) ⟨W.heap.size, 0, none⟩ 1 1 [.slice A xs.length c] hx rfl
    (World.news_of_block (cs := #[.slice A xs.length c]) (t := 22) (fr := (0, 0)) (heap_alloc_new W _)) (by simp [Value.oneCell'])
    (by unfold maxLen; omega) (by omega) (by simp; omega) ?_
  intro v' w' hown' hg _
  have hg2 : W.grownBy w' v.ownBlock := (World.grownBy_alloc W _ _).trans hg
  obtain ⟨bs2, hR⟩ := ownT_append hown hE h1 h2 hown' hg2
  exact h v' w' _ bs2 hR hg2

set_option maxRecDepth 100000 in
theorem rowT_info : (Tryz.prog.info? 22).map (fun i => (i.zero, i.size, i.bytes)) = some (some (.slice none 0 0), 1, 24) := by kernel_rfl

theorem OwnCT.turned {w w' : World} {lo hi r : Nat} {v : Value} {ts : TL} {cs : List Value} {bs : Nat → Nat} (h : OwnCT w lo hi v ts cs bs) (hhi : hi ≤ w.heap.size) (hg : w.grownBy w' (some r)) (hr : r < lo) : OwnCT w' lo hi v ts cs bs := by
  refine ⟨h.1.kept hg ?_, h.2.keep fun q h1 h2 _ => hg.block q (by omega) fun e => by injection e; omega⟩
  cases e : v.ownBlock with
  | none => exact .inl rfl
  | some k =>
    refine .inr fun e2 => ?_
    have := (World.ownsRow.lt h.1 k e).1
    injection e2
    omega
theorem Below.turned {w a b : World} {r : Nat} (h : Below w.heap.size w a) (hg : a.grownBy b (some r)) (hr : w.heap.size ≤ r) : Below w.heap.size w b := h.grown hg h.size (fun q hq => by injection hq with hq; omega)

set_option maxRecDepth 100000 in
set_option maxHeartbeats 8000000 in
theorem sortAns_any (mb n : Nat) (tl : TL) (hn : n ≤ 3) (hl : ∀ t ∈ tl, t.length = n ∧ allB 0 9 t = true) (w : World) (hA : AM w mb tl) :
    Calls Tryz.prog 37 #[.map (some mb), .int .i64 n] w fun e w' => ∃ r : TL, AscT r ∧ (∀ x, x ∈ r ↔ x ∈ tl) ∧ AddOutT w r e w' := by
  obtain ⟨i0, hi, hz0, hz1, hz2⟩ := info_parts rowT_info
  obtain ⟨m0, D, hM, hm0, hK⟩ := hA
  have hmb : mb < w.heap.size := World.ownsMap.lt hM
  have HM := Lib.hid hM
  have C0 := Lib.hid (Come.start hK)
  have HL := Lib.hid hl
  have hn0 : (0 : Int) ≤ (n : Int) := by omega
  have hn3 : (n : Int) ≤ 3 := by omega
  clear hM hK hl
  go_enter Tryz.func37, Tryz.ntmps37
  go_wp2_with (first | (at_range; refine wpList_range_own _ rfl _ 61 rfl 68 4 lawK Tryz.underlying61 _ mb m0 D rfl HM.out ?_; intro w0 hrg0 hg0 hs0) | go_in)
  go_frame
  have B0 := Lib.hid (show Below w.heap.size w w0 from (Below.refl _ _).grown hg0 (Nat.le_refl _) (fun q hq => by cases hq))
  have RG0 := Lib.hid hrg0
  have O0 := Lib.hid (show OwnCT w0 (w.heap.size + 1) w0.heap.size (.slice none 0 0) [] [] (fun _ => 0) from ⟨World.ownsRow_nil _ _ _ _, ItemsT.nil _ _ _⟩)
  have hsz0 : w.heap.size + 1 ≤ w0.heap.size := by omega
  clear hrg0 hg0
  go_loopw [5, 6, 9, 10, 11, 12, 13, 14, 15, 16, 17, 18] (fun v _ _ _ _ _ _ _ _ _ _ _ wr => ∃ A c left cnt dl cs bs, v = .slice A (List.length dl) c ∧ wr.ranges Tryz.prog 68 (plainElem Tryz.prog 4) mb w.heap.size m0 D left cnt ∧ Hid (Below w.heap.size w wr) ∧ Hid (OwnCT wr (w.heap.size + 1) wr.heap.size (.slice A (List.length dl) c) dl cs bs) ∧ Hid (Come D tl left dl) ∧ w.heap.size + 1 ≤ wr.heap.size) (fun _ _ _ _ _ _ _ _ _ _ _ _ wr => wr.rangeLeft mb w.heap.size)
  case atStart => exact ⟨none, 0, _, _, [], [], _, rfl, RG0.out, B0, O0, C0, hsz0⟩
  case round =>
    clear B0 RG0 O0 C0 hsz0
    obtain ⟨A, c, left, cnt, dl, cs, bs, rfl, hrg, hB, hO, hC, hsz⟩ := hrel
    have hlo : w.heap.size ≤ w.heap.size + 1 := by omega
    go_wp2_with (at_next; refine wpList_next_ranges _ rfl _ rfl 68 lawK _ (fun x : Value => x) (fun x : Value => x) (fun key _ _ => ⟨key, rfl⟩) (fun v _ _ => ⟨v, rfl⟩) mb w.heap.size m0 _ _ _ rfl hrg ?_ ?_)
    · intro hc0 hl0
      have hfin := hC.out.done hl0
      have hnd := hC.out.nd
      have hzz : ∀ t ∈ dl, t.length ≤ 1048576 := fun t ht => by have := (HL.out t ((hfin t).1 ht)).1; omega
      have hfew := tup_few hn dl hnd fun t ht => HL.out t ((hfin t).1 ht)
      have XS := Lib.hid (tsort_any wr (w.heap.size + 1) (.slice A dl.length c) dl cs bs hnd (by omega) hzz hO.out)
      have FN := Lib.hid hfin
      clear hrg hO hfin hnd hzz hl0
      go_wp2_with fail
      refine XS.out.mono ?_
      rintro e w2 ⟨rfl, ⟨r, cs2, bs2, hR, hrl, hasc, hperm⟩, hg2⟩
      have HR := Lib.hid hR
      have B2 := Lib.hid hB.out
      have G2 := Lib.hid hg2
      have AS := Lib.hid (And.intro hasc hperm)
      have HRL := Lib.hid hrl
      clear hR hg2 hasc hperm
      go_wp2
      go_ret
      refine ⟨r, AS.out.1, fun x => by rw [AS.out.2.mem_iff, FN.out], A, c, cs2, bs2, by rw [HRL.out]; rfl, by rw [HRL.out]; exact HR.out.lo hlo, B2.out.grown G2.out B2.out.size (fun q hq => ?_)⟩
      have := (World.ownsRow.lt HR.out.1 q hq).1
      omega
    · intro x cb kl ya yb w1 cnt1 hkey hlk hR hat hrg1 hlt hg1 hs1 hen
      obtain ⟨x0, x1, x2, rfl, _⟩ := keyOf_inv hkey
      obtain ⟨l, hlm, hky⟩ := hC.out.is kl hlk
      subst hky
      have hll := HL.out l hlm
      have hd := key_is (x := (x0, x1, x2)) hkey hll.2 rfl
      have C1 := Lib.hid (hC.out.step hn HL.out hlm hlk)
      have O1 := Lib.hid (show OwnCT w1 (w.heap.size + 1) wr.heap.size (.slice A dl.length c) dl cs bs from hO.out.turned (Nat.le_refl _) hg1 (by omega))
      have B1 := Lib.hid (Below.turned hB.out hg1 (Nat.le_refl _))
      have R1 := Lib.hid hrg1
      have HD := Lib.hid hd
      have hdl : dl.length ≤ 1000 := tup_few hn dl hC.out.nd fun t ht => HL.out t (hC.out.sub t ht)
      simp only at hd
      have D1 := Lib.hid (below_alloc w1 (.cells #[.int .i64 x0, .int .i64 x1, .int .i64 x2] 68))
      have XB := Box.new w1 #[.int .i64 x0, .int .i64 x1, .int .i64 x2] 68
      rw [hs1, ← hd] at XB
      have XC := Lib.hid (clone_n (c := 3) hll.1 hn _ (hd3_ri (l := l) wr.heap.size (by omega) XB))
      rw [hd] at XC
      have hln := hll.1
      have HRG := Lib.hid hrg
      clear hkey hlk hR hat hrg1 hg1 hd hll hrg hC hO hB XB
      go_wp2_with fail
      refine XC.out.mono ?_
      rintro e u ⟨A2, c2, q, rfl, hv, d⟩
      have D2 := Lib.hid (step D1.out d)
      have hsu := D2.out.size
      have O2 := Lib.hid (O1.out.cur (by omega) D2.out)
      have V2 := Lib.hid (hv.mono (lo' := wr.heap.size) (by rw [al_size]; omega) (Nat.le_refl _))
      rw [hln] at V2
      have R2 := Lib.hid (R1.out.kept (w' := u) (row := none) ⟨D2.out.os, D2.out.tape, D2.out.output, D2.out.size, fun i hi _ => D2.out.block i hi⟩ (by simp) (by simp))
      have B2 := Lib.hid (step B1.out D2.out)
      clear hv d
      go_wp2_with (at_builtin; refine wpList_pushT rfl _ _ 29 rfl i0 Tryz.underlying29 hi hz0 hz1 hz2 rfl rfl O2.out V2.out (by omega) (by omega) (by omega) ?_; intro v5 w5 cs5 bs5 hO5 hg5
                   obtain ⟨A5, c5, rfl⟩ := hO5.form
                   have O5 := Lib.hid hO5
                   have G5 := Lib.hid hg5
                   clear hO5 hg5)
      have own : ∀ q, (Value.slice A dl.length c).ownBlock = some q → w.heap.size + 1 ≤ q := fun q hq => (World.ownsRow.lt O2.out.1 q hq).1
      have R5 := R2.out.kept G5.out (fun e => by have := own mb e.symm; omega) (fun e => by have := own _ e.symm; omega)
      have hs5 := G5.out.size
      go_roundw
      case rel => exact ⟨A5, c5, _, cnt1, dl ++ [l], cs5, bs5, by rw [List.length_append]; rfl, R5, Lib.hid (B2.out.grown G5.out B2.out.size (fun q hq => by have := own q hq; omega)), O5, C1, by omega⟩
      case measure => rw [R5.left_eq, HRG.out.left_eq]; omega
end Go.Proofs.YtighalbnpgmdfaaGreat
