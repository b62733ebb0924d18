/- What eachMatching leaves where each matching's head goes into a set. Conditions: none beyond each theorem's own. What the program's AnswersOf answers. Conditions: none beyond each theorem's own. What the law on AnswersOf carries from call to call. Conditions: none beyond each theorem's own. -/
import Derived.Test.YtplbebmboadeiaaGreatAg12
import Derived.Test.YtplbebmboadeiaaGreatAg11
import Derived.Test.YtplbebmboadeiaaGreatAg4
import Derived.Test.YtplbebmboadeiaaGreatAre
import Derived.Test.YtplbebmboadeiaaGreatTupX

namespace Go.Proofs.YtplbebmboadeiaaGreat
open Go.ChangeShapes Go.WideShapes Go.ChangeAt Go.RowKit Go.Sort
set_option linter.unusedVariables false
set_option linter.unusedSimpArgs false

theorem step_callP3 {P : Program} {ops : Array Oper} {o : Oper} {a : Act} {w : World} {K : Act → World → Prop} {Q : Exit → Act → World → Prop} {E : Prop}
    (hgd : o.guard = none) (g : FuncId) (x y z : Operand) (t t' t'' : TypeId) (ho : o.op = .call { callee := .value (.func g), args := #[x, y, z], argTypes := #[t, t', t''] })
    (vx vy vz : Value) (hx : a.eval x = vx) (hy : a.eval y = vy) (hz : a.eval z = vz) (hcf : (callFunc g #[vx, vy, vz]).run P w = .ok (.enter g #[vx, vy, vz]) w) {R : Value → World → Prop} (hc : Calls P g #[vx, vy, vz] w fun e w' => ∃ v, e = .returned v ∧ R v w') (hK : ∀ v w', R v w' → K (a.put o.dst v) w') :
    if Region.wanted o (yielded ops a.tmps) = true then Oper.wp P o a w K Q else E := by
  have hw : Region.wanted o (yielded ops a.tmps) = true := by simp [Region.wanted, hgd]
  rw [if_pos hw]
  unfold Oper.wp
  have hf : a.eval (.func g) = Value.func (.func g) #[] #[] := rfl
  have e : (execOp a.eval o).run P w = .ok (.enter g #[vx, vy, vz]) w := by
    rw [← hx, ← hy, ← hz] at hcf ⊢
    simpa [go_sem, execOp, ho, resolve, invoke] using hcf
  rw [e, Oper.upon_enter]
  refine hc.mono ?_
  rintro _ w' ⟨v, rfl, d⟩
  exact hK v w' d
theorem ZC.new (w : World) (lo : Nat) (h : lo ≤ w.heap.size) : ZC (w.alloc (.cells #[.int .i64 0, .int .i64 0] 89)) lo w.heap.size 1 [(0, 0)] :=
  ⟨#[.int .i64 0, .int .i64 0], h, heap_alloc_new w _, by simp, by unfold maxLen; omega, rfl, rfl⟩
theorem ZC.trn {base lo g cap : Nat} {w w' : World} {l : List (Int × Int)} (h : ZC w lo g cap l) (d : Trn base w w') : ZC w' lo g cap l := by
  obtain ⟨cs, fr, e⟩ := h.typed
  exact h.keep (d.block g h.lt (.inr ⟨cs, _, fr, e, by decide, by decide⟩))
theorem head_ok {hs : List Int} {p : PL} (hp : Gd p ∧ ∀ h ∈ hs, inB h 10 17 = true ∧ h ∈ p.1) : (∀ h ∈ hs, wf h ∧ h ∈ p.1) ∧ headP hs p = headT hs p ∧ allB 0 9 (headP hs p) = true := by
  have e := headP_T hp.1.1 hp.2
  refine ⟨fun h hh => ⟨?_, (hp.2 h hh).2⟩, e, by rw [e]; exact (headT_ok hp.1 hp.2).2⟩
  have := (hp.2 h hh).1
  simp only [inB, Bool.and_eq_true, decide_eq_true_eq] at this
  exact WalkArith.wf_i64 ⟨by omega, by omega⟩

theorem MS.setC {w : World} {base g k i : Nat} {p0 q : PL} {ads : List Int} {u : Value} {cs : Array Value} {fr : Nat × Nat} (h : MS w base g p0 q ads) (hk : w.heap[k]? = some (Obj.cells cs 89 fr)) : MS (w.setCell ⟨k, i, none⟩ u) base g p0 q ads := by
  obtain ⟨h1, mb, n, v, D, hB, hM, hR, hL, hn, hmb, hgb⟩ := h
  have e1 : g ≠ k := fun e => by
    unfold Box at hB
    rw [e, hk] at hB
    injection hB with hB
    injection hB with _ h2
    exact absurd h2 (by decide)
  have e2 : mb ≠ k := fun e => by
    obtain ⟨es, ck, h2⟩ := ownsMap_block hM
    rw [e, hk] at h2
    cases h2
  refine ⟨h1, mb, n, v, D, hB.set_other e1, ownsMap_trn hM (fun es ck e => Below.heap_setCell _ _ _ _ e2), ?_, hL, hn, hmb, hgb⟩
  refine ⟨hR.1, ?_⟩
  rcases hR.2 with hn | ⟨j, cap, cur, hv, hbk, hj, r⟩
  · exact .inl hn
  · refine .inr ⟨j, cap, cur, hv, hbk, ?_, r⟩
    rw [Below.heap_setCell _ _ _ _ (fun e => by
      have e' : j = k := e
      rw [e', hk] at hj
      injection hj with hj
      injection hj with _ h2
      exact absurd h2 (by decide))]
    exact hj
/-- A row of choices has grown. -/
theorem MS.grownC {w w' : World} {base g k : Nat} {p0 q : PL} {ads : List Int} (h : MS w base g p0 q ads) (hg : w.grownBy w' (some k)) (ht : ∃ cs fr, w.heap[k]? = some (Obj.cells cs 89 fr)) : MS w' base g p0 q ads := by
  obtain ⟨cs, fr, hk⟩ := ht
  obtain ⟨h1, mb, n, v, D, hB, hM, hR, hL, hn, hmb, hgb⟩ := h
  have e1 : g ≠ k := fun e => by
    unfold Box at hB
    rw [e, hk] at hB
    injection hB with hB
    injection hB with _ h2
    exact absurd h2 (by decide)
  have e2 : mb ≠ k := fun e => by
    obtain ⟨es, ck, h2⟩ := ownsMap_block hM
    rw [e, hk] at h2
    cases h2
  refine ⟨h1, mb, n, v, D, (hg.block g hB.lt (fun e => e1 (by injection e))).trans hB, World.ownsMap.kept hM hg (fun e => e2 (by injection e)), ?_, hL, hn, hmb, hgb⟩
  refine World.ownsRow.kept hR hg ?_
  rcases hR.2 with ⟨hv, _⟩ | ⟨j, cap, cur, hv, hbk, hj, r⟩
  · exact .inl (by rw [hv]; rfl)
  · refine .inr fun e => ?_
    rw [hv] at e
    have e' : j = k := own_some e
    rw [e', hk] at hj
    injection hj with hj
    injection hj with _ h2
    exact absurd h2 (by decide)
set_option maxRecDepth 100000 in
set_option maxHeartbeats 8000000 in
theorem eachM_any (ga gq mb B0 : Nat) (H Q F : Option Addr) (ch c cf : Nat) (hs : List Int) (ats fs : FL) (hq : QOk hs ats) (hf24 : fs.length ≤ 24) (hfd : ∀ f ∈ fs, allB 0 9 f.2 = true ∧ f.2.length ≤ 3)
    (w : World) (hB1 : B0 ≤ mb) (hB2 : B0 ≤ w.heap.size) (hH : Ints w 0 B0 H hs) (hQ : Facts w 0 B0 Q ats) (hF : Facts w 0 B0 F fs)
    (ha : Box w ga #[.map (some mb)] 59) (hbq : Box w gq #[.slice H hs.length ch, .slice Q ats.length c] 34) (hA : AM w mb []) :
    Calls Tryz.prog 31 #[.agg #[.slice H hs.length ch, .slice Q ats.length c], .slice F fs.length cf, .func (.func 32) #[] #[.pointer (some ⟨ga, 0, none⟩), .pointer (some ⟨gq, 0, none⟩)]] w
      fun e w' => e = .returned (.tuple #[]) ∧ AM w' mb ((bnds fs ats).map (headT hs)) ∧ w.grownBy w' (some mb) := by
  obtain ⟨i0, hi, hz0, hz1, hz2⟩ := info_parts choice_info
  obtain ⟨es, ck, hes⟩ := hA.block
  have hmlt : mb < w.heap.size := (Array.getElem?_eq_some_iff.1 hes).1
  have hga : ga ≠ mb := fun e => by unfold Box at ha; rw [e, hes] at ha; injection ha with ha; cases ha
  have hgq : gq ≠ mb := fun e => by unfold Box at hbq; rw [e, hes] at hbq; injection hbq with hbq; cases hbq
  have hgal := ha.lt
  have hgql := hbq.lt
  have QO := Lib.hid hq
  have hal : (ats.length : Int) ≤ 4 := by have := hq.few.2; omega
  have hhl : hs.length ≤ 3 := hq.head
  have hfl : (fs.length : Int) ≤ 24 := by omega
  have FD := Lib.hid hfd
  have BO := Lib.hid fun (p : PL) (hp : p ∈ bnds fs ats) => bnds_ok hq (fun f hf => (hfd f hf).1) hp
  have BL := Lib.hid (bnds_few fs ats hf24 hq.few.2)
  have b0 := below_alloc w (.cells #[.slice H hs.length ch, .slice Q ats.length c] 34)
  have X0 := Lib.hid (Box.new w #[.slice H hs.length ch, .slice Q ats.length c] 34)
  have B0' := Lib.hid b0
  have HA := Lib.hid hA
  have HAB := Lib.hid ha
  have HQB := Lib.hid hbq
  have HH := Lib.hid hH
  have HQ := Lib.hid hQ
  have HF := Lib.hid hF
  clear hA ha hbq hH hQ hF hq hfd hes
  go_enter Tryz.func31, Tryz.ntmps31
  go_wp2_with fail
  refine (start_any none none 0 0 [] [] (by simp) (by simp) rfl (by simp) _ (fun h => absurd rfl h) (fun h => absurd rfl h)).mono ?_
  rintro e w1 ⟨g, rfl, hms, d1⟩
  have M1 := Lib.hid (show MS (w1.alloc (.cells #[.int .i64 0, .int .i64 0] 89)) w.heap.size g noP noP noP.1 from (MS.below d1.size hms (below_alloc _ _)).lo (by simp))
  have D1 := Lib.hid (step (step b0 d1) (below_alloc w1 (.cells #[.int .i64 0, .int .i64 0] 89)))
  have hw1 : w.heap.size ≤ w1.heap.size := (step b0 d1).size
  have Z1 := Lib.hid (ZC.new w1 w.heap.size hw1)
  have X1 := Lib.hid ((X0.out.step d1).step (below_alloc w1 (.cells #[.int .i64 0, .int .i64 0] 89)))
  have A1 := Lib.hid (HA.out.keep ((D1.out.block mb hmlt)))
  have G1 := Lib.hid (show w.grownBy (w1.alloc (.cells #[.int .i64 0, .int .i64 0] 89)) (some mb) from ⟨D1.out.os, D1.out.tape, D1.out.output, D1.out.size, fun i hi _ => D1.out.block i hi⟩)
  clear hms d1 b0
  go_wp2
  go_loopg [7, 8, 9, 57, 69] (wkC fs ats [(0, noP)]) (fun gk cc _ _ _ _ wr => ∃ (st : CL) (q : PL) (gC cap m : Nat) (done : List PL), wkC fs ats st = gk ∧ m = st.length ∧ cc = .slice (some ⟨gC, 0, none⟩) m cap ∧ Hid (ZC wr w.heap.size gC cap (stL st)) ∧ Hid (MS wr w.heap.size g noP q q.1) ∧ Hid (Gd q) ∧ Hid (WfC fs ats st q) ∧ Hid (AM wr mb (done.map (headT hs))) ∧ Hid (done ++ remC fs ats st = bnds fs ats) ∧ Hid (Box wr w.heap.size #[.slice H hs.length ch, .slice Q ats.length c] 34) ∧ Hid (w.grownBy wr (some mb)))
  case atStart => exact ⟨[(0, noP)], noP, w1.heap.size, 1, 1, [], rfl, rfl, rfl, Z1, M1, Lib.hid gd_nil, Lib.hid ⟨Pre.refl _, gd_nil, Nat.zero_le _, Nat.zero_le _, trivial⟩, A1, Lib.hid (by rw [remC_start]; rfl), X1, G1⟩
  case round =>
    clear Z1 M1 A1 X1 G1 D1 HA X0 B0'
    obtain ⟨st, q, gC, cap, m, done, hwk, hm, rfl, hZ, hM, hG, hW, hAM, hR, hX, hFr⟩ := hrel
    rcases st with _ | ⟨⟨n, p⟩, r⟩
    · obtain rfl : m = 0 := hm
      have E := Lib.hid (show done = bnds fs ats by have := hR.out; simpa [remC] using this)
      go_wp2
      go_end0
      rw [← E.out]
      exact ⟨rfl, hAM.out, hFr.out⟩
    · obtain ⟨d, rfl⟩ : ∃ d, m = d + 1 := ⟨r.length, hm⟩
      have hd : d = r.length := by simpa using hm
      have HDD := Lib.hid hd
      obtain ⟨hPre, hGp, hn, hrl, hWr⟩ := hW.out
      have hn' : (n : Int) ≤ (fs.length : Int) := by omega
      have hn0 : (0 : Int) ≤ (n : Int) := by omega
      have hd5 : d ≤ 4 := by have := QO.out.few.2; omega
      have hdl : (d : Int) < ((d + 1 : Nat) : Int) := by omega
      have hd0 : (0 : Int) ≤ (d : Int) := by omega
      have WR := Lib.hid hWr
      have GP := Lib.hid hGp
      have hcz := hZ.out.cells (k := d) (a := (n : Int)) (b := (p.1.length : Int)) (by rw [stL_len, List.length_cons]; omega) (by rw [hd]; exact stL_top n p r)
      obtain ⟨c0, c1⟩ := hcz
      have hql := small_gd hG.out
      have hpl := small_gd hGp
      have e1 : noP.1.length + p.1.length = p.1.length := by simp
      have e2 : cutP p.1.length q = p := hPre.cut hGp.1
      have e3 : q.1.take p.1.length = p.1 := congrArg Prod.fst e2
      have bx := below_alloc wr (.cells #[.int .i64 n, .int .i64 p.1.length] 89)
      have hbw : w.heap.size ≤ wr.heap.size := hFr.out.size
      have XFg := Lib.hid (forget_any w.heap.size g noP q q.1 p.1.length hPre.len rfl hG.out.2.1 (gd_wf hG.out) (by omega) _ (Nat.le_trans hbw bx.size) (MS.below hbw hM.out bx))
      have Y0 := Lib.hid (Box.new wr #[.int .i64 n, .int .i64 p.1.length] 89)
      have FR1 := Lib.hid (fr_below hFr.out bx)
      have ZZ1 := Lib.hid (hZ.out.keep (bx.block gC hZ.out.lt))
      have HGC := Lib.hid hZ.out.lt
      have AM1 := Lib.hid (hAM.out.keep (bx.block mb (by omega)))
      have XX1 := Lib.hid (hX.out.step bx)
      have E1 := Lib.hid e1
      have E2 := Lib.hid e2
      have E3 := Lib.hid e3
      obtain ⟨W1, hW1⟩ : ∃ W1, W1 = wr.alloc (.cells #[.int .i64 n, .int .i64 p.1.length] 89) := ⟨_, rfl⟩
      have HS1 := Lib.hid (show wr.heap.size + 1 = W1.heap.size by rw [hW1, al_size])
      rw [← hW1] at XFg Y0 FR1 ZZ1 AM1 XX1
      have EW := Lib.hid hW1
      have yx1 := Y0.out.cell 1
      simp only [List.getElem?_toArray, List.getElem?_cons_zero, List.getElem?_cons_succ] at yx1
      clear bx hWr hGp hPre e1 e2 e3 hW hM hZ hG hX hAM hFr hW1 hd hm
      go_wp2_with fail
      rw [← EW.out]
      refine XFg.out.mono ?_
      rintro e w2 ⟨rfl, hms2, ht2⟩
      rw [E1.out, E2.out, E3.out] at hms2
      have MS2 := Lib.hid hms2
      have FR2 := Lib.hid (fr_trn FR1.out ht2)
      have ZZ2 := Lib.hid (ZZ1.out.trn ht2)
      have AM2 := Lib.hid (AM1.out.keep (ht2.block mb (by have := HS1.out; omega) (.inl hmlt)))
      have XX2 := Lib.hid (XX1.out.trn ht2 (by decide) (by decide))
      have YY2 := Lib.hid (Y0.out.trn ht2 (by decide) (by decide))
      have xq0 := XX2.out.cell 0
      have xq1 := XX2.out.cell 1
      have y0 := YY2.out.cell 0
      have y1 := YY2.out.cell 1
      have hb2 : w.heap.size ≤ w2.heap.size := FR2.out.size
      simp only [List.getElem?_toArray, List.getElem?_cons_zero, List.getElem?_cons_succ] at xq0 xq1 y0 y1
      clear hms2 ht2 c0 c1 yx1
      by_cases hda : d = ats.length
      · have hmem := remC_mem hR.out (by have := HDD.out; omega)
        have HO := head_ok (BO.out p hmem.1)
        have E := Lib.hid HO.2.1
        have RM := Lib.hid hmem.2
        have hdn : done.length ≤ 1073741824 := by
          have h1 := congrArg List.length hR.out
          rw [List.length_append] at h1
          have := BL.out
          omega
        have XC := Lib.hid (ansF_any w.heap.size g ga gq mb noP p p.1 H Q ch c hs ats hhl HO.1 HO.2.2 (done.map (headT hs)) (by rw [List.length_map]; exact hdn) w2 hb2 ((HH.out.fr FR2.out hB1 hB2).mono (Nat.le_refl _) (by omega)) MS2.out
          ((FR2.out.block ga hgal (fun e => by injection e; omega)).trans HAB.out) ((FR2.out.block gq hgql (fun e => by injection e; omega)).trans HQB.out) AM2.out)
        have hdi : ((d : Int) == (ats.length : Int)) = true := by simp [hda]
        clear hmem HO
        go_wp2_with fail
        refine XC.out.mono ?_
        rintro e w3 ⟨rfl, ham, hg3⟩
        rw [E.out] at ham
        have AM3 := Lib.hid (show AM w3 mb ((done ++ [p]).map (headT hs)) by rw [List.map_append]; exact ham)
        have FR3 := Lib.hid (fr_grown FR2.out hg3 (fun j hj => .inl (by injection hj with hj; exact hj.symm)))
        have MS3 := Lib.hid (MS2.out.kept hg3 hmlt)
        have hgc : some gC ≠ some mb := fun e => by
          injection e with e
          obtain ⟨cs, fr, h1⟩ := ZZ2.out.typed
          obtain ⟨es, ck, h2⟩ := AM2.out.block
          rw [e, h2] at h1
          cases h1
        have ZZ3 := Lib.hid (show ZC w3 w.heap.size gC cap (stL r) by
          have := (ZZ2.out.keep (hg3.block gC ZZ2.out.lt hgc)).take r.length
          rwa [stL_pop] at this)
        have XX3 := Lib.hid (show Box w3 w.heap.size _ _ from (hg3.block _ XX2.out.lt (fun e => by injection e; omega)).trans XX2.out)
        have hdm : (d : Int) ≤ ((d + 1 : Nat) : Int) := by omega
        have hcap : (d : Int) ≤ (cap : Int) := by
          obtain ⟨_, _, _, h3, _⟩ := ZZ2.out
          rw [stL_len, List.length_cons] at h3
          have := HDD.out
          omega
        clear ham hg3 xq0 xq1 y0 y1
        go_wp2
        go_roundg (wkC fs ats r)
        case measure => have := (remC_leaf fs ats n p r (by have := HDD.out; omega)).2; omega
        case rel => exact ⟨r, p, gC, cap, ats.length, done ++ [p], rfl, (by have := HDD.out; omega), rfl, ZZ3, MS3, GP, WR, AM3, RM, XX3, FR3⟩
      · have hdi : ((d : Int) == (ats.length : Int)) = false := by simp; omega
        have hdlt : d < ats.length := by have := HDD.out; omega
        by_cases hnf : n = fs.length
        · have hnf' : ((n : Int) == (fs.length : Int)) = true := by simp [hnf]
          have RE := Lib.hid (remC_end fs ats n p r (by have := HDD.out; omega) (by omega))
          have ZZ3 := Lib.hid (show ZC w2 w.heap.size gC cap (stL r) by
            have := ZZ2.out.take r.length
            rwa [stL_pop] at this)
          have hdm : (d : Int) ≤ ((d + 1 : Nat) : Int) := by omega
          have hcap : (d : Int) ≤ (cap : Int) := by
            obtain ⟨_, _, _, h3, _⟩ := ZZ2.out
            rw [stL_len, List.length_cons] at h3
            have := HDD.out
            omega
          go_wp2
          go_roundg (wkC fs ats r)
          case measure => have := RE.out.2; omega
          case rel => exact ⟨r, p, gC, cap, d, done, rfl, HDD.out, rfl, ZZ3, MS2, GP, WR, AM2, Lib.hid (by rw [← RE.out.1]; exact hR.out), XX2, FR2⟩
        · have hnf' : ((n : Int) == (fs.length : Int)) = false := by simp; omega
          have hnlt : n < fs.length := by omega
          obtain ⟨k0, k1⟩ := ZZ2.out.cells (k := d) (a := (n : Int)) (b := (p.1.length : Int)) (by rw [stL_len, List.length_cons]; have := HDD.out; omega) (by rw [HDD.out]; exact stL_top n p r)
          have kf := ZZ2.out.frozen (d * 2)
          have hgCl := ZZ1.out.lt
          have hgCw : gC < wr.heap.size := HGC.out
          have hgCb : w.heap.size ≤ gC := by obtain ⟨_, h1, _⟩ := ZZ1.out; exact h1
          obtain ⟨tcs, tfr, htyp⟩ := ZZ2.out.typed
          have hgm : mb ≠ gC := fun e => by
            obtain ⟨es, ck, h2⟩ := AM2.out.block
            rw [e, htyp] at h2
            cases h2
          have hgx : w.heap.size ≠ gC := fun e => by
            have h2 := XX2.out
            unfold Box at h2
            rw [e, htyp] at h2
            injection h2 with h2
            injection h2 with _ h3
            exact absurd h3 (by decide)
          have FR3 := Lib.hid (fr_set (p := ⟨gC, d * 2, none⟩) (v := .int .i64 ((n : Int) + 1)) FR2.out hgCb)
          have MS3 := Lib.hid (MS2.out.setC (i := d * 2) (u := .int .i64 ((n : Int) + 1)) htyp)
          have ZZ3 := Lib.hid (show ZC (w2.setCell ⟨gC, d * 2, none⟩ (.int .i64 ((n : Int) + 1))) w.heap.size gC cap (stL ((n + 1, p) :: r)) by
            have h1 := ZZ2.out.set (k := d) (by rw [stL_len, List.length_cons]; have := HDD.out; omega) ((n : Int) + 1)
            have h2 := stL_top n p r
            rw [← HDD.out] at h2
            rw [h2] at h1
            have h3 := stL_set n p r
            rw [← HDD.out] at h3
            rwa [h3] at h1)
          have AM3 := Lib.hid (AM2.out.keep (Below.heap_setCell w2 ⟨gC, d * 2, none⟩ (.int .i64 ((n : Int) + 1)) mb hgm))
          have XX3 := Lib.hid (XX2.out.set_other (p := ⟨gC, d * 2, none⟩) (u := .int .i64 ((n : Int) + 1)) hgx)
          have YY3 := Lib.hid (YY2.out.set_other (p := ⟨gC, d * 2, none⟩) (u := .int .i64 ((n : Int) + 1)) (by show wr.heap.size ≠ gC; omega))
          obtain ⟨w3, hw3⟩ : ∃ w3, w3 = w2.setCell ⟨gC, d * 2, none⟩ (.int .i64 ((n : Int) + 1)) := ⟨_, rfl⟩
          have hs3 : w2.heap.size = w3.heap.size := by rw [hw3, set_size]
          rw [← hw3] at FR3 MS3 ZZ3 AM3 XX3 YY3
          have EW3 := Lib.hid hw3
          have zq1 := XX3.out.cell 1
          have zy0 := YY3.out.cell 0
          simp only [List.getElem?_toArray, List.getElem?_cons_zero, List.getElem?_cons_succ] at zq1 zy0
          generalize hfa : ats.getD d (0, []) = a
          generalize hff : fs.getD n (0, []) = f
          obtain ⟨ra, ts⟩ := a
          obtain ⟨rf, vs⟩ := f
          obtain ⟨bA, oA, TA, tA, rfl, _, nA, ea0, ea1, _, _, hTA⟩ := (HQ.out.fr FR3.out hB1 hB2).at_ hdlt hfa
          obtain ⟨bF, oF, VF, vF, rfl, _, nF, ef0, ef1, _, _, hVF⟩ := (HF.out.fr FR3.out hB1 hB2).at_ hnlt hff
          have hdA : (d : Int) < (ats.length : Int) := by omega
          have hnF : (n : Int) < (fs.length : Int) := by omega
          have hma : (ra, ts) ∈ ats := by rw [← hfa, List.getD_eq_getElem?_getD, List.getElem?_eq_getElem hdlt]; exact List.getElem_mem _
          have hmf : (rf, vs) ∈ fs := by rw [← hff, List.getD_eq_getElem?_getD, List.getElem?_eq_getElem hnlt]; exact List.getElem_mem _
          have hts3 : ts.length ≤ 3 := QO.out.short _ hma
          have hvs3 : vs.length ≤ 3 := (FD.out _ hmf).2
          have VD := Lib.hid (show allB 0 9 vs = true from (FD.out _ hmf).1)
          have hb3 : w.heap.size ≤ w3.heap.size := by omega
          have XM0 := match_any w.heap.size g noP p p.1 TA VF tA vF ra rf ts vs (fun x hx => by have := allB_mem (QO.out.term _ hma) hx; exact WalkArith.wf_i64 ⟨by omega, by omega⟩) (fun x hx => by have := allB_mem VD.out hx; exact WalkArith.wf_i64 ⟨by omega, by omega⟩) (by omega) (by omega) w3.drew hb3 (hTA.mono (Nat.le_refl _) hB2) (hVF.mono (Nat.le_refl _) hB2) (show MS w3.drew w.heap.size g noP p p.1 from MS3.out)
          rw [matG_mtF GP.out.1] at XM0
          have XM := Lib.hid XM0
          have HFA := Lib.hid hfa
          have HFF := Lib.hid hff
          clear XM0 hTA hVF hma hmf hfa hff htyp hw3
          go_wp2
          rw [← EW3.out]
          go_region_law (first
            | (refine step_callP3 rfl 59 _ _ _ _ _ _ rfl (.pointer (some ⟨g, 0, none⟩)) (.agg #[.int .i64 ra, .slice TA ts.length tA]) (.agg #[.int .i64 rf, .slice VF vs.length vF]) rfl rfl rfl (by kernel_rfl) (R := fun v w' => ∃ e, e = Ending.returned v ∧ MGOut w3.drew w.heap.size g noP p ts vs (mtF p (ra, ts) (rf, vs)) e w') (by
                 refine XM.out.mono ?_
                 rintro e w' h
                 have h' := h
                 obtain ⟨q2, ads2, h1, _⟩ := h
                 rcases h1 with ⟨_, rfl, _⟩ | ⟨_, rfl⟩ <;> exact ⟨_, rfl, _, rfl, h'⟩) ?_
               rintro v4 w4 ⟨e4, he4, q2, ads2, hr4, hms4, ht4⟩
               have R4 := Lib.hid hr4
               have MM4 := Lib.hid hms4
               have TT4 := Lib.hid (show Trn w.heap.size w3 w4 from ⟨ht4.os, ht4.tape, ht4.output, ht4.size, ht4.block⟩)
               have EV4 := Lib.hid he4
               clear hr4 hms4 ht4 he4))
          all_goals
            have hads : ads2 = q2.1 := by have := MM4.out.ad.1; simpa using this.symm
            subst hads
            have FR4 := Lib.hid (fr_trn FR3.out TT4.out)
            have ZZ4 := Lib.hid (ZZ3.out.trn TT4.out)
            have AM4 := Lib.hid (AM3.out.keep (TT4.out.block mb (by omega) (.inl hmlt)))
            have XX4 := Lib.hid (XX3.out.trn TT4.out (by decide) (by decide))
            have ht4 := TT4.out.size
            clear k0 k1 kf ea0 ea1 ef0 ef1 zq1 zy0 y0 y1 xq0 xq1
            rcases R4.out with ⟨hn4, he4, kk, hk4⟩ | ⟨hn4, he4⟩
            · have hv4 : v4 = .bool false := by have := EV4.out; rw [he4] at this; injection this with this; exact this.symm
              subst hv4
              have PG := Lib.hid (mgo_part hk4 GP.out VD.out)
              have RN := Lib.hid (remC_no fs ats n p r (by have := HDD.out; omega) (by rw [← HDD.out]; exact HFA.out) hnlt HFF.out hn4)
              clear hn4 he4 hk4
              go_wp2
              go_roundg (wkC fs ats ((n + 1, p) :: r))
              case measure => have := RN.out.2; omega
              case rel => exact ⟨(n + 1, p) :: r, q2, gC, cap, d + 1, done, rfl, (by rw [List.length_cons, HDD.out]), rfl, ZZ4, MM4, Lib.hid PG.out.2, Lib.hid ⟨PG.out.1, GP.out, (by omega), (by have := HDD.out; omega), WR.out⟩, AM4, Lib.hid (by rw [← RN.out.1]; exact hR.out), XX4, FR4⟩
            · have hv4 : v4 = .bool true := by have := EV4.out; rw [he4] at this; injection this with this; exact this.symm
              subst hv4
              have hgd : Gd q2 := mtF_gd hn4 GP.out VD.out
              have PG := Lib.hid (And.intro (mtF_pre hn4).1 hgd)
              have RY := Lib.hid (remC_yes fs ats n p r (by have := HDD.out; omega) (by rw [← HDD.out]; exact HFA.out) hnlt HFF.out hn4)
              obtain ⟨_, mbq, nq, vq, Dq, hBq, _, hRq, _⟩ := MM4.out
              obtain ⟨Aq, cq, rfl⟩ := ownsRow_form hRq
              have m1 := hBq.cell 1
              simp only [List.getElem?_toArray, List.getElem?_cons_zero, List.getElem?_cons_succ] at m1
              have hql2 := small_gd hgd
              have hdn1 : (stL ((n + 1, p) :: r)).length = d + 1 := by rw [stL_len, List.length_cons, HDD.out]
              have hb4 : w.heap.size ≤ w4.heap.size := by omega
              have hgCb2 := hgCb
              have ZZ5 := ZZ4.out
              clear hn4 he4 hgd hBq hRq
              go_wp2_with (at_builtin; refine wpList_pushC (g := gC) (cap := cap) (l := stL ((n + 1, p) :: r)) (base := w.heap.size) rfl _ _ 90 rfl i0 Tryz.underlying90 hi hz0 hz1 hz2 (by rw [hdn1]; rfl) rfl ZZ4.out hb4 (by rw [hdn1]; omega) ?_; rw [hdn1]; intro g5 cap5 w5 hz5 hg5 hl5
                           have Z5 := Lib.hid hz5
                           have G5 := Lib.hid hg5
                           have L5 := Lib.hid hl5
                           clear hz5 hg5 hl5)
              have hgr5 : ∀ j, (some gC : Option Nat) = some j → j = mb ∨ w.heap.size ≤ j := fun j hj => .inr (by injection hj with hj; omega)
              have FR5 := Lib.hid (fr_grown FR4.out G5.out hgr5)
              have AM5 := Lib.hid (AM4.out.keep (G5.out.block mb (by omega) (fun e => by injection e; omega)))
              have XX5 := Lib.hid (show Box w5 w.heap.size _ _ from (G5.out.block _ XX4.out.lt (fun e => by injection e; omega)).trans XX4.out)
              have MM5 := Lib.hid (show MS w5 w.heap.size g noP q2 q2.1 from MM4.out.grownC G5.out ZZ4.out.typed)
              go_roundg (wkC fs ats ((0, q2) :: (n + 1, p) :: r))
              case measure => have := RY.out.2; omega
              case rel =>
                refine ⟨(0, q2) :: (n + 1, p) :: r, q2, g5, cap5, d + 1 + 1, done, rfl, (by rw [List.length_cons, List.length_cons, HDD.out]), rfl, Lib.hid ?_, MM5, Lib.hid PG.out.2, Lib.hid ⟨Pre.refl _, PG.out.2, Nat.zero_le _, (by rw [List.length_cons]; have := HDD.out; omega), PG.out.1, GP.out, (by omega), (by have := HDD.out; omega), WR.out⟩, AM5, Lib.hid (by rw [← RY.out.1]; exact hR.out), XX5, FR5⟩
                rw [stL_cons 0 q2]
                exact Z5.out
end Go.Proofs.YtplbebmboadeiaaGreat

namespace Go.Proofs.YtplbebmboadeiaaGreat
open Go.ChangeShapes Go.WideShapes Go.ChangeAt Go.RowKit Go.Sort
open Go.Maps (Keyed int_keyed keyOf_int_mk)
set_option linter.unusedVariables false
set_option linter.unusedSimpArgs false

theorem addOutT_nil {w w' : World} (h : Below w.heap.size w w') : AddOutT w [] (.returned (.slice none 0 0)) w' := ⟨none, 0, [], fun _ => 0, rfl, ⟨World.ownsRow_nil _ _ _ _, ItemsT.nil _ _ _⟩, h⟩
theorem AddOutT.from {w w1 w' : World} {r : TL} {e : Ending} (h : AddOutT w1 r e w') (b : Below w.heap.size w w1) : AddOutT w r e w' := by
  obtain ⟨A, c, cs, bs, h1, h2, h3⟩ := h
  exact ⟨A, c, cs, bs, h1, h2.lo b.size, step b h3⟩
theorem AM.made (w : World) : AM (w.alloc (.map #[] 0)) w.heap.size [] :=
  ⟨0, _, World.ownsMap_made w Tryz.prog 62 (plainElem (H := Unit) Tryz.prog 4), Nat.zero_le _, AK.start⟩

set_option maxRecDepth 100000 in
set_option maxHeartbeats 4000000 in
theorem impl_AnswersOf (S H Q F : Option Addr) (cs ch c cf : Nat) (s hs : List Int) (ats fs : FL) (hls : s.length ≤ 1048576) (hh : hs.length ≤ 1048577) (hz : szF ats ≤ 1048576) (hzf : szF fs ≤ 1048576)
    (w : World) (hS : RI w S s) (hH : RI w H hs) (hQ : RF w Q ats) (hF : RF w F fs) :
    Calls Tryz.prog 10 #[.slice S s.length cs, .agg #[.slice H hs.length ch, .slice Q ats.length c], .slice F fs.length cf] w (AddOutT w (ansT s hs ats fs)) := by
  have hmm := @run_makeMap Tryz.prog
  have b0 := below_alloc w (.cells #[.slice H hs.length ch, .slice Q ats.length c] 34)
  have B0 := Lib.hid b0
  have X0 := Lib.hid (Box.new w #[.slice H hs.length ch, .slice Q ats.length c] 34)
  obtain ⟨W0, hW0⟩ : ∃ W0, W0 = w.alloc (.cells #[.slice H hs.length ch, .slice Q ats.length c] 34) := ⟨_, rfl⟩
  have hsz0 : w.heap.size + 1 = W0.heap.size := by rw [hW0, al_size]
  rw [← hW0] at b0 B0 X0
  have EW := Lib.hid hW0
  have hss := hS.step b0
  have hhh := hH.step b0
  have hqq := hQ.step b0
  have hff := hF.step b0
  have XQ := Lib.hid (impl_IsQuery S H Q cs ch c s hs ats hls hh hz W0 hss hhh hqq)
  have XF := Lib.hid fun (W : World) (hW : Below W0.heap.size W0 W) => impl_AreFacts S cs s F cf fs hls hzf W (hss.step hW) (hff.step hW)
  have g0 := X0.out.cell 0
  have g1 := X0.out.cell 1
  simp only [List.getElem?_toArray, List.getElem?_cons_zero, List.getElem?_cons_succ] at g0 g1
  clear hW0
  by_cases c1 : queryB s hs ats = true
  · have C1 := Lib.hid c1
    by_cases c2 : areB s fs = true
    · have C2 := Lib.hid c2
      have QO := Lib.hid (QOk.of c1)
      have FO := Lib.hid (areB_few c2)
      have E := Lib.hid (show ansT s hs ats fs = tupA hs (bnds fs ats) from if_pos ⟨c1, c2⟩)
      have BO := Lib.hid fun (p : PL) (hp : p ∈ bnds fs ats) => bnds_ok QO.out (fun f hf => (FO.out.2 f hf).1) hp
      have HH := Lib.hid hH
      have HQ := Lib.hid hQ
      have HF := Lib.hid hF
      rw [E.out]
      clear c1 c2 hss hhh hqq hff b0 hS hH hQ hF
      go_enter Tryz.func10, Tryz.ntmps10
      go_wp2_with fail
      rw [← EW.out]
      refine XQ.out.mono ?_
      rintro e u1 ⟨he, d1⟩
      rw [C1.out] at he
      subst he
      have D1 := Lib.hid d1
      clear d1
      go_wp2_with fail
      refine (XF.out _ D1.out).mono ?_
      rintro e u2 ⟨he, d2⟩
      rw [C2.out] at he
      subst he
      have D2 := Lib.hid (step D1.out d2)
      have hsu := D2.out.size
      have hlt2 : w.heap.size < u2.heap.size := by omega
      have hb3 := step (below_alloc u2 (.map #[] 0)) (below_alloc _ (.cells #[.map (some u2.heap.size)] 59))
      have A3 := Lib.hid ((AM.made u2).keep ((below_alloc (u2.alloc (.map #[] 0)) (.cells #[.map (some u2.heap.size)] 59)).block u2.heap.size (by rw [al_size]; omega)))
      have BX3 := Box.new (u2.alloc (.map #[] 0)) #[.map (some u2.heap.size)] 59
      rw [al_size] at BX3
      obtain ⟨W3, hW3⟩ : ∃ W, W = (u2.alloc (.map #[] 0)).alloc (.cells #[.map (some u2.heap.size)] 59) := ⟨_, rfl⟩
      have hs3 : u2.heap.size + 2 = W3.heap.size := by rw [hW3, al_size, al_size]
      rw [← hW3] at hb3 A3 BX3
      have EW3 := Lib.hid hW3
      have D3 := Lib.hid (step (step B0.out D2.out) hb3)
      have X3 := Lib.hid ((X0.out.step D2.out).step hb3)
      have Y3 := Lib.hid BX3
      have XE := Lib.hid (eachM_any (u2.heap.size + 1) w.heap.size u2.heap.size w.heap.size H Q F ch c cf hs ats fs QO.out FO.out.1 FO.out.2 W3 (by omega) (by omega) (HH.out.keep fun b _ hb => D3.out.block b hb) (HQ.out.keep fun b _ hb => D3.out.block b hb) (HF.out.keep fun b _ hb => D3.out.block b hb) BX3 X3.out A3.out)
      have z0 := X3.out.cell 0
      have z1 := X3.out.cell 1
      have y0 := BX3.cell 0
      have y1 := BX3.frozen 0
      simp only [List.getElem?_toArray, List.getElem?_cons_zero, List.getElem?_cons_succ] at z0 z1 y0
      clear d2 g0 g1 hb3 BX3 hW3
      go_upto_region 4 with fail
      rw [← EW3.out]
      clear y0 y1
      go_wp2_with fail
      refine XE.out.mono ?_
      rintro e u4 ⟨rfl, ham, hg4⟩
      have AM4 := Lib.hid ham
      have D4 := Lib.hid (show Below w.heap.size w u4 from D3.out.grown hg4 D3.out.size (fun q hq => by injection hq with hq; omega))
      have X4 := (hg4.block w.heap.size X3.out.lt (fun e => by injection e; omega)).trans X3.out
      have Y4 := (hg4.block (u2.heap.size + 1) Y3.out.lt (fun e => by injection e; omega)).trans Y3.out
      have z0 := Box.cell X4 0
      have z1 := Box.cell X4 1
      have y0 := Box.cell Y4 0
      simp only [List.getElem?_toArray, List.getElem?_cons_zero, List.getElem?_cons_succ] at z0 z1 y0
      have XS := Lib.hid (sortAns_any u2.heap.size hs.length _ QO.out.head (fun t ht => by
        obtain ⟨p, hp, rfl⟩ := List.mem_map.1 ht
        exact headT_ok (BO.out p hp).1 (BO.out p hp).2) u4 ham)
      clear ham hg4 X4 Y4
      go_wp2_with fail
      refine XS.out.mono ?_
      rintro e u5 ⟨r, hasc, hmem, A5, c5, cs5, bs5, rfl, hO5, hB5⟩
      have ER := Lib.hid (show tupA hs (bnds fs ats) = r from tupA_is hasc fun x => by rw [hmem, List.mem_map])
      have O5 := Lib.hid hO5
      have B5 := Lib.hid hB5
      clear hasc hmem hO5 hB5
      go_wp2
      go_ret
      rw [ER.out]
      exact ⟨A5, c5, cs5, bs5, rfl, O5.out.lo D4.out.size, step D4.out B5.out⟩
    · have C2 := Lib.hid (show areB s fs = false by simpa using c2)
      have E := Lib.hid (ansT_no (s := s) (hs := hs) (ats := ats) (fs := fs) (fun h => c2 h.2))
      rw [E.out]
      clear c1 c2 hss hhh hqq hff b0 hS hH hQ hF
      go_enter Tryz.func10, Tryz.ntmps10
      go_wp2_with fail
      rw [← EW.out]
      refine XQ.out.mono ?_
      rintro e u1 ⟨he, d1⟩
      rw [C1.out] at he
      subst he
      have D1 := Lib.hid d1
      clear d1
      go_wp2_with fail
      refine (XF.out _ D1.out).mono ?_
      rintro e u2 ⟨he, d2⟩
      rw [C2.out] at he
      subst he
      have D2 := Lib.hid (step D1.out d2)
      clear d2 g0 g1
      go_wp2
      go_ret
      exact addOutT_nil (step B0.out D2.out)
  · have C1 := Lib.hid (show queryB s hs ats = false by simpa using c1)
    have E := Lib.hid (ansT_no (s := s) (hs := hs) (ats := ats) (fs := fs) (fun h => c1 h.1))
    rw [E.out]
    clear c1 hss hhh hqq hff b0 hS hH hQ hF
    go_enter Tryz.func10, Tryz.ntmps10
    go_wp2_with fail
    rw [← EW.out]
    refine XQ.out.mono ?_
    rintro e u1 ⟨he, d1⟩
    rw [C1.out] at he
    subst he
    have D1 := Lib.hid d1
    clear d1 g0 g1
    go_wp2
    go_ret
    exact addOutT_nil (step B0.out D1.out)
end Go.Proofs.YtplbebmboadeiaaGreat

namespace Go.Proofs.YtplbebmboadeiaaGreat
open Go.ChangeShapes Go.WideShapes Go.ChangeAt Go.RowKit Go.Sort
set_option linter.unusedVariables false
set_option linter.unusedSimpArgs false

/-- Lists that lie below block hi. -/
def VT (w : World) (hi : Nat) (A : Option Addr) (ts : TL) : Prop := Tups w 0 hi A ts ∧ hi ≤ w.heap.size
theorem VT.of {w : World} {A : Option Addr} {ts : TL} (h : RT w A ts) : VT w w.heap.size A ts := ⟨h, Nat.le_refl _⟩
theorem VT.keep {w w' : World} {hi : Nat} {A : Option Addr} {ts : TL} (h : VT w hi A ts) (hk : ∀ b, b < hi → w'.heap[b]? = w.heap[b]?) (hs : w.heap.size ≤ w'.heap.size) : VT w' hi A ts := ⟨h.1.keep fun b _ hb => hk b hb, Nat.le_trans h.2 hs⟩
theorem VT.step {w w' : World} {hi : Nat} {A : Option Addr} {ts : TL} (h : VT w hi A ts) (b : Below w.heap.size w w') : VT w' hi A ts := h.keep (fun q hq => b.block q (by have := h.2; omega)) b.size
theorem VT.rt {w : World} {hi : Nat} {A : Option Addr} {ts : TL} (h : VT w hi A ts) : RT w A ts := h.1.mono (Nat.le_refl _) h.2

/-- A list of the call's own, or none. -/
def GX (w : World) (lo hi : Nat) (A : Option Addr) (m : Nat) (ts : TL) : Prop := hi ≤ w.heap.size ∧ ((A = none ∧ ts = []) ∨ ∃ g, A = some ⟨g, 0, none⟩ ∧ TX w lo hi g m ts)
theorem GX.keep {w w' : World} {lo hi m : Nat} {A : Option Addr} {ts : TL} (h : GX w lo hi A m ts) (hk : ∀ b, lo ≤ b → b < hi → w'.heap[b]? = w.heap[b]?) (hs : w.heap.size ≤ w'.heap.size) : GX w' lo hi A m ts :=
  ⟨Nat.le_trans h.1 hs, h.2.imp id fun ⟨g, e, p⟩ => ⟨g, e, p.keep hk hs⟩⟩
theorem GX.step {w w' : World} {lo hi m : Nat} {A : Option Addr} {ts : TL} (h : GX w lo hi A m ts) (b : Below w.heap.size w w') : GX w' lo hi A m ts := h.keep (fun q _ hq => b.block q (by have := h.1; omega)) b.size
theorem GX.rt {w : World} {lo hi m : Nat} {A : Option Addr} {ts : TL} (h : GX w lo hi A m ts) : RT w A ts := by
  rcases h.2 with ⟨_, rfl⟩ | ⟨g, rfl, p⟩
  · exact fun hne => absurd rfl hne
  · exact p.rt
def AddGX (w : World) (res : TL) (e : Ending) (w' : World) : Prop := ∃ A c, e = .returned (.slice A res.length c) ∧ GX w' w.heap.size w'.heap.size A c res ∧ Below w.heap.size w w'
theorem AddOutT.toGX {w : World} {res : TL} {e : Ending} {w' : World} (h : AddOutT w res e w') : AddGX w res e w' := by
  obtain ⟨A, c, cs, bs, he, ho, hb⟩ := h
  refine ⟨A, c, he, ⟨Nat.le_refl _, ?_⟩, hb⟩
  rcases ho.addr with ⟨hA, hn⟩ | ⟨g, rfl⟩
  · exact .inl ⟨hA, hn⟩
  · obtain ⟨_, hc, hp⟩ := ho.to_P
    exact .inr ⟨g, rfl, hp, Nat.le_refl _, hc⟩
theorem Within.none (lo hi : Nat) (w : World) : Within lo hi w w := Within.refl _ _ _
theorem markIntSS_g (lo hi m c : Nat) (A : Option Addr) (ts : TL) (hl : ts.length ≤ 1048577) (hz : sumT ts ≤ 2097152) (he : ∀ k, k < ts.length → (ts.getD k []).length ≤ 1048576) (w : World) (h : GX w lo hi A m ts) :
    Calls Tryz.prog 18 #[.slice A ts.length c, .int .i64 1] w fun e w' => e = .returned (.int .i64 (1 + sumT ts)) ∧ RT w' A (mkT 1 ts ts.length) ∧ Within lo hi w w' := by
  rcases h.2 with ⟨rfl, rfl⟩ | ⟨g, rfl, p⟩
  · refine (markIntSS_zero none c 1 w (by omega) (by omega)).mono ?_
    rintro e w' ⟨rfl, rfl⟩
    exact ⟨rfl, fun hne => absurd rfl hne, Within.refl _ _ _⟩
  · exact markIntSS_x lo hi g m c 1 ts hl hz he (by omega) (by omega) w p
theorem ansT_small (s hs : List Int) (ats fs : FL) : (ansT s hs ats fs).length ≤ 1000 ∧ sumT (ansT s hs ats fs) ≤ 4000 ∧ ∀ k, k < (ansT s hs ats fs).length → ((ansT s hs ats fs).getD k []).length ≤ 1048576 := by
  by_cases h : queryB s hs ats = true ∧ areB s fs = true
  · have QO := QOk.of h.1
    have FO := areB_few h.2
    have e : ansT s hs ats fs = tupA hs (bnds fs ats) := if_pos h
    obtain ⟨a, b, c⟩ := tupA_small QO.head (ps := bnds fs ats) fun p hp => bnds_ok QO (fun f hf => (FO.2 f hf).1) hp
    rw [e]
    refine ⟨a, by unfold szT at b; omega, fun k hk => ?_⟩
    have := (c _ (getD_memT hk)).1
    have := QO.head
    omega
  · rw [ansT_no h]
    exact ⟨by simp, by simp [sumT], fun k hk => by simp at hk⟩
end Go.Proofs.YtplbebmboadeiaaGreat
