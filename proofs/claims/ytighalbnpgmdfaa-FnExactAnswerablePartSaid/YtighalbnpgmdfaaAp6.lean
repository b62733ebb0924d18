/- What the model's IsOrder answers. Conditions: none beyond each theorem's own. -/
import Derived.Test.YtighalbnpgmdfaaAp5

namespace Go.Proofs.Ytighalbnpgmdfaa
open Go.ChangeShapes Go.WideShapes Go.ChangeAt Go.RowKit Go.Sort
set_option linter.unusedVariables false
set_option linter.unusedSimpArgs false

set_option maxRecDepth 100000 in
set_option maxHeartbeats 1000000 in
theorem l6Bind_any (B : Option Addr) (cb : Nat) (bd T : List Int) (r : Int) (xs : List Int) (A : Option Addr) (c : Nat) (hbd : bd = wl 10 17 T) (hl : xs.length ≤ 1048576) (w : World) (h : RI w B bd) (h1 : RI w A xs) :
    Calls Try.prog 52 #[.slice B bd.length cb, .agg #[.int .i64 r, .slice A xs.length c]] w (PutO w w.heap.size (wl 10 17 (T ++ xs))) := by
  obtain ⟨i0, hi, hz0, hz1, hz2⟩ := info_parts int_info
  have hl' : (xs.length : Int) ≤ 1048576 := by omega
  have HBD := Lib.hid hbd
  have hbl : bd.length ≤ 1000 := len_hid hbd (by omega)
  have b1 := below_alloc w (.cells #[.int .i64 r, .slice A xs.length c] 73)
  have b2 := below_alloc (w.alloc (.cells #[.int .i64 r, .slice A xs.length c] 73)) (.cells #[] 3)
  have B0 := Lib.hid (step b1 b2)
  have HJ := Lib.hid h1
  have HI := Lib.hid (h.step (step b1 b2))
  have XA0 := Lib.hid ((Box.new w #[.int .i64 r, .slice A xs.length c] 73).step b2)
  clear h h1 b1 b2 hbd
  go_enter Try.func52, Try.ntmps52
  go_wp2_with (at_builtin; refine wpList_append_nums rfl _ _ 22 rfl (w.heap.size + 1) 3 i0 Try.underlying22 hi hz0 hz1 hz2 (.slice (some ⟨w.heap.size + 1, 0, none⟩) 0 0) 0 [] rfl (by have := World.ownsRow_lit (base := w.heap.size + 1) (e := 3) (size := 1) (w.alloc (.cells #[.int .i64 r, .slice A xs.length c] 73)) #[] 0 (by simp) (by unfold maxLen; omega) rfl; rw [al_size] at this; exact this) _ _ B cb bd rfl HI.out (by omega) (by simp) ?_; intro v' w' hown hg hat
               have hown' : w'.ownsRow (w.heap.size + 1) 3 1 v' (0 + bd.length) (bd.map (Value.int .i64)) := by simpa using hown
               have hown2 : w'.ownsRow (w.heap.size + 1) 3 1 v' bd.length (bd.map (Value.int .i64)) := by simpa using hown'
               obtain ⟨A2, c2, rfl⟩ := ownsRow_form hown2
               have HV := Lib.hid (ints_own hown2 (Nat.le_refl _))
               have XA := Lib.hid (show Box w' w.heap.size #[.int .i64 r, .slice A xs.length c] 73 from (hg.block w.heap.size (by simp <;> omega) (by simp [Value.ownBlock])).trans XA0.out)
               have HB := Lib.hid (show Below w.heap.size w w' from B0.out.grown hg (by (try simp) <;> omega) (fun k hk => by have := own_some hk; omega))
               have hz : w.heap.size + 1 ≤ w'.heap.size := by have := hg.size; simp at this; omega
               clear hown hown' hown2 hg hat)
  go_loopw [5, 6] (fun o i wr => ∃ (j : Nat) (A2 : Option Addr) (c2 : Nat) (out : List Int), j ≤ xs.length ∧ i = .int .i64 j ∧ o = .slice A2 out.length c2 ∧ Hid (out = wl 10 17 (T ++ xs.take j)) ∧ Hid (Ints wr (w.heap.size + 1) wr.heap.size A2 out) ∧ Hid (Box wr w.heap.size #[.int .i64 r, .slice A xs.length c] 73) ∧ Hid (Below w.heap.size w wr)) (fun _ i _ => xs.length - (intOf i).toNat)
  case atStart => exact ⟨0, A2, c2, bd, by omega, rfl, rfl, Lib.hid (by rw [HBD.out]; simp), HV, XA, HB⟩
  case round =>
    obtain ⟨j, A3, c3, out, hj, rfl, rfl, hO, hI, hX, hB⟩ := hrel
    have g1 := hX.out.cell 1
    simp only [List.getElem?_toArray, List.getElem?_cons_zero, List.getElem?_cons_succ] at g1
    have hj0 : (0 : Int) ≤ (j : Int) := by omega
    by_cases hjt : j < xs.length
    · have hj1 : (j : Int) < (xs.length : Int) := by omega
      obtain ⟨b2, off2, rfl, hb2, hc⟩ := RI.at_ (HJ.out.step hB.out) hjt
      generalize hx : xs.getD j 0 = x at hc
      have TX := Lib.hid (takeI xs hjt hx)
      have hol := len_hid hO.out (by omega)
      clear hx
      by_cases hin : inB x 10 17 = true
      · have HN := Lib.hid hin
        have O2 := Lib.hid (show putI out x = wl 10 17 (T ++ xs.take (j + 1)) by rw [TX.out, ← List.append_assoc, wl_yes _ hin, hO.out])
        have XP := Lib.hid (l3Put_any (w.heap.size + 1) A3 c3 out x (by omega) wr (by have := hX.out.lt; omega) hI.out)
        clear hin
        go_wp2_with fail
        refine (spec_IsVar x _).mono ?_
        rintro e w' ⟨rfl, rfl⟩
        rw [HN.out]
        go_wp2_with fail
        refine XP.out.mono ?_
        rintro e w1 ⟨A4, c4, rfl, hI4, d4⟩
        have hX4 := Lib.hid (hX.out.step d4)
        have hB4 := Lib.hid (step hB.out d4)
        have HI4 := Lib.hid hI4
        generalize putI out x = out4 at O2 HI4
        clear d4 hI4
        go_wp2
        go_roundw
        case rel => exact ⟨j + 1, A4, c4, out4, by omega, by go_num, rfl, O2, HI4, hX4, hB4⟩
        case measure => simp [intOf]; omega
      · have hin' : inB x 10 17 = false := by simpa using hin
        have HN := Lib.hid hin'
        have O2 := Lib.hid (show out = wl 10 17 (T ++ xs.take (j + 1)) by rw [TX.out, ← List.append_assoc, wl_no _ hin', hO.out])
        clear hin hin'
        go_wp2_with fail
        refine (spec_IsVar x _).mono ?_
        rintro e w' ⟨rfl, rfl⟩
        rw [HN.out]
        go_wp2
        go_roundw
        case rel => exact ⟨j + 1, A3, c3, out, by omega, by go_num, rfl, O2, hI, hX, hB⟩
        case measure => simp [intOf]; omega
    · obtain rfl : j = xs.length := by omega
      have O2 := Lib.hid (show out = wl 10 17 (T ++ xs) by rw [hO.out, take_all])
      go_wp2
      go_ret
      exact ⟨A3, c3, congrArg (fun o : List Int => Ending.returned (.slice A3 o.length c3)) O2.out, by rw [← O2.out]; exact hI.out.mono (by omega) (Nat.le_refl _), hB.out⟩

/-- append(v, y) of one number, in a new block: what is turned is v's own block. -/
theorem wpList_pushI {P : Program} {W : World} {ops : Array Oper} {rest : List Oper} {o : Oper} {a : Act} {Q : Exit → Act → World → Prop} (hgd : o.guard = none) (s x : Operand) (t e : TypeId)
    (ho : o.op = .call { callee := .builtin .append, args := #[s, x], argTypes := #[t, t] })
    (i : TypeInfo) (ht : P.underlying t = some (.slice e)) (hi : P.info? e = some i) (hz : i.zero = some (.int .i64 0)) (hz1 : i.size = 1) (hz2 : i.bytes = 8)
    {base n : Nat} {v : Value} {cs : List Value} {y : Value} (hs : a.eval s = v) (hx : a.eval x = .slice (some ⟨W.heap.size, 0, none⟩) 1 1) (hy : y.oneCell' = true)
    (hown : W.ownsRow base e 1 v n cs) (hbase : base ≤ W.heap.size) (hn : n + 1 ≤ 1048580)
    (h : ∀ v' w', w'.ownsRow base e 1 v' (n + 1) (cs ++ [y]) → W.grownBy w' v.ownBlock → wpList P ops Q rest (a.put o.dst v') w') :
    wpList P ops Q (o :: rest) a (W.alloc (.cells #[y] e)) := by
  refine wpList_append_own (P := P) _ hgd s x t ho base e i _ 1 8 ht hi hz hz1 hz2 rfl (by omega) v n _ hs (hown.alloc _) ⟨W.heap.size, 0, none⟩ 1 1 [y] hx rfl (cell_one_new _ _ _) (by intro u hu; simp at hu; subst hu; exact hy)
    (by unfold maxLen; omega) (by omega) (by simp; omega) ?_
  intro v' w' hown' hg _
  exact h v' w' hown' ((World.grownBy_alloc _ _ _).trans hg)
theorem Ints.grown {w w' : World} {lo : Nat} {A : Option Addr} {xs : List Int} {v : Value} (h : Ints w lo w.heap.size A xs) (hg : w.grownBy w' v.ownBlock) (hlt : ∀ g, v.ownBlock = some g → g < lo) : Ints w' lo w'.heap.size A xs :=
  (h.keep fun b h1 h2 => hg.block b h2 (by intro e; have := hlt b e.symm; omega)).mono (Nat.le_refl _) hg.size
theorem used_has (p : SL) (i : Int) : decide (i ∈ p.map Prod.fst) = usedB p i := rfl
theorem firsts_snoc (p : SL) (a m : Int) : (p ++ [(a, m)]).map Prod.fst = p.map Prod.fst ++ [a] := by simp

theorem step_no1 {ms : ML} {l : FL} {p : SL} {a m : Int} (h : inB a 0 ((l.length : Int) - 1) = false) : stepOk ms l p (a, m) = false := by simp [stepOk, h]
theorem step_no2 {ms : ML} {l : FL} {p : SL} {a m : Int} (h : usedB p a = true) : stepOk ms l p (a, m) = false := by simp [stepOk, h]
theorem step_no3 {ms : ML} {l : FL} {p : SL} {a m : Int} (h : inB m 0 ((ms.length : Int) - 1) = false) : stepOk ms l p (a, m) = false := by simp [stepOk, h]
theorem step_can {ms : ML} {l : FL} {p : SL} {a m : Nat} (h1 : inB (a : Int) 0 ((l.length : Int) - 1) = true) (h2 : usedB p (a : Int) = false) (h3 : inB (m : Int) 0 ((ms.length : Int) - 1) = true) {r li co qu ra : Int} {inp ts : List Int} (hf : ms.getD m noM = (r, inp, li, co, qu)) (hg : l.getD a noF = (ra, ts)) : stepOk ms l p ((a : Int), (m : Int)) = canB r inp ra ts (bnd l p) := by
  unfold stepOk
  simp only [h1, h2, h3, Int.toNat_natCast, hf, hg]
  rfl

set_option maxRecDepth 100000 in
set_option maxHeartbeats 4000000 in
theorem spec_IsOrder (S : Option Addr) (cs : Nat) (s : List Int) (L : Option Addr) (cl : Nat) (ms : ML) (H A : Option Addr) (ch c : Nat) (hs : List Int) (l : FL) (O : Option Addr) (co : Nat) (p : SL) (hls : s.length ≤ 1048576) (hzm : szM ms ≤ 1048576) (hh : hs.length ≤ 1048576) (hz : szF l ≤ 1048576) (hp : p.length ≤ 1048576) (w : World) (h : RI w S s) (h1 : RM w L ms) (h2 : RI w H hs) (h3 : RF w A l) (h4 : RZ w O p) :
    Calls Try.prog 14 #[.slice S s.length cs, .slice L ms.length cl, .agg #[.slice H hs.length ch, .slice A l.length c], .slice O p.length co] w fun e w' => e = .returned (.bool (ordB s ms hs l p)) ∧ Below w.heap.size w w' := by
  obtain ⟨i0, hi, hz0, hz1, hz2⟩ := info_parts int_info
  have hp' : (p.length : Int) ≤ 1048576 := by omega
  have XQ := Lib.hid (Box.new w #[.slice H hs.length ch, .slice A l.length c] 37)
  have B0 := Lib.hid (below_alloc w (.cells #[.slice H hs.length ch, .slice A l.length c] 37))
  have X1 := Lib.hid (l6Fine_any S cs s L cl ms H A ch c hs l hls hzm hh hz _ (h.step B0.out) (h1.step B0.out) (h2.step B0.out) (h3.step B0.out))
  have q0 := XQ.out.cell 0
  have q1 := XQ.out.cell 1
  simp only [List.getElem?_toArray, List.getElem?_cons_zero, List.getElem?_cons_succ] at q0 q1
  have HM := Lib.hid h1
  have HF := Lib.hid h3
  have HZ := Lib.hid h4
  clear h h1 h2 h3 h4
  by_cases ha : fineB s ms hs l = true
  · have HA := Lib.hid ha
    obtain ⟨hm5, hfew, hl1⟩ := fine_of ha
    by_cases hn : p.length = l.length
    · have HN := Lib.hid hn
      have E := Lib.hid (show ordB s ms hs l p = ordN ms l p p.length by unfold ordB; rw [show (aremB s ms && queryB s hs l) = true from ha, decide_eq_true hn]; rfl)
      have hp4 : p.length ≤ 4 := by have := hfew.1; omega
      have d1 : ((p.length : Int) == (l.length : Int)) = true := by simp; omega
      have d2 : ((p.length : Int) != (l.length : Int)) = false := by simp; omega
      rw [E.out]
      clear ha hn
      go_enter Try.func14, Try.ntmps14
      go_wp2_with fail
      refine X1.out.mono ?_
      rintro e u ⟨he, d⟩
      rw [HA.out] at he
      subst he
      have D := Lib.hid (step B0.out d)
      have XQ2 := Lib.hid (XQ.out.step d)
      have q0 := XQ2.out.cell 0
      have q1 := XQ2.out.cell 1
      simp only [List.getElem?_toArray, List.getElem?_cons_zero, List.getElem?_cons_succ] at q0 q1
      have HFW := Lib.hid hfew
      have bl := step (below_alloc u (.cells #[] 3)) (below_alloc _ (.cells #[] 3))
      have D2 := Lib.hid (step D.out bl)
      have XQ3 := Lib.hid (XQ2.out.step bl)
      have OU0 := World.ownsRow_lit (base := u.heap.size) (e := 3) (size := 1) (u.alloc (.cells #[] 3)) #[] 0 (by simp) (by unfold maxLen; omega) rfl
      rw [al_size] at OU0
      have OU := Lib.hid OU0
      have hus : w.heap.size < u.heap.size := XQ2.out.lt
      have hl4' : (l.length : Int) ≤ 4 := by have := hfew.1; omega
      have hm5' : (ms.length : Int) ≤ 5 := by omega
      clear d hfew bl OU0
      go_wp2
      go_loopw [9, 10, 11] (fun bv uv i wr => ∃ (k : Nat) (Ab Au : Option Addr) (cb cu mid : Nat) (bd us : List Int), k ≤ p.length ∧ i = .int .i64 k ∧ bv = .slice Ab bd.length cb ∧ uv = .slice Au us.length cu ∧ ordN ms l p k = true ∧ Hid (bd = bnd l (p.take k)) ∧ Hid (us = (p.take k).map Prod.fst) ∧ Hid (Ints wr mid wr.heap.size Ab bd) ∧ Hid (wr.ownsRow u.heap.size 3 1 (.slice Au us.length cu) us.length (us.map (Value.int .i64))) ∧ Hid (∀ g, (Value.slice Au us.length cu).ownBlock = some g → g < mid) ∧ Hid (Below w.heap.size w wr) ∧ Hid (Box wr w.heap.size #[.slice H hs.length ch, .slice A l.length c] 37) ∧ u.heap.size ≤ wr.heap.size) (fun _ _ i _ => p.length - (intOf i).toNat)
      case atStart => exact ⟨0, _, _, 0, 0, u.heap.size + 2, [], [], by omega, rfl, rfl, rfl, rfl, Lib.hid rfl, Lib.hid rfl, Lib.hid fun hne => absurd rfl hne, OU, Lib.hid fun g hg => by have := own_some hg; omega, D2, XQ3, by simp; omega⟩
      case round =>
        obtain ⟨k, Ab, Au, cb, cu, mid, bd, us, hk, rfl, rfl, rfl, hok, hbd, hus2, hib, hown, hmid, hb, xq, hsz⟩ := hrel
        have HO := Lib.hid hok
        clear hok
        have hk0 : (0 : Int) ≤ (k : Int) := by omega
        by_cases hlt : k < p.length
        · have hk1 : (k : Int) < (p.length : Int) := by omega
          generalize hf : p.getD k (0, 0) = f
          obtain ⟨a, m⟩ := f
          have HFD := Lib.hid hf
          have SN := Lib.hid (take_snoc p hlt hf)
          have hul : us.length = k := by rw [hus2.out, List.length_map, List.length_take]; omega
          have HUL := Lib.hid hul
          have hul2 : us.length ≤ 4 := by omega
          obtain ⟨b, off, rfl, n0, z0, z1⟩ := HZ.out.at_ hlt hf
          have e0 := (hb.out.cell (p := ⟨b, off + k * 2, none⟩) n0).trans z0
          have e1 := (hb.out.cell (p := ⟨b, off + k * 2 + 1, none⟩) n0).trans z1
          have n1 : b < wr.heap.size := by have := hb.out.size; omega
          have p1 := xq.out.cell 1
          simp only [List.getElem?_toArray, List.getElem?_cons_zero, List.getElem?_cons_succ] at p1
          have k0 := cell_regrown e0
          have k1 := cell_regrown e1
          have kq := cell_regrown p1
          have RU := Lib.hid (show RI wr Au us from (ints_own hown.out (Nat.zero_le _)))
          have hbl : bd.length ≤ 8 := by have := wl_len 10 17 (terms (called l (p.take k))); rw [hbd.out]; unfold bnd; omega
          clear hf hul
          by_cases c1 : inB a 0 ((l.length : Int) - 1) = true
          · have C1 := Lib.hid c1
            have XI1 := Lib.hid fun (W : World) (hW : Below wr.heap.size wr W) => (show Calls Try.prog 49 #[.int .i64 a, .int .i64 0, .int .i64 ((l.length : Int) - 1)] W fun e w' => e = .returned (.bool true) ∧ Below W.heap.size W w' from (l1In_any a 0 ((l.length : Int) - 1) W).mono fun _ _ ⟨h1, h2⟩ => ⟨by rw [h1, C1.out], h2 ▸ Below.refl _ _⟩)
            by_cases c2 : usedB (p.take k) a = true
            · have C2 := Lib.hid (show decide (a ∈ us) = true by rw [hus2.out]; exact c2)
              have U2 := Lib.hid c2
              have XHS := Lib.hid fun (W : World) (hW : Below wr.heap.size wr W) => (show Calls Try.prog 50 #[.slice Au us.length cu, .int .i64 a] W fun e w' => e = .returned (.bool true) ∧ Below W.heap.size W w' from (l2Has_any 0 W.heap.size Au cu us a (by omega) W (RU.out.step hW)).mono fun _ _ ⟨h1, h2⟩ => ⟨by rw [h1, C2.out], h2 ▸ Below.refl _ _⟩)
              obtain ⟨ka, rfl, hka⟩ := inB_nat c1
              clear c1 c2
              go_wp2
              refine wp_region_quiet_below (by kernel_rfl) (by kernel_rfl) ?_
              repeat (go_big_quiet_step (first | (go_at_call 49; with_reducible exact Calls.regrown_of (XI1.out _ (below_regrown _ _ _))) | (go_at_call 50; with_reducible exact Calls.regrown_of (XHS.out _ (below_regrown _ _ _)))))
              refine wpQuiet_nil ?_
              intro u2 hw'
              have b6 : Below wr.heap.size wr u2 := by obtain ⟨⟨dq, osq⟩, rfl⟩ := hw'; exact below_regrown _ _ _
              have T6 := Lib.hid (step hb.out b6)
              clear hw' k0 k1 kq
              go_wp2
              go_ret
              exact ⟨ret_bool (ordN_not ms l p k _ hlt (by rw [HFD.out]; exact step_no2 U2.out)).symm, T6.out⟩
            · have C2 := Lib.hid (show decide (a ∈ us) = false by rw [hus2.out]; simpa [usedB] using c2)
              have U2 := Lib.hid (show usedB (p.take k) a = false by simpa using c2)
              have XHS := Lib.hid fun (W : World) (hW : Below wr.heap.size wr W) => (show Calls Try.prog 50 #[.slice Au us.length cu, .int .i64 a] W fun e w' => e = .returned (.bool false) ∧ Below W.heap.size W w' from (l2Has_any 0 W.heap.size Au cu us a (by omega) W (RU.out.step hW)).mono fun _ _ ⟨h1, h2⟩ => ⟨by rw [h1, C2.out], h2 ▸ Below.refl _ _⟩)
              obtain ⟨ka, rfl, hka⟩ := inB_nat c1
              clear c1 c2
              by_cases c3 : inB m 0 ((ms.length : Int) - 1) = true
              · have C3 := Lib.hid c3
                have XI2 := Lib.hid fun (W : World) (hW : Below wr.heap.size wr W) => (show Calls Try.prog 49 #[.int .i64 m, .int .i64 0, .int .i64 ((ms.length : Int) - 1)] W fun e w' => e = .returned (.bool true) ∧ Below W.heap.size W w' from (l1In_any m 0 ((ms.length : Int) - 1) W).mono fun _ _ ⟨h1, h2⟩ => ⟨by rw [h1, C3.out], h2 ▸ Below.refl _ _⟩)
                obtain ⟨km, rfl, hkm⟩ := inB_nat c3
                clear c3
                generalize hfm : ms.getD km noM = fm
                obtain ⟨r, inp, li, cs', qu⟩ := fm
                have hil2 : inp.length ≤ 1048576 := by have := szM_elem hzm hkm; rw [hfm] at this; exact this
                obtain ⟨bm, om, C, cc, rfl, nm, f0, f1, f2, f3, f4, _, _, hIm⟩ := HM.out.at_ hkm hfm
                generalize hgf : l.getD ka noF = gf
                obtain ⟨ra, ts⟩ := gf
                have hts : ts.length ≤ 3 := by have := HFW.out.2 ka hka; rw [hgf] at this; exact this
                obtain ⟨bq, oq, B, cB, rfl, nq, g0, g1, hxc, hcm, hJx⟩ := HF.out.at_ hka hgf
                have G0 := (hb.out.cell (p := ⟨bq, oq + ka * 2, none⟩) nq).trans g0
                have G1 := (hb.out.cell (p := ⟨bq, oq + ka * 2 + 1, none⟩) nq).trans g1
                have a0 := cell_regrown G0
                have a1 := cell_regrown G1
                have m0 := cell_regrown ((hb.out.cell (p := ⟨bm, om + km * 5, none⟩) nm).trans f0)
                have m1 := cell_regrown ((hb.out.cell (p := ⟨bm, om + km * 5 + 1, none⟩) nm).trans f1)
                have m2 := cell_regrown ((hb.out.cell (p := ⟨bm, om + km * 5 + 2, none⟩) nm).trans f2)
                have m3 := cell_regrown ((hb.out.cell (p := ⟨bm, om + km * 5 + 3, none⟩) nm).trans f3)
                have m4 := cell_regrown ((hb.out.cell (p := ⟨bm, om + km * 5 + 4, none⟩) nm).trans f4)
                have HIm := Lib.hid (show RI w C inp from hIm)
                have HJx := Lib.hid (show RI w B ts from hJx)
                have RBd := Lib.hid (show RI wr Ab bd from hib.out.mono (Nat.zero_le _) (Nat.le_refl _))
                have XCC := Lib.hid fun (W : World) (hW : Below wr.heap.size wr W) => (show Calls Try.prog 51 #[.agg #[.int .i64 r, .slice C inp.length cc, .int .i64 li, .int .i64 cs', .int .i64 qu], .agg #[.int .i64 ra, .slice B ts.length cB], .slice Ab bd.length cb] W fun e w' => e = .returned (.bool (canB r inp ra ts bd)) ∧ Below W.heap.size W w' from spec_CanCall r inp li cs' qu C cc ra ts B cB Ab cb bd hil2 (by omega) (by omega) W (HIm.out.step (step hb.out hW)) (HJx.out.step (step hb.out hW)) (RBd.out.step hW))
                have SO := Lib.hid (show stepOk ms l (p.take k) ((ka : Int), (km : Int)) = canB r inp ra ts bd by rw [step_can (inB_len hka) U2.out (inB_len hkm) hfm hgf, hbd.out])
                have CK := Lib.hid (show bnd l (p.take (k + 1)) = wl 10 17 (terms (called l (p.take k)) ++ ts) by unfold bnd; rw [called_take l p hlt HFD.out hgf, terms_snoc])
                have hka0 : (0 : Int) ≤ (ka : Int) := by omega
                have hka1 : (ka : Int) < (l.length : Int) := by omega
                have hkm0 : (0 : Int) ≤ (km : Int) := by omega
                have hkm1 : (km : Int) < (ms.length : Int) := by omega
                generalize hq : canB r inp ra ts bd = q at XCC SO
                have GG0 := Lib.hid g0
                have GG1 := Lib.hid g1
                clear hfm hgf hIm hJx f0 f1 f2 f3 f4 g0 g1 hq
                cases q
                · skip
                  go_wp2
                  refine wp_region_quiet_below (by kernel_rfl) (by kernel_rfl) ?_
                  repeat (go_big_quiet_step (first | (go_at_call 49; with_reducible exact Calls.regrown_of (XI1.out _ (below_regrown _ _ _))) | (go_at_call 50; with_reducible exact Calls.regrown_of (XHS.out _ (below_regrown _ _ _))) | (go_at_call 49; with_reducible exact Calls.regrown_of (XI2.out _ (below_regrown _ _ _))) | (go_at_call 51; with_reducible exact Calls.regrown_of (XCC.out _ (below_regrown _ _ _)))))
                  refine wpQuiet_nil ?_
                  intro u2 hw'
                  have b6 : Below wr.heap.size wr u2 := by obtain ⟨⟨dq, osq⟩, rfl⟩ := hw'; exact below_regrown _ _ _
                  have T6 := Lib.hid (step hb.out b6)
                  clear hw' k0 k1 kq a0 a1 m0 m1 m2 m3 m4
                  go_wp2
                  go_ret
                  exact ⟨ret_bool (ordN_not ms l p k _ hlt (by rw [HFD.out]; exact SO.out)).symm, T6.out⟩
                · skip
                  go_wp2
                  refine wp_region_quiet_below (by kernel_rfl) (by kernel_rfl) ?_
                  repeat (go_big_quiet_step (first | (go_at_call 49; with_reducible exact Calls.regrown_of (XI1.out _ (below_regrown _ _ _))) | (go_at_call 50; with_reducible exact Calls.regrown_of (XHS.out _ (below_regrown _ _ _))) | (go_at_call 49; with_reducible exact Calls.regrown_of (XI2.out _ (below_regrown _ _ _))) | (go_at_call 51; with_reducible exact Calls.regrown_of (XCC.out _ (below_regrown _ _ _)))))
                  refine wpQuiet_nil ?_
                  intro u2 hw'
                  have b6 : Below wr.heap.size wr u2 := by obtain ⟨⟨dq, osq⟩, rfl⟩ := hw'; exact below_regrown _ _ _
                  have T6 := Lib.hid (step hb.out b6)
                  clear hw' k0 k1 kq a0 a1 m0 m1 m2 m3 m4
                  have e0' := (b6.cell (p := ⟨b, off + k * 2, none⟩) n1).trans e0
                  have O6 := Lib.hid (ownsRow_step hown.out b6)
                  have I6 := Lib.hid (hib.out.mono (Nat.le_refl _) (Nat.le_refl _))
                  have I6b := Lib.hid (show Ints u2 mid u2.heap.size Ab bd from (hib.out.below b6 (Nat.le_refl _)).mono (Nat.le_refl _) b6.size)
                  have XQ6 := Lib.hid (xq.out.step b6)
                  have SZ6 : u.heap.size ≤ u2.heap.size := by have := b6.size; omega
                  have hw0 : w.heap.size ≤ u2.heap.size := by omega
                  clear e0 e1 G0 G1 b6 I6
                  go_wp2_with (at_builtin; refine wpList_pushI rfl _ _ _ 3 rfl i0 Try.underlying22 hi hz0 hz1 hz2 rfl rfl rfl O6.out SZ6 (by omega) ?_; intro v' w5 hown5 hg5; obtain ⟨A5, c5, rfl⟩ := ownsRow_form hown5
                               have B7 := Lib.hid (show Below w.heap.size w w5 from T6.out.grown hg5 hw0 (fun q hq => by have := (O6.out.lt q hq).1; omega))
                               have I7 := Lib.hid (I6b.out.grown hg5 hmid.out)
                               have XQ7 := Lib.hid (show Box w5 w.heap.size #[.slice H hs.length ch, .slice (some ⟨bq, oq, none⟩) l.length c] 37 from (hg5.block w.heap.size (by have := XQ6.out.lt; omega) (by intro e; have := (O6.out.lt _ e.symm).1; omega)).trans XQ6.out)
                               have SZ7 : u.heap.size ≤ w5.heap.size := by have := hg5.size; omega
                               have O7 := Lib.hid hown5
                               clear hown5 hg5)
                  clear O6 I6b XQ6 T6 SZ6
                  have e5 := (B7.out.cell (p := ⟨b, off + k * 2, none⟩) (by omega)).trans z0
                  have gg0 := GG0.out
                  have gg1 := GG1.out
                  have g5 := (B7.out.cell (p := ⟨bq, oq + ka * 2, none⟩) nq).trans gg0
                  have g6 := (B7.out.cell (p := ⟨bq, oq + ka * 2 + 1, none⟩) nq).trans gg1
                  have q5 := XQ7.out.cell 1
                  simp only [List.getElem?_toArray, List.getElem?_cons_zero, List.getElem?_cons_succ] at q5
                  have nb5 : b < w5.heap.size := by omega
                  have nq5 : bq < w5.heap.size := by omega
                  have nw5 : w.heap.size < w5.heap.size := XQ7.out.lt
                  have XLB := Lib.hid fun (W : World) (hW : Below w5.heap.size w5 W) => l6Bind_any Ab cb bd (terms (called l (p.take k))) ra ts B cB hbd.out (by omega) W ((show RI w5 Ab bd from I7.out.mono (Nat.zero_le _) (Nat.le_refl _)).step hW) (HJx.out.step (step B7.out hW))
                  have US := Lib.hid (show us ++ [(ka : Int)] = (p.take (k + 1)).map Prod.fst by rw [SN.out, firsts_snoc, hus2.out])
                  have UL := Lib.hid (show (us ++ [(ka : Int)]).length = us.length + 1 by simp)
                  have UM := Lib.hid (show (us ++ [(ka : Int)]).map (Value.int .i64) = us.map (Value.int .i64) ++ [.int .i64 (ka : Int)] by simp)
                  go_wp2
                  have tok1 : True := trivial
                  go_region_held3 (fun w' => w'.cell? ⟨w.heap.size, 1, none⟩ = some (.slice (some ⟨bq, oq, none⟩) l.length c) ∧ w'.cell? ⟨b, off + k * 2, none⟩ = some (.int .i64 (ka : Int)) ∧ w'.cell? ⟨bq, oq + ka * 2, none⟩ = some (.int .i64 ra) ∧ w'.cell? ⟨bq, oq + ka * 2 + 1, none⟩ = some (.slice B ts.length cB))
                    (first
                      | go_keep
                      | (go_split_ands; refine ⟨?_, ?_, ?_, ?_⟩ <;> (rw [d1.cell (by (try simp) <;> omega)]; assumption)))
                    (first
                      | (go_at_call 52
                         clear tok1
                         refine (XLB.out _ (by first | exact Below.refl _ _ | exact below_drew _)).mono ?_
                         rintro e u6 ⟨A8, c8, rfl, hI8, d1⟩
                         have b8 : Below w5.heap.size w5 u6 := by first | exact d1 | exact und d1 | exact undN d1
                         have I8 := Lib.hid hI8
                         have sz8 := b8.size
                         clear hI8))
                  have T8 := Lib.hid (step B7.out b8)
                  have O8 := Lib.hid (ownsRow_step O7.out b8)
                  have XQ8 := Lib.hid (XQ7.out.step b8)
                  have M8 := Lib.hid (show ∀ g, (Value.slice A5 (us.length + 1) c5).ownBlock = some g → g < w5.heap.size from fun g hg => (O7.out.lt g hg).2)
                  have EB := Lib.hid CK.out.symm
                  generalize wl 10 17 (terms (called l (p.take k)) ++ ts) = bd8 at I8 EB ⊢
                  have hsz8 : u.heap.size ≤ u6.heap.size := by omega
                  clear e5 g5 g6 q5 d1 b8 gg0 gg1
                  go_wp2
                  go_roundw
                  case rel => exact ⟨k + 1, A8, A5, c8, c5, w5.heap.size, bd8, us ++ [(ka : Int)], by omega, by go_num, rfl, by rw [UL.out], by rw [ordN_succ, HO.out, HFD.out, SO.out]; rfl, EB, US, by first | exact I8 | exact Lib.hid (I8.out.below (below_drew _) (Nat.le_refl _)), by rw [UL.out, UM.out]; first | exact O8 | exact Lib.hid O8.out.drew, by rw [UL.out]; exact M8, by first | exact T8 | exact Lib.hid T8.out.drew, by first | exact XQ8 | exact Lib.hid (XQ8.out.step (below_drew _)), by first | exact hsz8 | simpa using hsz8⟩
                  case measure => simp [intOf]; omega
              · have C3 := Lib.hid (show inB m 0 ((ms.length : Int) - 1) = false by simpa using c3)
                have XI2 := Lib.hid fun (W : World) (hW : Below wr.heap.size wr W) => (show Calls Try.prog 49 #[.int .i64 m, .int .i64 0, .int .i64 ((ms.length : Int) - 1)] W fun e w' => e = .returned (.bool false) ∧ Below W.heap.size W w' from (l1In_any m 0 ((ms.length : Int) - 1) W).mono fun _ _ ⟨h1, h2⟩ => ⟨by rw [h1, C3.out], h2 ▸ Below.refl _ _⟩)
                clear c3
                go_wp2
                refine wp_region_quiet_below (by kernel_rfl) (by kernel_rfl) ?_
                repeat (go_big_quiet_step (first | (go_at_call 49; with_reducible exact Calls.regrown_of (XI1.out _ (below_regrown _ _ _))) | (go_at_call 50; with_reducible exact Calls.regrown_of (XHS.out _ (below_regrown _ _ _))) | (go_at_call 49; with_reducible exact Calls.regrown_of (XI2.out _ (below_regrown _ _ _)))))
                refine wpQuiet_nil ?_
                intro u2 hw'
                have b6 : Below wr.heap.size wr u2 := by obtain ⟨⟨dq, osq⟩, rfl⟩ := hw'; exact below_regrown _ _ _
                have T6 := Lib.hid (step hb.out b6)
                clear hw' k0 k1 kq
                go_wp2
                go_ret
                exact ⟨ret_bool (ordN_not ms l p k _ hlt (by rw [HFD.out]; exact step_no3 C3.out)).symm, T6.out⟩
          · have C1 := Lib.hid (show inB a 0 ((l.length : Int) - 1) = false by simpa using c1)
            have XI1 := Lib.hid fun (W : World) (hW : Below wr.heap.size wr W) => (show Calls Try.prog 49 #[.int .i64 a, .int .i64 0, .int .i64 ((l.length : Int) - 1)] W fun e w' => e = .returned (.bool false) ∧ Below W.heap.size W w' from (l1In_any a 0 ((l.length : Int) - 1) W).mono fun _ _ ⟨h1, h2⟩ => ⟨by rw [h1, C1.out], h2 ▸ Below.refl _ _⟩)
            clear c1
            go_wp2
            refine wp_region_quiet_below (by kernel_rfl) (by kernel_rfl) ?_
            repeat (go_big_quiet_step (first | (go_at_call 49; with_reducible exact Calls.regrown_of (XI1.out _ (below_regrown _ _ _)))))
            refine wpQuiet_nil ?_
            intro u2 hw'
            have b6 : Below wr.heap.size wr u2 := by obtain ⟨⟨dq, osq⟩, rfl⟩ := hw'; exact below_regrown _ _ _
            have T6 := Lib.hid (step hb.out b6)
            clear hw' k0 k1 kq
            go_wp2
            go_ret
            exact ⟨ret_bool (ordN_not ms l p k _ hlt (by rw [HFD.out]; exact step_no1 C1.out)).symm, T6.out⟩
        · obtain rfl : k = p.length := by omega
          go_wp2
          go_ret
          exact ⟨ret_bool HO.out.symm, hb.out⟩
    · have E := Lib.hid (show ordB s ms hs l p = false by unfold ordB; rw [decide_eq_false hn]; simp)
      have d1 : ((p.length : Int) == (l.length : Int)) = false := by simp; omega
      have d2 : ((p.length : Int) != (l.length : Int)) = true := by simp; omega
      rw [E.out]
      clear ha hn
      go_enter Try.func14, Try.ntmps14
      go_wp2_with fail
      refine X1.out.mono ?_
      rintro e u ⟨he, d⟩
      rw [HA.out] at he
      subst he
      have D := Lib.hid (step B0.out d)
      have XQ2 := Lib.hid (XQ.out.step d)
      have q0 := XQ2.out.cell 0
      have q1 := XQ2.out.cell 1
      simp only [List.getElem?_toArray, List.getElem?_cons_zero, List.getElem?_cons_succ] at q0 q1
      clear d
      go_wp2
      go_ret
      exact ⟨rfl, D.out⟩
  · have HA := Lib.hid (show fineB s ms hs l = false by simpa using ha)
    have E := Lib.hid (show ordB s ms hs l p = false by unfold ordB; rw [show (aremB s ms && queryB s hs l) = false from HA.out]; simp)
    rw [E.out]
    clear ha
    go_enter Try.func14, Try.ntmps14
    go_wp2_with fail
    refine X1.out.mono ?_
    rintro e u ⟨he, d⟩
    rw [HA.out] at he
    subst he
    have D := Lib.hid (step B0.out d)
    clear d
    go_wp2
    go_ret
    exact ⟨rfl, D.out⟩
end Go.Proofs.Ytighalbnpgmdfaa
