/- What the model's FreezeQuery answers. Conditions: none beyond each theorem's own. -/
import Derived.Test.YtimlpdcambmcjaaGreatS32
import Derived.Deep.Cut

namespace Go.Proofs.YtimlpdcambmcjaaGreat
open Go.ChangeShapes Go.WideShapes Go.ChangeAt Go.RowKit Go.Sort
set_option linter.unusedVariables false
set_option linter.unusedSimpArgs false

/-- A call of three arguments as one step of a region that draws. -/
theorem callV3 {P : Program} {ops : Array Oper} {o : Oper} {a : Act} {w : World} {K : Act → World → Prop} {Q : Exit → Act → World → Prop} {E : Prop}
    (hgd : o.guard = none) (g : FuncId) (x y z : Operand) (t t' t'' : TypeId) (ho : o.op = .call { callee := .value (.func g), args := #[x, y, z], argTypes := #[t, t', t''] })
    (vx vy vz : Value) (hx : a.eval x = vx) (hy : a.eval y = vy) (hz : a.eval z = vz) (hcf : (callFunc g #[vx, vy, vz]).run P w = .ok (.enter g #[vx, vy, vz]) w) {R : Value → World → Prop} (hc : Calls P g #[vx, vy, vz] w fun e w' => ∃ v, e = .returned v ∧ R v w') (hK : ∀ v w', R v w' → K (a.put o.dst v) w') :
    if Region.wanted o (yielded ops a.tmps) = true then Oper.wp P o a w K Q else E := by
  have hw : Region.wanted o (yielded ops a.tmps) = true := by simp [Region.wanted, hgd]
  rw [if_pos hw]
  unfold Oper.wp
  have e : (execOp a.eval o).run P w = .ok (.enter g #[vx, vy, vz]) w := by
    rw [← hx, ← hy, ← hz] at hcf ⊢
    simpa [go_sem, execOp, ho, resolve, invoke] using hcf
  rw [e, Oper.upon_enter]
  refine hc.mono ?_
  rintro _ w' ⟨v, rfl, d⟩
  exact hK v w' d


set_option maxRecDepth 100000 in
set_option maxHeartbeats 8000000 in
theorem spec_FreezeQuery_t (H Q : Option Addr) (ch c : Nat) (hs : List Int) (l : FL) (hh : hs.length ≤ 1048576) (hz : szF l ≤ 1048576) (w : World) (hq : RF w Q l) :
    Calls Tryz.prog 120 #[.agg #[.slice H hs.length ch, .slice Q l.length c]] w (FzT w (frzR (wl 0 9 (terms l)) (wl 10 17 (terms l)) l) (frzL (wl 0 9 (terms l)) (wl 10 17 (terms l))) (frzV (wl 0 9 (terms l)) (wl 10 17 (terms l))) (frzO (wl 0 9 (terms l)) (wl 10 17 (terms l)))) := by
  obtain ⟨i0, hi, hz0, hz1, hz2⟩ := info_parts int_info
  have hl := szF_len hz
  have hl' : (l.length : Int) ≤ 1048576 := by omega
  obtain ⟨w0, hw0⟩ : ∃ W, W = (w.alloc (.cells #[.slice H hs.length ch, .slice Q l.length c] 29)).alloc (.cells #[.slice none 0 0, .slice none 0 0] 100) := ⟨_, rfl⟩
  have E0 := Lib.hid hw0
  have S0 : w.heap.size + 2 ≤ w0.heap.size := by rw [hw0, al_size, al_size]; omega
  have B0 := Lib.hid (show Below w.heap.size w w0 by rw [hw0]; exact step (below_alloc w _) (below_alloc _ _))
  have X0 := Lib.hid (show Box w0 w.heap.size #[.slice H hs.length ch, .slice Q l.length c] 29 by rw [hw0]; exact (Box.new w _ _).step (below_alloc _ _))
  have R0 := Lib.hid (show Box w0 (w.heap.size + 1) #[.slice none 0 0, .slice none 0 0] 100 by
    rw [hw0]
    have h := Box.new (w.alloc (.cells #[.slice H hs.length ch, .slice Q l.length c] 29)) #[.slice none 0 0, .slice none 0 0] 100
    rwa [al_size] at h)
  have XC := Lib.hid (spec_ConstantsOf H Q ch c hs l hz w0 (hq.step B0.out))
  have XV := Lib.hid fun (W : World) (b : Below w.heap.size w W) => spec_VarsOf H Q ch c hs l hz W (hq.step b)
  have HQ := Lib.hid hq
  have hcl := wl_len 0 9 (terms l)
  have hvl := wl_len 10 17 (terms l)
  have hcm := fun x h => ((wl_mem 0 9 (terms l) x).1 h).2
  generalize wl 0 9 (terms l) = used at XC hcl hcm ⊢
  generalize wl 10 17 (terms l) = us at XV hvl ⊢
  have hul : used.length ≤ 10 := by omega
  have hvl2 : us.length ≤ 8 := by omega
  have HC := Lib.hid hcm
  clear hq hw0 hcl hvl hcm
  go_enter Tryz.func120, Tryz.ntmps120
  go_wp2_with fail
  rw [← E0.out]
  refine XC.out.mono ?_
  rintro e u1 ⟨A1, c1, rfl, ho1, d1⟩
  have B1 := Lib.hid (step B0.out d1)
  have X1 := Lib.hid (X0.out.step d1)
  have R1 := Lib.hid (R0.out.step d1)
  have T1 := Lib.hid (show RI u1 A1 used from ho1.mono (Nat.zero_le _) (Nat.le_refl _))
  have s1 := d1.size
  have x02 := X1.out.cell 0
  have x12 := X1.out.cell 1
  simp only [List.getElem?_toArray, List.getElem?_cons_zero, List.getElem?_cons_succ] at x02 x12
  clear ho1 d1
  go_wp2_with fail
  refine (XV.out _ B1.out).mono ?_
  rintro e u3 ⟨V3, c3, rfl, ho3, d3⟩
  have B3 := Lib.hid (step B1.out d3)
  have X3 := Lib.hid (X1.out.step d3)
  have R3 := Lib.hid (R1.out.step d3)
  have T3 := Lib.hid (T1.out.step d3)
  have U3 := Lib.hid (show RI u3 V3 us from ho3.mono (Nat.zero_le _) (Nat.le_refl _))
  have s3 := d3.size
  clear ho3 d3 x02 x12
  obtain ⟨gb, hgb⟩ : ∃ g, g = u3.heap.size := ⟨_, rfl⟩
  have h4 := below_alloc u3 (.cells #[.slice none 0 0, .slice none 0 0] 100)
  have Y4 := Lib.hid (show Box (u3.alloc (.cells #[.slice none 0 0, .slice none 0 0] 100)) gb #[.slice none ([] : List Int).length 0, .slice none ([] : List Int).length 0] 100 by rw [hgb]; exact Box.new _ _ _)
  have D4 := Lib.hid (show Below gb u3 (u3.alloc (.cells #[.slice none 0 0, .slice none 0 0] 100)) by rw [hgb]; exact h4)
  have S4 : gb + 1 ≤ (u3.alloc (.cells #[.slice none 0 0, .slice none 0 0] 100)).heap.size := by rw [al_size, hgb]; exact Nat.le_refl _
  have GB := Lib.hid hgb
  have gl : w.heap.size + 2 ≤ gb := by omega
  clear h4
  go_wp2
  rw [← hgb]
  obtain ⟨w4, hw4⟩ : ∃ W, W = u3.alloc (.cells #[.slice none 0 0, .slice none 0 0] 100) := ⟨_, rfl⟩
  rw [← hw4] at Y4 D4 S4 ⊢
  clear hw4 hgb
  go_loopw [8, 9] (fun nx i wr => ∃ (n m : Nat) (tk vs : List Int) (X Y : Option Addr) (cx cy : Nat), m ≤ us.length ∧ n ≤ 10 ∧ nx = .int .i64 n ∧ i = .int .i64 m ∧ Hid (tk = us.take m) ∧ Hid (tk.length = m) ∧ Hid (vs = frV used n) ∧ Hid (vs.length = m) ∧ Box wr gb #[.slice X tk.length cx, .slice Y vs.length cy] 100 ∧ Hid (RW wr X tk) ∧ Hid (RW wr Y vs) ∧ Hid (Below gb u3 wr) ∧ gb + 1 ≤ wr.heap.size) (fun _ i _ => us.length - (intOf i).toNat)
  case atStart => exact ⟨0, 0, [], [], none, none, 0, 0, by omega, by omega, rfl, rfl, Lib.hid rfl, Lib.hid rfl, Lib.hid rfl, Lib.hid rfl, Y4.out, Lib.hid (RW.nil _ _), Lib.hid (RW.nil _ _), D4, S4⟩
  case round =>
    obtain ⟨n, m, tk, vs, X, Y, cx, cy, hm, hn, rfl, rfl, hT, hTl, hV, hVl, hY0, hX5, hY5, hD, hsz⟩ := hrel
    have hY := Lib.hid hY0
    clear hY0
    have y0 := hY.out.cell 0
    have y1 := hY.out.cell 1
    have y2 := hY.out.frozen 0
    have y3 := hY.out.frozen 1
    simp only [List.getElem?_toArray, List.getElem?_cons_zero, List.getElem?_cons_succ] at y0 y1
    have DW := Lib.hid (show Below u3.heap.size u3 wr by have := hD.out; rwa [GB.out] at this)
    have R5 := Lib.hid (show Box wr (w.heap.size + 1) #[.slice none 0 0, .slice none 0 0] 100 from (hD.out.block _ (by omega)).trans R3.out)
    have B5 := Lib.hid (B3.out.trans (hD.out.mono (by omega)))
    have hm0 : (0 : Int) ≤ (m : Int) := by omega
    by_cases hlt : m < us.length
    · have hm1 : (m : Int) < (us.length : Int) := by omega
      go_wp2
      generalize wr = wo at *
      go_loop [8] (fun nx => ∃ n : Nat, n ≤ 10 ∧ nx = .int .i64 n ∧ Hid (vs = frV used n)) (fun nx => 10 - (intOf nx).toNat)
      case atStart => exact ⟨n, hn, rfl, hV⟩
      case round =>
        clear hV hn
        obtain ⟨n, hn, rfl, hV⟩ := hrel
        have XH := Lib.hid (l2Has_any _ _ A1 c1 used n (by omega) wo (T3.out.step DW.out))
        by_cases hc : decide ((n : Int) ∈ used) = true
        · have C := Lib.hid hc
          have E := Lib.hid (show vs = frV used (n + 1) by rw [frV_used hc]; exact hV.out)
          have hn9 : (n : Int) ≤ 9 := by have := HC.out _ (by simpa using hc); simp [inB] at this; omega
          clear hc
          go_wp2_with fail
          refine XH.out.mono ?_
          rintro e w1 ⟨he, rfl⟩
          rw [C.out] at he
          subst he
          go_wp2
          go_round
          case rel => exact ⟨n + 1, by omega, by go_num, E⟩
          case measure => simp [intOf]; omega
        · have C := Lib.hid (show decide ((n : Int) ∈ used) = false by simpa using hc)
          clear hc
          by_cases hn9 : n = 10
          · have hg9 : (9 : Int) < (n : Int) := by omega
            have FN := Lib.hid (frz_no (used := used) (vars := us) l (by rw [← hn9, ← hV.out, hVl.out]; exact hlt))
            have r0 := R5.out.cell 0
            have r1 := R5.out.cell 1
            have r2 := R5.out.frozen 0
            have r3 := R5.out.frozen 1
            have rl := R5.out.lt
            simp only [List.getElem?_toArray, List.getElem?_cons_zero, List.getElem?_cons_succ] at r0 r1
            clear hn9
            go_wp2_with fail
            refine XH.out.mono ?_
            rintro e w1 ⟨he, rfl⟩
            rw [C.out] at he
            subst he
            go_wp2
            refine bodyPost_ret (v := .tuple #[.slice (some ⟨wo.heap.size, 0, none⟩) 0 0, .agg #[.slice none 0 0, .slice none 0 0], .bool false]) (by simp [results, Tryz.results120, go_sem, r0, r1, r2, r3, rl]) rfl ?_
            rw [FN.out.1, FN.out.2.1, FN.out.2.2.1, FN.out.2.2.2]
            refine ⟨some ⟨wo.heap.size, 0, none⟩, 0, none, 0, none, 0, rfl, fun h => absurd rfl h, RW.nil _ _, RW.nil _ _, ?_⟩
            exact step (Below.setCell (Below.setCell B5.out (by (try simp) <;> omega) _) (by (try simp) <;> omega) _) (below_alloc _ _)
          · have hg9 : ¬ (9 : Int) < (n : Int) := by omega
            obtain ⟨b, off, rfl, nb, e0⟩ := (U3.out.step DW.out).at_ hlt
            generalize hx : us.getD m 0 = p at e0
            have TT := Lib.hid (show tk ++ [p] = us.take (m + 1) by rw [takeI us hlt hx, ← hT.out])
            have VT := Lib.hid (show vs ++ [(n : Int)] = frV used (n + 1) by rw [frV_free C.out, ← hV.out])
            have XB := Lib.hid fun (W : World) (d : Below wo.heap.size wo W) => l4Bind_any p (n : Int) X Y cx cy tk vs (by have := hTl.out; omega) (by have := hVl.out; omega) W (hX5.out.ri.step d) (hY5.out.ri.step d)
            have yl := hY.out.lt
            clear hx
            go_wp2_with fail
            refine XH.out.mono ?_
            rintro e w1 ⟨he, rfl⟩
            rw [C.out] at he
            subst he
            go_wp2
            go_region_law (refine callV3 rfl 149 _ _ _ _ _ _ rfl (.agg #[.slice X tk.length cx, .slice Y vs.length cy]) (.int .i64 p) (.int .i64 (n : Int)) rfl rfl rfl (by kernel_rfl) (R := fun v' w' => ∃ X' cx' Y' cy', v' = .agg #[.slice X' (tk.length + 1) cx', .slice Y' (vs.length + 1) cy'] ∧ RW w' X' (tk ++ [p]) ∧ RW w' Y' (vs ++ [(n : Int)]) ∧ Below wo.heap.size wo w') ((XB.out _ (by first | exact Below.refl _ _ | exact below_drew _)).mono (fun e w' h => by
                 obtain ⟨X', cx', Y', cy', e1, e2, e3, e4⟩ := h
                 exact ⟨_, e1, X', cx', Y', cy', rfl, e2, e3, by first | exact e4 | exact und e4 | exact undN e4⟩)) ?_
                           rintro _ u5 ⟨X6, cx6, Y6, cy6, rfl, rx6, ry6, b6⟩
                           have RX := Lib.hid rx6
                           have RY := Lib.hid ry6
                           have D6 := Lib.hid b6
                           have Z6 := Lib.hid (hY.out.step b6)
                           have z0 := Z6.out.cell 0
                           have z1 := Z6.out.cell 1
                           have z2 := Z6.out.frozen 0
                           have z3 := Z6.out.frozen 1
                           have zl := Z6.out.lt
                           simp only [List.getElem?_toArray, List.getElem?_cons_zero, List.getElem?_cons_succ] at z0 z1
                           clear rx6 ry6 b6)
            all_goals
              have z6 := D6.out.size
              clear y0 y1 y2 y3 e0 z0 z1 z2 z3
              go_wp2
              go_roundw
              case rel =>
                refine ⟨n + 1, m + 1, tk ++ [p], vs ++ [(n : Int)], X6, Y6, cx6, cy6, by omega, by omega, by go_num, by go_num, TT, Lib.hid (by rw [List.length_append, hTl.out]; rfl), VT, Lib.hid (by rw [List.length_append, hVl.out]; rfl), ?_, Lib.hid ((RX.out.setBox Z6.out (by decide)).setBox (Z6.out.set 0 _) (by decide)), Lib.hid ((RY.out.setBox Z6.out (by decide)).setBox (Z6.out.set 0 _) (by decide)), Lib.hid (((hD.out.trans (D6.out.mono (by omega))).setCell (Nat.le_refl _) _).setCell (Nat.le_refl _) _), by rw [size2]; omega⟩
                rw [List.length_append, List.length_append]
                exact (Z6.out.set 0 (.slice X6 (tk.length + 1) cx6)).set 1 (.slice Y6 (vs.length + 1) cy6)
              case measure => simp [intOf]; omega
    · obtain rfl : m = us.length := by omega
      have TE := Lib.hid (show tk = us by rw [hT.out, List.take_length])
      have FY := Lib.hid (frz_yes (used := used) (vars := us) l (by
        obtain ⟨rr, hr⟩ := frV_more used n (10 - n)
        rw [show n + (10 - n) = 10 by omega] at hr
        have h2 := hVl.out
        rw [hV.out] at h2
        rw [hr, List.length_append]
        omega))
      have VE := Lib.hid (show vs = (frV used 10).take us.length by rw [hV.out]; exact (frV_take used hn (by rw [← hV.out]; exact hVl.out)).symm)
      have X5 := Lib.hid (show Box wr w.heap.size #[.slice H hs.length ch, .slice Q l.length c] 29 from (hD.out.block _ (by omega)).trans X3.out)
      have hul2 : us.length ≤ 1048576 := by omega
      have hvl3 : vs.length ≤ 1048576 := by have := hVl.out; omega
      have HX := Lib.hid (show RI wr X us by rw [← TE.out]; exact hX5.out.ri)
      have HY := Lib.hid hY5.out.ri
      have HXW := Lib.hid (show RW wr X us by rw [← TE.out]; exact hX5.out)
      have HYW := Lib.hid hY5.out
      have hY9 := Lib.hid (show Box wr gb #[.slice X us.length cx, .slice Y vs.length cy] 100 by have h := hY.out; rwa [TE.out] at h)
      clear hT hTl hV hX5 hY5 hY y0 y1 y2 y3 TE
      generalize wr = wq at *
      go_wp2
      go_loopw [10, 11, 12, 13] (fun o i _ _ wr => ∃ (k : Nat) (AF : Option Addr) (cF lo hi' : Nat) (F : FL), k ≤ l.length ∧ i = .int .i64 k ∧ o = .slice AF F.length cF ∧ Hid (F = frzF us vs (l.take k)) ∧ Hid (POf wr lo hi' AF cF F) ∧ wq.heap.size ≤ lo ∧ Hid (Below wq.heap.size wq wr)) (fun _ i _ _ _ => l.length - (intOf i).toNat)
      case atStart => exact ⟨0, some ⟨wq.heap.size, 0, none⟩, 0, wq.heap.size, wq.heap.size, [], by omega, rfl, rfl, Lib.hid rfl, Lib.hid ⟨by rw [al_size]; omega, .inl rfl⟩, Nat.le_refl _, Lib.hid (below_alloc _ _)⟩
      case round =>
        obtain ⟨k, AF, cF, lo, hi', F, hk, rfl, rfl, hF, hP, hlo, hB9⟩ := hrel
        have hX := Lib.hid (X5.out.step hB9.out)
        have hY := Lib.hid (hY9.out.step hB9.out)
        have hB := Lib.hid (step B5.out hB9.out)
        have HU := Lib.hid HX.out
        have HV := Lib.hid HY.out
        have x1 := hX.out.cell 1
        simp only [List.getElem?_toArray, List.getElem?_cons_zero, List.getElem?_cons_succ] at x1
        have hk0 : (0 : Int) ≤ (k : Int) := by omega
        by_cases hlt : k < l.length
        · generalize hf : l.getD k (0, []) = f
          obtain ⟨r, xs⟩ := f
          have hxl : xs.length ≤ 1048576 := by have := szF_elem hz hlt; rw [hf] at this; exact this
          have hxl' : (xs.length : Int) ≤ 1048576 := by omega
          have hk1 : (k : Int) < (l.length : Int) := by omega
          have HL := Lib.hid hf
          have FT := Lib.hid (frzF_take us vs l hlt hf)
          obtain ⟨b, off, B, c3, rfl, hb, e0, e1, _, hcm, hJ⟩ := (HQ.out.step hB.out).at_ hlt hf
          have E1 := Lib.hid e1
          have HJ := Lib.hid hJ
          have hyl := hY.out.lt
          have F0 := Lib.hid (Box.new wr #[.int .i64 r, .slice none 0 0] 77)
          obtain ⟨wf, hwf⟩ : ∃ W, W = wr.alloc (.cells #[.int .i64 r, .slice none 0 0] 77) := ⟨_, rfl⟩
          have BF := Lib.hid (show Below wr.heap.size wr wf by rw [hwf]; exact below_alloc _ _)
          have ZF : wr.heap.size + 1 = wf.heap.size := by rw [hwf, al_size]
          rw [← hwf] at F0
          have EF := Lib.hid hwf
          generalize wr = wo at *
          clear hf e1 hJ hwf
          go_wp2_with fail
          go_loopw [13] (fun i wr => ∃ (j : Nat) (A : Option Addr) (ca : Nat), j ≤ xs.length ∧ i = .int .i64 j ∧ Box wr wo.heap.size #[.int .i64 r, .slice A j ca] 77 ∧ wr.ownsRow (wo.heap.size + 1) 3 1 (.slice A j ca) j ((tupV us vs (xs.take j)).map (Value.int .i64)) ∧ Below wo.heap.size wo wr ∧ wo.heap.size + 1 ≤ wr.heap.size) (fun i _ => xs.length - (intOf i).toNat)
          case atStart =>
            rw [← EF.out]
            exact ⟨0, none, 0, by omega, rfl, F0.out, ⟨by simp [tupV], .inl ⟨rfl, rfl⟩⟩, BF.out, by omega⟩
          case round =>
            obtain ⟨j, A, ca, hj, rfl, hG, hown, hb2, hsz⟩ := hrel
            have HG := Lib.hid hG
            have HO := Lib.hid hown
            have HB := Lib.hid hb2
            clear hG hown hb2 x1 e0
            have X3 := Lib.hid (hX.out.step HB.out)
            have Y3 := Lib.hid (hY.out.step HB.out)
            have x1 := X3.out.cell 1
            have y0 := Y3.out.cell 0
            have y1 := Y3.out.cell 1
            have q0 := HG.out.cell 0
            have q1 := HG.out.cell 1
            have q2 := HG.out.frozen 0
            have q3 := HG.out.frozen 1
            simp only [List.getElem?_toArray, List.getElem?_cons_zero, List.getElem?_cons_succ] at x1 y0 y1 q0 q1
            have e1 := (HB.out.cell (p := ⟨b, off + k * 2 + 1, none⟩) hb).trans E1.out
            have hj0 : (0 : Int) ≤ (j : Int) := by omega
            by_cases hjt : j < xs.length
            · have hj1 : (j : Int) < (xs.length : Int) := by omega
              obtain ⟨b2, off2, rfl, nb2, et⟩ := (HJ.out.step HB.out).at_ hjt
              generalize hx : xs.getD j 0 = t at et
              have TT := Lib.hid (tupV_take us vs xs hjt hx)
              have XV := Lib.hid fun (W : World) (b : Below wr.heap.size wr W) => spec_ValueOf X Y cx cy us vs t hul2 hvl3 W (((HU.out.step hB9.out).step HB.out).step b) (((HV.out.step hB9.out).step HB.out).step b)
              generalize bval us vs t = y at TT XV
              clear hx
              go_wp2
              go_region_law (first
                | (refine callV2 rfl 122 _ _ _ _ rfl (.agg #[.slice X us.length cx, .slice Y vs.length cy]) (.int .i64 t) rfl rfl (by kernel_rfl) (R := fun v' w' => v' = .int .i64 y ∧ Below wr.heap.size wr w') ((XV.out _ (by first | exact Below.refl _ _ | exact below_drew _)).mono (fun e w' h => ⟨_, h.1, rfl, by first | exact h.2 | exact und h.2 | exact undN h.2⟩)) ?_
                   rintro _ u5 ⟨rfl, b5⟩
                   have q15 := (b5.cell (p := ⟨wo.heap.size, 1, none⟩) (by (try simp) <;> omega)).trans q1
                   have q35 := (b5.frozen (p := ⟨wo.heap.size, 1, none⟩) (by (try simp) <;> omega)).trans q3
                   have z5 := b5.size
                   have HO5 := Lib.hid (ownsRow_step HO.out b5)
                   have hb5 : Below (wo.heap.size + 1) wr u5 := b5.mono hsz
                   have hz5 : wo.heap.size + 1 ≤ u5.heap.size := by omega
                   have q17 := ((below_alloc u5 (.cells #[.int .i64 y] 3)).cell (p := ⟨wo.heap.size, 1, none⟩) (by (try simp) <;> omega)).trans q15
                   have q37 := ((below_alloc u5 (.cells #[.int .i64 y] 3)).frozen (p := ⟨wo.heap.size, 1, none⟩) (by (try simp) <;> omega)).trans q35)
                | (refine step_pushR rfl _ _ _ 3 rfl i0 Tryz.underlying22 hi (.int .i64 0) 8 hz0 hz1 hz2 rfl (by omega) (wo.heap.size + 1) j _ ((tupV us vs (xs.take j)).map (Value.int .i64)) _ 1 (.int .i64 y) rfl rfl rfl (by first | exact HO5.out.alloc _ | exact (HO5.out.alloc _).drew | exact HO5.out.drew.alloc _) (by first | exact hb5.alloc hz5 _ | exact (hb5.alloc hz5 _).drew | exact hb5.drew.alloc hz5 _) (by (try simp) <;> omega) (by omega) (by simp [Addr.add]) ?_
                   intro v6 u6 hown6 hb6 hz6
                   obtain ⟨A6, c6, rfl⟩ := ownsRow_form hown6
                   have q16 := (hb6.cell (p := ⟨wo.heap.size, 1, none⟩) (by (try simp) <;> omega)).trans q1
                   have q36 := (hb6.frozen (p := ⟨wo.heap.size, 1, none⟩) (by (try simp) <;> omega)).trans q3
                   have z6 := hb6.size
                   have HO6 := Lib.hid hown6
                   clear hown6 hz6))
              all_goals
                clear q15 q35 q16 q36 q17 q37 q0 q1 q2 q3 x1 y0 y1 e1 et
                go_wp2
                go_roundw
                case rel =>
                  refine ⟨j + 1, A6, c6, by omega, by go_num, box_set1 (show Box u6 wo.heap.size #[.int .i64 r, .slice A j ca] 77 from (hb6.block _ (by omega)).trans HG.out), ?_, (HB.out.trans (hb6.mono (by omega))).setCell (Nat.le_refl _) _, by rw [set_size]; omega⟩
                  rw [TT.out, List.map_append]
                  exact ownsRow_set HO6.out (show wo.heap.size < _ by omega)
                case measure => simp [intOf]; omega
            · obtain rfl : j = xs.length := by omega
              have hown2 : wr.ownsRow (wo.heap.size + 1) 3 1 (.slice A xs.length ca) xs.length ((tupV us vs xs).map (Value.int .i64)) := by have := HO.out; rwa [List.take_length] at this
              have RR := row_ri hown2 (tupV_len us vs xs).symm
              have SZ := Lib.hid (szF_frzA us vs l k (by omega) hz)
              have XH := Lib.hid (show Calls Tryz.prog 150 #[.slice AF F.length cF, .agg #[.int .i64 r, .slice A xs.length ca]] wr (AddP wr (addF F r (tupV us vs xs))) by
                have hh := spec_AddFact_r AF cF F r (tupV us vs xs) A ca (by rw [hF.out]; exact SZ.out) (by rw [tupV_len]; omega) wr (hP.out.rf.step HB.out) RR.1
                rwa [tupV_len] at hh)
              clear hown2 RR
              go_wp2_with fail
              refine XH.out.mono ?_
              rintro e w7 h7
              obtain ⟨A7, cap7, rfl, hp7, d7⟩ := h7.toPOf
              have P7 := Lib.hid hp7
              have l7 := hB9.out.size
              have l8 := HB.out.size
              have B7 := Lib.hid (step (step hB9.out HB.out) d7)
              clear h7 hp7 d7 x1 y0 y1 q0 q1 q2 q3 e1
              go_wp2
              go_roundw
              case rel => exact ⟨k + 1, A7, cap7, _, _, _, by omega, by go_num, rfl, Lib.hid (by rw [FT.out, hF.out]), P7, by omega, B7⟩
              case measure => simp [intOf]; omega
        · obtain rfl : k = l.length := by omega
          have FE := Lib.hid (show F = frzF us vs l by rw [hF.out, List.take_length])
          have R8 := Lib.hid (R5.out.step hB9.out)
          have r0 := R8.out.cell 0
          have r1 := R8.out.cell 1
          have r2 := R8.out.frozen 0
          have r3 := R8.out.frozen 1
          have y0 := hY.out.cell 0
          have y1 := hY.out.cell 1
          have rl := R8.out.lt
          simp only [List.getElem?_toArray, List.getElem?_cons_zero, List.getElem?_cons_succ] at r0 r1 y0 y1
          have PX9 := Lib.hid (show RW wr X us from HXW.out.step hB9.out)
          have PY9 := Lib.hid (show RW wr Y vs from HYW.out.step hB9.out)
          go_wp2
          go_region
          all_goals
            go_wp2
            refine bodyPost_ret (v := .tuple #[.slice AF F.length cF, .agg #[.slice X us.length cx, .slice Y vs.length cy], .bool true]) (by simp [results, Tryz.results120, go_sem, r0, r1, r2, r3]) rfl ?_
            rw [FY.out.1, FY.out.2.1, FY.out.2.2.1, FY.out.2.2.2, ← VE.out, ← FE.out]
            have hk : ∀ b, b ≠ w.heap.size + 1 → ((wr.setCell ⟨w.heap.size + 1, 0, none⟩ (.slice X us.length cx)).setCell ⟨w.heap.size + 1, 1, none⟩ (.slice Y vs.length cy)).heap[b]? = wr.heap[b]? := fun b hb =>
              (Below.heap_setCell _ ⟨w.heap.size + 1, 1, none⟩ _ b hb).trans (Below.heap_setCell _ ⟨w.heap.size + 1, 0, none⟩ _ b hb)
            have g2 : Below w.heap.size w ((wr.setCell ⟨w.heap.size + 1, 0, none⟩ (.slice X us.length cx)).setCell ⟨w.heap.size + 1, 1, none⟩ (.slice Y vs.length cy)) := Below.setCell (Below.setCell hB.out (by (try simp) <;> omega) _) (by (try simp) <;> omega) _
            exact frzT_end hP.out (show w.heap.size + 1 < lo by omega) (show w.heap.size ≤ lo by have := B5.out.size; omega) PX9.out PY9.out R8.out hk (size2 wr _ _ _ _) ⟨g2.os, g2.tape, g2.output, g2.size, g2.block⟩
theorem spec_FreezeQuery (H Q : Option Addr) (ch c : Nat) (hs : List Int) (l : FL) (hh : hs.length ≤ 1048576) (hz : szF l ≤ 1048576) (w : World) (hq : RF w Q l) :
    Calls Tryz.prog 120 #[.agg #[.slice H hs.length ch, .slice Q l.length c]] w (FzS w (frzR (wl 0 9 (terms l)) (wl 10 17 (terms l)) l) (frzL (wl 0 9 (terms l)) (wl 10 17 (terms l))) (frzV (wl 0 9 (terms l)) (wl 10 17 (terms l))) (frzO (wl 0 9 (terms l)) (wl 10 17 (terms l)))) :=
  (spec_FreezeQuery_t H Q ch c hs l hh hz w hq).mono fun _ _ h => h.toS
end Go.Proofs.YtimlpdcambmcjaaGreat
