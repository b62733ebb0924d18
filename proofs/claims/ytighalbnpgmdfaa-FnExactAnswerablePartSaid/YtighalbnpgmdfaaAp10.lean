/- Steps by exact methods, of the program. Conditions: none beyond each theorem's own. The model's copies of atoms and queries, and its DropAtom. Conditions: none beyond each theorem's own. -/
import Derived.Test.YtighalbnpgmdfaaAp8
import Derived.Test.YtighalbnpgmdfaaAp9
import Derived.Deep.AppendLies
import Derived.Deep.RegionHeld3

namespace Go.Proofs.Ytighalbnpgmdfaa
open Go.ChangeShapes Go.WideShapes Go.ChangeAt Go.RowKit Go.Sort
set_option linter.unusedVariables false
set_option linter.unusedSimpArgs false

theorem rz_one {w : World} {g : Nat} {a m : Int} (h : Box w g #[.int .i64 a, .int .i64 m] 68) : RZ w (some ⟨g, 0, none⟩) [(a, m)] := fun _ => by
  have c0 := h.cell 0
  have c1 := h.cell 1
  simp only [List.getElem?_toArray, List.getElem?_cons_zero, List.getElem?_cons_succ] at c0 c1
  refine ⟨g, 0, rfl, Nat.zero_le _, h.lt, fun k hk => ?_⟩
  have hk0 : k = 0 := by simpa using hk
  subst hk0
  exact ⟨by simpa using c0, by simpa using c1⟩
theorem exaN_one (ms : ML) (a m : Int) : exaN ms [(a, m)] [(a, m)].length = exaA ms m := by
  show exaN ms [(a, m)] (0 + 1) = _
  rw [exaN_succ]
  simp [exaN]
set_option maxRecDepth 100000 in
set_option maxHeartbeats 1000000 in
theorem byExact1_any (g : Nat) (A : Option Addr) (c : Nat) (ms : ML) (a m : Int) (hz : szM ms ≤ 1048576) (w : World) (h : RM w A ms) (hb : Box w g #[.slice A ms.length c] 33) :
    Calls Try.prog 152 #[.agg #[.int .i64 a, .int .i64 m], .pointer (some ⟨g, 0, none⟩)] w fun e w' => e = .returned (.bool (exaA ms m)) ∧ Below w.heap.size w w' := by
  have b0 := below_alloc w (.cells #[.int .i64 a, .int .i64 m] 68)
  have b1 := below_alloc (w.alloc (.cells #[.int .i64 a, .int .i64 m] 68)) (.cells #[.int .i64 a, .int .i64 m] 68)
  have X1 := (hb.step b0).cell 0
  have gn := hb.lt
  have XS := Box.new w #[.int .i64 a, .int .i64 m] 68
  have s0 := XS.cell 0
  have s1 := XS.cell 1
  simp only [List.getElem?_toArray, List.getElem?_cons_zero, List.getElem?_cons_succ] at X1 s0 s1
  have XE := impl_IsExact A c ms (some ⟨w.heap.size + 1, 0, none⟩) 1 [(a, m)] hz (by simp) _ ((h.step b0).step b1) (by
    have := rz_one (Box.new (w.alloc (.cells #[.int .i64 a, .int .i64 m] 68)) #[.int .i64 a, .int .i64 m] 68)
    rwa [al_size] at this)
  rw [exaN_one] at XE
  have XH := Lib.hid XE
  have B1 := Lib.hid (step b0 b1)
  clear h hb b0 b1 XS XE
  go_enter Try.func152, Try.ntmps152
  go_wp2_with fail
  refine XH.out.mono ?_
  rintro e u ⟨rfl, d⟩
  have D := Lib.hid (step B1.out d)
  clear d
  go_wp2
  go_ret
  exact ⟨rfl, D.out⟩

set_option maxRecDepth 100000 in
set_option maxHeartbeats 4000000 in
theorem nextStepsX_any (O : Option Addr) (co : Nat) (p : SL) (L : Option Addr) (cl : Nat) (ms : ML) (H A : Option Addr) (ch c : Nat) (hs : List Int) (l : FL) (gb : Nat) (hpos : PosA l) (hp : p.length ≤ 4) (hfew : FewA l) (hin : InP l (exM ms) p) (hzm : szM ms ≤ 1048576) (hm5 : ms.length ≤ 5) (w : World) (h : RZ w O p) (h1 : RM w L ms) (h2 : RF w A l) (hgb : Box w gb #[.slice L ms.length cl] 33) :
    Calls Try.prog 58 #[.slice O p.length co, .slice L ms.length cl, .agg #[.slice H hs.length ch, .slice A l.length c], .func (.func 152) #[] #[.pointer (some ⟨gb, 0, none⟩)]] w (NxtO w (nextS (exM ms) l p)) := by
  obtain ⟨i0, hi, hz0, hz1, hz2⟩ := info_parts step_info
  have hl4 := hfew.1
  have hl3 := Lib.hid hfew.2
  have b0 := below_alloc w (.cells #[.slice H hs.length ch, .slice A l.length c] 37)
  have B0 := Lib.hid b0
  have HM := Lib.hid h1
  have HF := Lib.hid h2
  have HGB := Lib.hid hgb
  have HPO := Lib.hid hpos
  have UL := Lib.hid (exM_len ms)
  clear hgb hpos
  have XQ0 := Lib.hid (Box.new w #[.slice H hs.length ch, .slice A l.length c] 37)
  have XB := Lib.hid (boundVars_any O co p H A ch c hs (exM ms) l hp hfew hin _ (h.step b0) (h2.step b0))
  have XM := Lib.hid fun (W : World) (hW : Below w.heap.size w W) => missingAtoms_any O co p H A ch c hs l (by omega) (by omega) W (h.step hW)
  have EN := Lib.hid (show nextS (exM ms) l p = nextI (exM ms) l (bnd l p) (miss l.length p) from rfl)
  have ML_ := Lib.hid (missI_length l.length p)
  have hml := missI_len l.length p
  have MA := Lib.hid fun k => @missI_at l.length p k
  have hbl : (bnd l p).length ≤ 8 := by have := wl_len 10 17 (terms (called l p)); unfold bnd; omega
  generalize bnd l p = bd at XB EN hbl
  generalize missI l.length p = mi at XM ML_ hml MA
  generalize nextS (exM ms) l p = res at EN ⊢
  generalize miss l.length p = is at EN ML_ MA
  clear h h1 h2 hfew hin b0
  go_enter Try.func58, Try.ntmps58
  have xq0 := XQ0.out.cell 0
  have xq1 := XQ0.out.cell 1
  simp only [List.getElem?_toArray, List.getElem?_cons_zero, List.getElem?_cons_succ] at xq0 xq1
  go_wp2_with fail
  refine XB.out.mono ?_
  rintro e w1 ⟨v1, rfl, hown1, d1⟩
  obtain ⟨Ab, cb, rfl⟩ := ownsRow_form hown1
  have RB := Lib.hid (show RI w1 Ab bd from (ints_own hown1 (Nat.le_refl _)).mono (Nat.zero_le _) (Nat.le_refl _))
  have T1 := Lib.hid (step B0.out d1)
  have XQ1 := Lib.hid (XQ0.out.step d1)
  clear hown1 d1 XB xq0 xq1 B0 XQ0
  have xq0 := XQ1.out.cell 0
  have xq1 := XQ1.out.cell 1
  simp only [List.getElem?_toArray, List.getElem?_cons_zero, List.getElem?_cons_succ] at xq0 xq1
  go_wp2_with fail
  refine (XM.out _ T1.out).mono ?_
  rintro e w2 ⟨v2, rfl, hown2, d2⟩
  obtain ⟨Am, cm, rfl⟩ := ownsRow_form hown2
  have RMi := Lib.hid (show RI w2 Am mi from (ints_own hown2 (Nat.le_refl _)).mono (Nat.zero_le _) (Nat.le_refl _))
  have T2 := Lib.hid (step T1.out d2)
  have XQ2 := Lib.hid (XQ1.out.step d2)
  have RB2 := Lib.hid (RB.out.step d2)
  clear hown2 d2 XM RB T1 XQ1 xq0 xq1
  have hml' : (mi.length : Int) ≤ 4 := by omega
  have hm5' : (ms.length : Int) ≤ 5 := by omega
  go_wp2
  go_loopw [9, 12, 13, 14, 15, 23, 29] (fun o _ _ _ _ i _ wr => ∃ (k : Nat) (X : Option Addr) (cx : Nat) (out : SL), k ≤ mi.length ∧ i = .int .i64 k ∧ o = .slice X out.length cx ∧ Hid (out = nextI (exM ms) l bd (is.take k)) ∧ out.length ≤ 5 * k ∧ Hid (ZS wr w2.heap.size (.slice X out.length cx) out) ∧ Hid (Below w2.heap.size w2 wr)) (fun _ _ _ _ _ i _ _ => mi.length - (intOf i).toNat)
  case atStart => exact ⟨0, none, 0, [], by omega, rfl, rfl, Lib.hid rfl, by simp, Lib.hid (ZS.nil _ _), Lib.hid (Below.refl _ _)⟩
  case round =>
    obtain ⟨k, X, cx, out, hk, rfl, rfl, hO, hol, hown, hb⟩ := hrel
    have hk0 : (0 : Int) ≤ (k : Int) := by omega
    by_cases hlt : k < mi.length
    · have hk1 : (k : Int) < (mi.length : Int) := by omega
      obtain ⟨i, hil, hgi, htk⟩ := MA.out k hlt
      have TK := Lib.hid htk
      obtain ⟨bm, om, rfl, nm, em⟩ := RI.at_ (RMi.out.step hb.out) hlt
      rw [hgi] at em
      generalize hgf : l.getD i noF = gf
      obtain ⟨ra, ts⟩ := gf
      have HGF := Lib.hid hgf
      have hts : ts.length ≤ 3 := by have := hl3.out i hil; rw [hgf] at this; exact this
      have hra : 0 ≤ ra := by have := HPO.out i hil; rw [hgf] at this; exact this
      have NS := Lib.hid (show nextI (exM ms) l bd (is.take (k + 1)) = out ++ (firstsOf (exM ms) (ra, ts) bd ms.length).map (fun j : Nat => ((i : Int), (j : Int))) by rw [TK.out, nextI_snoc, hgf, hO.out, UL.out])
      have hi0 : (0 : Int) ≤ (i : Int) := by omega
      have hi1 : (i : Int) < (l.length : Int) := by omega
      clear htk hgi hgf
      go_wp2
      go_loopw [9, 13, 14, 15, 29] (fun o _ _ _ i2 wr2 => ∃ (j : Nat) (X : Option Addr) (cx : Nat) (out2 : SL), j ≤ ms.length ∧ i2 = .int .i64 j ∧ o = .slice X out2.length cx ∧ Hid (out2 = out ++ (firstsOf (exM ms) (ra, ts) bd j).map (fun j : Nat => ((i : Int), (j : Int)))) ∧ out2.length ≤ 5 * k + j ∧ Hid (ZS wr2 w2.heap.size (.slice X out2.length cx) out2) ∧ Hid (Below w2.heap.size w2 wr2)) (fun _ _ _ _ i2 _ => ms.length - (intOf i2).toNat)
      case atStart => exact ⟨0, X, cx, out, by omega, rfl, rfl, Lib.hid (by simp [firstsOf]), by omega, hown, hb⟩
      case round =>
        rename_i wr1
        obtain ⟨j, X2, cx2, out2, hj, rfl, rfl, hO2, hol2, hown2, hb2⟩ := hrel
        have hj0 : (0 : Int) ≤ (j : Int) := by omega
        by_cases hjt : j < ms.length
        · have hj1 : (j : Int) < (ms.length : Int) := by omega
          generalize hf : ms.getD j noM = f
          obtain ⟨r, inp, li, cs, qu⟩ := f
          have hil2 : inp.length ≤ 1048576 := by have := szM_elem hzm hjt; rw [hf] at this; exact this
          have TW := Lib.hid (T2.out.trans (hb2.out.mono T2.out.size))
          obtain ⟨b, off, C, cc, rfl, n1, e0, e1, e2, e3, e4, _, _, hI⟩ := (HM.out.step TW.out).at_ hjt hf
          obtain ⟨bq, oq, B, cB, rfl, nq, g0, g1, hxc, hcm, hJx⟩ := (HF.out.step TW.out).at_ hil HGF.out
          have HIx := Lib.hid hI
          have HJx := Lib.hid hJx
          have RBx := Lib.hid (RB2.out.step hb2.out)
          have XQ3 := XQ2.out.step hb2.out
          have HC := Lib.hid (show canM ((exM ms).getD j noM) (ra, ts) bd = ((exaA ms (j : Int)) && canB r inp ra ts bd) by exact canM_ex hjt hf hra bd)
          obtain ⟨W0, hW0⟩ : ∃ W0, W0 = (wr.alloc (.cells #[.int .i64 r, .slice C inp.length cc, .int .i64 li, .int .i64 cs, .int .i64 qu] 71)).alloc (.cells #[.int .i64 (i : Int), .int .i64 (j : Int)] 68) := ⟨_, rfl⟩
          have bW1 := below_alloc wr (.cells #[.int .i64 r, .slice C inp.length cc, .int .i64 li, .int .i64 cs, .int .i64 qu] 71)
          have bW2 := below_alloc (wr.alloc (.cells #[.int .i64 r, .slice C inp.length cc, .int .i64 li, .int .i64 cs, .int .i64 qu] 71)) (.cells #[.int .i64 (i : Int), .int .i64 (j : Int)] 68)
          have bW : Below wr.heap.size wr W0 := by rw [hW0]; exact step bW1 bW2
          have XMb : Box W0 wr.heap.size #[.int .i64 r, .slice C inp.length cc, .int .i64 li, .int .i64 cs, .int .i64 qu] 71 := by rw [hW0]; exact (Box.new _ _ _).step bW2
          have XSb : Box W0 (wr.heap.size + 1) #[.int .i64 (i : Int), .int .i64 (j : Int)] 68 := by
            have := Box.new (wr.alloc (.cells #[.int .i64 r, .slice C inp.length cc, .int .i64 li, .int .i64 cs, .int .i64 qu] 71)) #[.int .i64 (i : Int), .int .i64 (j : Int)] 68
            rw [al_size] at this
            rw [hW0]; exact this
          have p0 := XMb.cell 0
          have p1 := XMb.cell 1
          have p2 := XMb.cell 2
          have p3 := XMb.cell 3
          have p4 := XMb.cell 4
          have p5 := (XQ3.step bW).cell 1
          have p6 := XSb.cell 0
          have p7 := XSb.cell 1
          simp only [List.getElem?_toArray, List.getElem?_cons_zero, List.getElem?_cons_succ] at p0 p1 p2 p3 p4 p5 p6 p7
          have m0 := cell_regrown p0
          have m1 := cell_regrown p1
          have m2 := cell_regrown p2
          have m3 := cell_regrown p3
          have m4 := cell_regrown p4
          have q1 := cell_regrown p5
          have m6 := cell_regrown p6
          have m7 := cell_regrown p7
          clear p0 p1 p2 p3 p4 p5 p6 p7
          have a0 := cell_regrown ((bW.cell (p := ⟨bq, oq + i * 2, none⟩) nq).trans g0)
          have a1 := cell_regrown ((bW.cell (p := ⟨bq, oq + i * 2 + 1, none⟩) nq).trans g1)
          have BW := Lib.hid bW
          have XS0 := Lib.hid XSb
          have X1 := Lib.hid fun (W : World) (hW : Below W0.heap.size W0 W) => (show Calls Try.prog 97 #[.agg #[.int .i64 r, .slice C inp.length cc, .int .i64 li, .int .i64 cs, .int .i64 qu], .agg #[.int .i64 ra, .slice B ts.length cB], .slice Ab bd.length cb] W fun e w' => e = .returned (.bool (canB r inp ra ts bd)) ∧ Below W.heap.size W w' from impl_CanCall r inp li cs qu C cc ra ts B cB Ab cb bd hil2 (by omega) (by omega) W ((HIx.out.step BW.out).step hW) ((HJx.out.step BW.out).step hW) ((RBx.out.step BW.out).step hW))
          have XU := Lib.hid fun (W : World) (hW : Below W0.heap.size W0 W) => byExact1_any gb _ cl ms (i : Int) (j : Int) hzm W (((HM.out.step TW.out).step BW.out).step hW) (((HGB.out.step TW.out).step BW.out).step hW)
          generalize hq : canB r inp ra ts bd = q at X1 HC
          generalize huu : exaA ms (j : Int) = uu at XU HC
          have FNy := Lib.hid fun (hx : canM ((exM ms).getD j noM) (ra, ts) bd = true) => firstsOf_yes hx
          have FNn := Lib.hid fun (hx : canM ((exM ms).getD j noM) (ra, ts) bd = false) => firstsOf_no hx
          clear hf hI hJx bW bW1 bW2 XMb XSb hq XQ3 g0 g1 huu
          cases uu
          · go_wp2
            rw [← hW0]
            clear hW0
            refine wp_region_quiet_below (by kernel_rfl) (by kernel_rfl) ?_
            repeat (go_big_quiet_step (first | (go_at_call 97; with_reducible exact Calls.regrown_of (X1.out _ (below_regrown _ _ _))) | (go_at_call 152; with_reducible exact Calls.regrown_of (XU.out _ (below_regrown _ _ _)))))
            refine wpQuiet_nil ?_
            intro u hw'
            have b6 : Below wr.heap.size wr u := step BW.out (show Below W0.heap.size W0 u by obtain ⟨⟨dq, osq⟩, rfl⟩ := hw'; exact below_regrown _ _ _)
            have xs6 := XS0.out.step (show Below W0.heap.size W0 u by obtain ⟨⟨dq, osq⟩, rfl⟩ := hw'; exact below_regrown _ _ _)
            have O6 := Lib.hid (hown2.out.step b6)
            have B6 := Lib.hid (step hb2.out b6)
            have SZ6 : w2.heap.size ≤ u.heap.size := by have := B6.out.size; omega
            have s6 := xs6.cell 0
            have s7 := xs6.cell 1
            simp only [List.getElem?_toArray, List.getElem?_cons_zero, List.getElem?_cons_succ] at s6 s7
            clear hw' m0 m1 m2 m3 m4 m6 m7 q1 a0 a1 b6 xs6
            have FN := Lib.hid (FNn.out HC.out)
            go_wp2
            go_roundw
            case rel => exact ⟨j + 1, X2, cx2, out2, by omega, by go_num, rfl, Lib.hid (by rw [FN.out, hO2.out]), by omega, O6, B6⟩
            case measure => simp [intOf]; omega
          · go_wp2
            rw [← hW0]
            clear hW0
            refine wp_region_quiet_below (by kernel_rfl) (by kernel_rfl) ?_
            repeat (go_big_quiet_step (first | (go_at_call 97; with_reducible exact Calls.regrown_of (X1.out _ (below_regrown _ _ _))) | (go_at_call 152; with_reducible exact Calls.regrown_of (XU.out _ (below_regrown _ _ _)))))
            refine wpQuiet_nil ?_
            intro u hw'
            have b6 : Below wr.heap.size wr u := step BW.out (show Below W0.heap.size W0 u by obtain ⟨⟨dq, osq⟩, rfl⟩ := hw'; exact below_regrown _ _ _)
            have xs6 := XS0.out.step (show Below W0.heap.size W0 u by obtain ⟨⟨dq, osq⟩, rfl⟩ := hw'; exact below_regrown _ _ _)
            have O6 := Lib.hid (hown2.out.step b6)
            have B6 := Lib.hid (step hb2.out b6)
            have SZ6 : w2.heap.size ≤ u.heap.size := by have := B6.out.size; omega
            have s6 := xs6.cell 0
            have s7 := xs6.cell 1
            simp only [List.getElem?_toArray, List.getElem?_cons_zero, List.getElem?_cons_succ] at s6 s7
            clear hw' m0 m1 m2 m3 m4 m6 m7 q1 a0 a1 b6 xs6
            cases q
            · have FN := Lib.hid (FNn.out HC.out)
              go_wp2
              go_roundw
              case rel => exact ⟨j + 1, X2, cx2, out2, by omega, by go_num, rfl, Lib.hid (by rw [FN.out, hO2.out]), by omega, O6, B6⟩
              case measure => simp [intOf]; omega
            · have FN := Lib.hid (FNy.out HC.out)
              have LL := Lib.hid (show (out2 ++ [((i : Int), (j : Int))]).length = out2.length + 1 by simp)
              go_wp2_with (at_builtin; refine wpList_pushZ rfl _ _ 39 rfl i0 Try.underlying39 hi hz0 hz1 hz2 rfl rfl O6.out B6.out SZ6 (by omega) ?_; intro v' w' hz' hb' hs'; obtain ⟨A', c', rfl⟩ := hz'.form)
              go_roundw
              case rel => exact ⟨j + 1, A', c', out2 ++ [((i : Int), (j : Int))], by omega, by go_num, by rw [LL.out], Lib.hid (by rw [FN.out, hO2.out, List.map_append, List.append_assoc]; rfl), by rw [LL.out]; omega, Lib.hid hz', Lib.hid hb'⟩
              case measure => simp [intOf]; omega
        · obtain rfl : j = ms.length := by omega
          have ON := Lib.hid (show out2 = nextI (exM ms) l bd (is.take (k + 1)) by rw [NS.out, hO2.out])
          go_wp2
          go_roundw
          case rel => exact ⟨k + 1, X2, cx2, out2, by omega, by go_num, rfl, ON, by omega, hown2, hb2⟩
          case measure => simp [intOf]; omega
    · obtain rfl : k = mi.length := by omega
      have ON := Lib.hid (show out = res by rw [hO.out, ML_.out, take_all, EN.out])
      go_wp2
      go_ret
      have HW := T2.out.trans (hb.out.mono T2.out.size)
      exact ⟨_, rfl, by rw [← ON.out]; exact hown.out.lo T2.out.size, HW⟩

set_option maxRecDepth 100000 in
set_option maxHeartbeats 1000000 in
theorem firstStepsX_any (L : Option Addr) (cl : Nat) (ms : ML) (H A : Option Addr) (ch c : Nat) (hs : List Int) (l : FL) (gb : Nat) (hpos : PosA l) (hfew : FewA l) (hzm : szM ms ≤ 1048576) (hm5 : ms.length ≤ 5) (w : World) (h1 : RM w L ms) (h2 : RF w A l) (hgb : Box w gb #[.slice L ms.length cl] 33) :
    Calls Try.prog 64 #[.slice L ms.length cl, .agg #[.slice H hs.length ch, .slice A l.length c], .func (.func 152) #[] #[.pointer (some ⟨gb, 0, none⟩)]] w (NxtO w (firstS (exM ms) l)) := by
  obtain ⟨i0, hi, hz0, hz1, hz2⟩ := info_parts step_info
  have hl4 := hfew.1
  have HFW := Lib.hid hfew
  have HM := Lib.hid h1
  have HF := Lib.hid h2
  have HGB := Lib.hid hgb
  have HPO := Lib.hid hpos
  have XQ := Lib.hid (Box.new w #[.slice H hs.length ch, .slice A l.length c] 37)
  have B0 := Lib.hid (below_alloc w (.cells #[.slice H hs.length ch, .slice A l.length c] 37))
  have q0 := XQ.out.cell 0
  have q1 := XQ.out.cell 1
  simp only [List.getElem?_toArray, List.getElem?_cons_zero, List.getElem?_cons_succ] at q0 q1
  have XN := Lib.hid fun (O : Option Addr) (co : Nat) (p : SL) (W : World) (hp : p.length ≤ 4) (hin : InP l (exM ms) p) (hW : Below w.heap.size w W) (hO : RZ W O p) => nextStepsX_any O co p L cl ms H A ch c hs l gb HPO.out hp HFW.out hin hzm hm5 W hO (HM.out.step hW) (HF.out.step hW) (HGB.out.step hW)
  have NL := Lib.hid fun p => (show (nextS (exM ms) l p).length ≤ 20 by have := nextS_len (exM ms) l p; rw [exM_len] at this; have : l.length * ms.length ≤ 4 * 5 := Nat.mul_le_mul hl4 hm5; omega)
  clear h1 h2 hfew hgb hpos
  go_enter Try.func64, Try.ntmps64
  go_wp2_with fail
  refine (XN.out none 0 [] _ (by simp) (InP.nil l (exM ms)) B0.out (RZ.nil _ _)).mono ?_
  rintro e u ⟨v, rfl, hz, d⟩
  obtain ⟨A2, c2, rfl⟩ := hz.form
  have R2 := Lib.hid hz.rz
  have D := Lib.hid (step B0.out d)
  have XQ2 := Lib.hid (XQ.out.step d)
  clear hz d q0 q1
  go_wp2
  go_loopg [7, 8] l.length (fun gk ov nv wr => ∃ (k : Nat) (p nx : SL) (Ao An : Option Addr) (co cn : Nat), k + gk = l.length ∧ Hid (p = gr (exM ms) l k) ∧ Hid (nx = nextS (exM ms) l p) ∧ Hid (p.length = k) ∧ ov = .slice Ao p.length co ∧ nv = .slice An nx.length cn ∧ Hid (ZS wr (w.heap.size + 1) (.slice Ao p.length co) p) ∧ Hid (RZ wr An nx) ∧ Hid (Below w.heap.size w wr) ∧ Hid (Box wr w.heap.size #[.slice H hs.length ch, .slice A l.length c] 37))
  case atStart => exact ⟨0, [], _, none, A2, 0, c2, by omega, Lib.hid rfl, Lib.hid rfl, Lib.hid rfl, rfl, rfl, Lib.hid (ZS.nil _ _), R2, D, XQ2⟩
  case round =>
    obtain ⟨k, p, nx, Ao, An, co, cn, hkg, hpk, hnx, hpl, rfl, rfl, hz, hr, hb, xq⟩ := hrel
    by_cases hnn : nx = []
    · have FS := Lib.hid (show p = firstS (exM ms) l by rw [hpk.out]; exact gr_stop (by have := hpl.out; omega) (by rw [← hpk.out, ← hnx.out, hnn]))
      have hn0 : nx.length = 0 := by rw [hnn]; rfl
      clear hnn
      go_wp2
      go_ret
      exact ⟨_, rfl, by rw [← FS.out]; exact hz.out.lo (by omega), hb.out⟩
    · obtain ⟨a, m, rest, hnn⟩ : ∃ a m rest, nx = (a, m) :: rest := by
        rcases h : nx with _ | ⟨⟨a, m⟩, rest⟩
        · exact absurd h hnn
        · exact ⟨a, m, rest, rfl⟩
      have hp : 0 < nx.length := by rw [hnn]; simp
      have HD := Lib.hid (show nx.getD 0 (0, 0) = (a, m) by rw [hnn]; rfl)
      obtain ⟨b, off, rfl, nb, e0, e1⟩ := hr.out.at_ hp HD.out
      rw [Nat.zero_mul, Nat.add_zero] at e0
      rw [Nat.zero_mul, Nat.add_zero] at e1
      have FL_ := Lib.hid (show FullM l p by rw [hpk.out]; exact gr_full (exM ms) l k)
      have hlt : p.length < l.length := FL_.out.lt (ms := exM ms) (by rw [← hnx.out, hnn]; simp)
      have GS := Lib.hid (show p ++ [(a, m)] = gr (exM ms) l (k + 1) by show _ = stepG (exM ms) l (gr (exM ms) l k); rw [← hpk.out, stepG_cons (by rw [← hnx.out, hnn])])
      have LL := Lib.hid (show (p ++ [(a, m)]).length = p.length + 1 by simp)
      have IN := Lib.hid (show InP l (exM ms) (p ++ [(a, m)]) by rw [GS.out]; exact gr_in (exM ms) l (k + 1))
      have hn0 : (0 : Int) < (nx.length : Int) := by omega
      have e0' : decide ((0 : Int) < (nx.length : Int)) = true := by simp; omega
      have SZ : w.heap.size + 1 ≤ wr.heap.size := xq.out.lt
      have hnl : nx.length ≤ 20 := by rw [hnx.out]; exact NL.out p
      obtain ⟨g, rfl⟩ : ∃ g, gk = g + 1 := ⟨gk - 1, by have := hpl.out; omega⟩
      clear hnn
      go_wp2_with (at_builtin; refine wpList_pushZ rfl _ _ 80 rfl i0 Try.underlying80 hi hz0 hz1 hz2 rfl rfl hz.out (Below.refl (w.heap.size + 1) wr) SZ (by omega) ?_; intro v' w5 hz5 hb5 hs5; obtain ⟨A5, c5, rfl⟩ := hz5.form
                   have Z5 := Lib.hid hz5
                   have XQ5 := Lib.hid (show Box w5 w.heap.size #[.slice H hs.length ch, .slice A l.length c] 37 from (hb5.block _ (by omega)).trans xq.out)
                   have B5 := Lib.hid (hb.out.trans (hb5.mono (by omega)))
                   have q0 := XQ5.out.cell 0
                   have q1 := XQ5.out.cell 1
                   simp only [List.getElem?_toArray, List.getElem?_cons_zero, List.getElem?_cons_succ] at q0 q1
                   have XN5 := Lib.hid (XN.out A5 c5 (p ++ [(a, m)]) w5 (by rw [LL.out]; omega) IN.out B5.out Z5.out.rz)
                   rw [LL.out] at XN5
                   clear hz5 hb5 e0 e1 nb)
      refine XN5.out.mono ?_
      rintro e u5 ⟨v8, rfl, hz8, d⟩
      obtain ⟨A8, c8, rfl⟩ := hz8.form
      have R8 := Lib.hid hz8.rz
      have Z8 := Lib.hid (Z5.out.step d)
      have XQ8 := Lib.hid (XQ5.out.step d)
      have B8 := Lib.hid (step B5.out d)
      clear hz8 d q0 q1
      go_wp2
      go_roundg g
      case measure => omega
      case rel => exact ⟨k + 1, p ++ [(a, m)], _, A5, A8, c5, c8, by omega, GS, Lib.hid rfl, Lib.hid (by rw [LL.out, hpl.out]), by rw [LL.out], rfl, Z8, R8, B8, XQ8⟩

/-- A call of three arguments as one step of a region that draws. -/
theorem callX3 {P : Program} {ops : Array Oper} {o : Oper} {a : Act} {w : World} {K : Act → World → Prop} {Q : Exit → Act → World → Prop} {E : Prop}
    (hgd : o.guard = none) (g : FuncId) (x y z : Operand) (t t' t'' : TypeId) (ho : o.op = .call { callee := .value (.func g), args := #[x, y, z], argTypes := #[t, t', t''] })
    (vx vy vz : Value) (hx : a.eval x = vx) (hy : a.eval y = vy) (hz : a.eval z = vz) (hcf : (callFunc g #[vx, vy, vz]).run P w = .ok (.enter g #[vx, vy, vz]) w) {R : Value → World → Prop} (hc : Calls P g #[vx, vy, vz] w fun e w' => ∃ v, e = .returned v ∧ R v w') (hK : ∀ v w', R v w' → K (a.put o.dst v) w') :
    if Region.wanted o (yielded ops a.tmps) = true then Oper.wp P o a w K Q else E := by
  have hw : Region.wanted o (yielded ops a.tmps) = true := by simp [Region.wanted, hgd]
  rw [if_pos hw]
  unfold Oper.wp
  have e : (execOp a.eval o).run P w = .ok (.enter g #[vx, vy, vz]) w := by
    rw [← hx, ← hy, ← hz] at hcf ⊢
    simpa [go_sem, execOp, ho, resolve, invoke] using hcf
  rw [e, Oper.upon_enter]
  refine hc.mono ?_
  rintro _ w' ⟨v, rfl, h⟩
  exact hK v w' h


set_option maxRecDepth 100000 in
set_option maxHeartbeats 1000000 in
theorem byExact_any (L : Option Addr) (cl : Nat) (ms : ML) (w : World) :
    Calls Try.prog 126 #[.slice L ms.length cl] w fun e w' => e = .returned (.func (.func 152) #[] #[.pointer (some ⟨w.heap.size, 0, none⟩)]) ∧ w' = w.alloc (.cells #[.slice L ms.length cl] 33) := by
  go_enter Try.func126, Try.ntmps126
  go_wp2
  go_ret
  exact ⟨rfl, rfl⟩

set_option maxRecDepth 100000 in
set_option maxHeartbeats 1000000 in
theorem exactSteps_any (L : Option Addr) (cl : Nat) (ms : ML) (H A : Option Addr) (ch c : Nat) (hs : List Int) (l : FL) (hpos : PosA l) (hfew : FewA l) (hzm : szM ms ≤ 1048576) (hm5 : ms.length ≤ 5) (w : World) (h1 : RM w L ms) (h2 : RF w A l) :
    Calls Try.prog 85 #[.slice L ms.length cl, .agg #[.slice H hs.length ch, .slice A l.length c]] w (NxtO w (firstS (exM ms) l)) := by
  have b0 := below_alloc w (.cells #[.slice H hs.length ch, .slice A l.length c] 37)
  have XQ := Lib.hid (Box.new w #[.slice H hs.length ch, .slice A l.length c] 37)
  have B0 := Lib.hid b0
  have XF := Lib.hid fun (W : World) (gb : Nat) (hW : Below w.heap.size w W) (hB : Box W gb #[.slice L ms.length cl] 33) => firstStepsX_any L cl ms H A ch c hs l gb hpos hfew hzm hm5 W (h1.step hW) (h2.step hW) hB
  obtain ⟨w0, hw0⟩ : ∃ W, W = w.alloc (.cells #[.slice H hs.length ch, .slice A l.length c] 37) := ⟨_, rfl⟩
  have E0 := Lib.hid hw0
  rw [← hw0] at XQ B0
  have q0 := XQ.out.cell 0
  have q1 := XQ.out.cell 1
  simp only [List.getElem?_toArray, List.getElem?_cons_zero, List.getElem?_cons_succ] at q0 q1
  clear h1 h2 b0 hw0 hpos hfew
  go_enter Try.func85, Try.ntmps85
  go_upto_region 1 with fail
  rw [← E0.out]
  go_region_law (first
    | (refine callV1 rfl 126 _ _ rfl (.slice L ms.length cl) rfl (by kernel_rfl) (R := fun v' w' => v' = .func (.func 152) #[] #[.pointer (some ⟨w0.heap.size, 0, none⟩)] ∧ Below w0.heap.size w0 w' ∧ Box w' w0.heap.size #[.slice L ms.length cl] 33) ((byExact_any L cl ms _).mono (fun e w' h => by
         obtain ⟨rfl, rfl⟩ := h
         exact ⟨_, rfl, rfl, by first | exact below_alloc _ _ | exact und (below_alloc _ _) | exact undN (below_alloc _ _), by first | exact Box.new _ _ _ | simpa using Box.new _ _ _⟩)) ?_
       rintro _ u5 ⟨rfl, b5, x5⟩
       have q05 := (b5.cell (p := ⟨w.heap.size, 0, none⟩) (by have := XQ.out.lt; (try simp) <;> omega)).trans q0
       have q15 := (b5.cell (p := ⟨w.heap.size, 1, none⟩) (by have := XQ.out.lt; (try simp) <;> omega)).trans q1
       have B5 := Lib.hid (step B0.out b5)
       have X5 := Lib.hid x5
       clear b5 x5)
    | (refine callX3 rfl 64 _ _ _ _ _ _ rfl (.slice L ms.length cl) (.agg #[.slice H hs.length ch, .slice A l.length c]) (.func (.func 152) #[] #[.pointer (some ⟨w0.heap.size, 0, none⟩)]) rfl rfl rfl (by kernel_rfl) (R := fun v' w' => ZS w' w.heap.size v' (firstS (exM ms) l) ∧ Below w.heap.size w w') ((XF.out _ w0.heap.size (by first | exact B5.out | exact step B5.out (below_drew _) | exact B5.out.drew) (by first | exact X5.out | exact X5.out.step (below_drew _))).mono (fun e w' h => by
         obtain ⟨v, e1, e2, e3⟩ := h
         exact ⟨v, e1, e2.lo (by have := B5.out.size; (try simp) <;> omega), step B5.out (by first | exact e3 | exact und e3 | exact undN e3)⟩)) ?_
       rintro v6 u6 ⟨z6, b6⟩
       have Z6 := Lib.hid z6
       have B6 := Lib.hid b6
       clear z6 b6))
  all_goals
    obtain ⟨A6, c6, rfl⟩ := Z6.out.form
    go_wp2
    go_ret
    exact ⟨_, rfl, Z6.out, B6.out⟩
end Go.Proofs.Ytighalbnpgmdfaa

namespace Go.Proofs.Ytighalbnpgmdfaa
open Go.ChangeShapes Go.WideShapes Go.ChangeAt Go.RowKit Go.Sort
set_option linter.unusedVariables false
set_option linter.unusedSimpArgs false

theorem ownC_nilD (w : World) (lo hi : Nat) : atom.OwnC w lo hi (.slice none ([] : FL).length 0) [] [] (fun _ => 0) := ⟨⟨by simp, .inl ⟨rfl, rfl⟩⟩, Items.nil _ _ _⟩
theorem ownC_setD {w : World} {lo hi : Nat} {v u : Value} {fs : FL} {cs : List Value} {bs : Nat → Nat} (h : atom.OwnC w lo hi v fs cs bs) {p : Addr} (hp : p.block < lo) : atom.OwnC (w.setCell p u) lo hi v fs cs bs :=
  ⟨ownsRow_set h.1 hp, h.2.keep fun q a _ _ => Below.heap_setCell _ _ _ _ (by omega)⟩

/-- The atoms without the one with this number. -/
def dropL (l : FL) (a : Int) : FL := if a < 0 then l else l.eraseIdx a.toNat
theorem take_snocA (l : FL) {k : Nat} (hk : k < l.length) {f : Int × List Int} (hf : l.getD k (0, []) = f) : l.take (k + 1) = l.take k ++ [f] := by
  rw [List.take_succ_eq_append_getElem hk]
  have : l[k] = l.getD k (0, []) := by simp [List.getD_eq_getElem?_getD, hk]
  rw [this, hf]
theorem dropL_here (l : FL) {a : Int} {k : Nat} (hk : k < l.length) (ha : (k : Int) = a) : dropL (l.take (k + 1)) a = dropL (l.take k) a := by
  subst ha
  have hl : (l.take k).length = k := by rw [List.length_take]; omega
  have h2 : (l.take k).eraseIdx k = l.take k := List.eraseIdx_of_length_le (by omega)
  unfold dropL
  rw [if_neg (by omega), if_neg (by omega), Int.toNat_natCast, take_snocA l hk rfl, List.eraseIdx_append_of_length_le (by omega), hl, h2, Nat.sub_self]
  simp
theorem dropL_more (l : FL) {a : Int} {k : Nat} (hk : k < l.length) (ha : ¬ (k : Int) = a) {f : Int × List Int} (hf : l.getD k (0, []) = f) : dropL (l.take (k + 1)) a = dropL (l.take k) a ++ [f] := by
  have hl : (l.take k).length = k := by rw [List.length_take]; omega
  unfold dropL
  by_cases h0 : a < 0
  · rw [if_pos h0, if_pos h0, take_snocA l hk hf]
  · rw [if_neg h0, if_neg h0, take_snocA l hk hf]
    by_cases h1 : a.toNat < k
    · rw [List.eraseIdx_append_of_lt_length (by omega)]
    · rw [List.eraseIdx_of_length_le (by rw [List.length_append, hl]; simp; omega), List.eraseIdx_of_length_le (by omega)]
theorem dropL_len (l : FL) (a : Int) : (dropL l a).length ≤ l.length := by
  unfold dropL
  split
  · exact Nat.le_refl _
  · rw [List.length_eraseIdx]; split <;> omega

/-- One atom more, in its block, behind a row of atoms. -/
theorem app_done {wr u5 v31 : World} {g5 c2 q5 c5 g31 cap31 : Nat} {out : FL} {cs : List Value} {bs : Nat → Nat} {A2 A5 : Option Addr} {r : Int} {xs : List Int}
    (hsz : g5 + 1 ≤ wr.heap.size) (b5 : Below wr.heap.size wr u5) (hv5 : OwnV u5 wr.heap.size u5.heap.size (.slice A5 xs.length c5) q5 xs)
    (HO5 : atom.OwnC (u5.alloc (.cells #[.int .i64 r, .slice A5 xs.length c5] 73)) (g5 + 1) wr.heap.size (.slice A2 out.length c2) out cs bs)
    (hgrow : (u5.alloc (.cells #[.int .i64 r, .slice A5 xs.length c5] 73)).grownBy v31 (Value.slice A2 out.length c2).ownBlock)
    (hown31 : v31.ownsRow (g5 + 1) 73 2 (.slice (some ⟨g31, 0, none⟩) (out.length + 1) cap31) (out.length + 1) (cs ++ [.int .i64 r, .slice A5 xs.length c5])) :
    ∃ bs31, atom.OwnC v31 (g5 + 1) v31.heap.size (.slice (some ⟨g31, 0, none⟩) (out.length + 1) cap31) (out ++ [(r, xs)]) (cs ++ [.int .i64 r, .slice A5 xs.length c5]) bs31 ∧ Below (g5 + 1) wr v31 := by
  have hz := b5.size
  have HV5 := OwnV.step hv5 (below_alloc u5 (.cells #[.int .i64 r, .slice A5 xs.length c5] 73))
  have d31 : Below (g5 + 1) (u5.alloc (.cells #[.int .i64 r, .slice A5 xs.length c5] 73)) v31 := (Below.refl _ _).grown hgrow (by rw [al_size]; omega) (fun q hq => (HO5.1.lt q hq).1)
  obtain ⟨bs31, ho31⟩ := atom.own_append HO5 (Items.one HV5) hsz (by rw [al_size]; omega) (by simpa using hown31) hgrow
  exact ⟨bs31, by simpa using ho31, ((step b5 (below_alloc u5 (.cells #[.int .i64 r, .slice A5 xs.length c5] 73))).mono hsz).trans d31⟩
theorem drp_rel {w w5 wr v31 : World} {g5 ch c cH c2 g31 cap31 : Nat} {H Q AH A2 : Option Addr} {hs : List Int} {l out : FL} {r : Int} {xs : List Int} {cs : List Value} {bs : Nat → Nat}
    (gl : w.heap.size + 1 + 1 ≤ g5) (hsz : g5 + 1 ≤ wr.heap.size) (hZ : Box wr g5 #[.slice AH hs.length cH, .slice A2 out.length c2] 37)
    (hO : atom.OwnC v31 (g5 + 1) v31.heap.size (.slice (some ⟨g31, 0, none⟩) (out.length + 1) cap31) (out ++ [(r, xs)]) cs bs)
    (hX : Box wr w.heap.size #[.slice H hs.length ch, .slice Q l.length c] 37) (hY : Box wr (w.heap.size + 1) #[.slice none 0 0, .slice none 0 0] 37) (hB : Below w.heap.size w wr) (hG : Below g5 w5 wr) (b : Below (g5 + 1) wr v31) :
    Box (v31.setCell ⟨g5, 1, none⟩ (.slice (some ⟨g31, 0, none⟩) (out.length + 1) cap31)) g5 #[.slice AH hs.length cH, .slice (some ⟨g31, 0, none⟩) (out ++ [(r, xs)]).length cap31] 37 ∧
    Hid (atom.OwnC (v31.setCell ⟨g5, 1, none⟩ (.slice (some ⟨g31, 0, none⟩) (out.length + 1) cap31)) (g5 + 1) (v31.setCell ⟨g5, 1, none⟩ (.slice (some ⟨g31, 0, none⟩) (out.length + 1) cap31)).heap.size (.slice (some ⟨g31, 0, none⟩) (out ++ [(r, xs)]).length cap31) (out ++ [(r, xs)]) cs bs) ∧
    Hid (Box (v31.setCell ⟨g5, 1, none⟩ (.slice (some ⟨g31, 0, none⟩) (out.length + 1) cap31)) w.heap.size #[.slice H hs.length ch, .slice Q l.length c] 37) ∧ Hid (Box (v31.setCell ⟨g5, 1, none⟩ (.slice (some ⟨g31, 0, none⟩) (out.length + 1) cap31)) (w.heap.size + 1) #[.slice none 0 0, .slice none 0 0] 37) ∧
    Hid (Below w.heap.size w (v31.setCell ⟨g5, 1, none⟩ (.slice (some ⟨g31, 0, none⟩) (out.length + 1) cap31))) ∧ Hid (Below g5 w5 (v31.setCell ⟨g5, 1, none⟩ (.slice (some ⟨g31, 0, none⟩) (out.length + 1) cap31))) ∧ g5 + 1 ≤ (v31.setCell ⟨g5, 1, none⟩ (.slice (some ⟨g31, 0, none⟩) (out.length + 1) cap31)).heap.size := by
  have el : (out ++ [(r, xs)]).length = out.length + 1 := by simp
  have hz := b.size
  rw [el, set_size]
  refine ⟨box_set1 (show Box v31 g5 #[.slice AH hs.length cH, .slice A2 out.length c2] 37 from (b.block _ (by omega)).trans hZ), Lib.hid (ownC_setD hO (show g5 < g5 + 1 by omega)), Lib.hid ?_, Lib.hid ?_, Lib.hid ((hB.trans (b.mono (by omega))).setCell (by (try simp) <;> omega) _), Lib.hid ((hG.trans (b.mono (by omega))).setCell (Nat.le_refl _) _), by omega⟩
  · exact (Below.heap_setCell v31 ⟨g5, 1, none⟩ _ _ (by (try simp) <;> omega)).trans ((b.block _ (by omega)).trans hX)
  · exact (Below.heap_setCell v31 ⟨g5, 1, none⟩ _ _ (by (try simp) <;> omega)).trans ((b.block _ (by omega)).trans hY)

/-- What a query of the model's is. -/
def QSo (w : World) (hs : List Int) (l : FL) (e : Ending) (w' : World) : Prop := ∃ H A ch c, e = .returned (.agg #[.slice H hs.length ch, .slice A l.length c]) ∧ RI w' H hs ∧ RF w' A l ∧ Below w.heap.size w w'
theorem CopyF.toR {w : World} {r : Int} {xs : List Int} {e : Ending} {w' : World} (h : CopyF w r xs e w') : ∃ v, e = .returned v ∧ ∃ A c q, v = .agg #[.int .i64 r, .slice A xs.length c] ∧ OwnV w' w.heap.size w'.heap.size (.slice A xs.length c) q xs ∧ Below w.heap.size w w' := by
  obtain ⟨A, c, q, h1, h2, h3⟩ := h
  exact ⟨_, h1, A, c, q, rfl, h2, h3⟩

set_option maxRecDepth 100000 in
set_option maxHeartbeats 400000 in
theorem l3Atom_any (r : Int) (A : Option Addr) (c : Nat) (xs : List Int) (hl : xs.length ≤ 1048576) (w : World) (h : RI w A xs) :
    Calls Try.prog 83 #[.int .i64 r, .slice A xs.length c] w (CopyF w r xs) := by
  obtain ⟨i0, hi, hz0, hz1, hz2⟩ := info_parts int_info
  have B1 := below_alloc w (.cells #[.int .i64 0, .slice none 0 0] 73)
  have HI := Lib.hid ((h.step B1).step (below_alloc _ (.cells #[] 3)))
  have HB1 := Lib.hid B1
  clear h B1
  go_enter Try.func83, Try.ntmps83
  go_wp2_with (at_builtin; refine wpList_append_nums rfl _ _ 22 rfl (w.heap.size + 1) 3 i0 Try.underlying22 hi hz0 hz1 hz2 (.slice (some ⟨w.heap.size + 1, 0, none⟩) 0 0) 0 [] rfl (by have := World.ownsRow_lit (base := w.heap.size + 1) (e := 3) (size := 1) (w.alloc (.cells #[.int .i64 0, .slice none 0 0] 73)) #[] 0 (by simp) (by unfold maxLen; omega) rfl; rw [al_size] at this; exact this) _ _ A c xs rfl HI.out (by omega) (by simp) ?_; intro v' w' hown hg hat
               have hown' : w'.ownsRow (w.heap.size + 1) 3 1 v' (0 + xs.length) (xs.map (Value.int .i64)) := by simpa using hown
               obtain ⟨q, hv⟩ := ownV_of_row hown'
               obtain ⟨A2, c2, rfl, _, _⟩ := hv.form
               have HV := Lib.hid hv
               have HG := Lib.hid hg
               have X4 : Box w' w.heap.size #[.int .i64 0, .slice none 0 0] 73 := (hg.block w.heap.size (by simp <;> omega) (by simp [Value.ownBlock])).trans ((Box.new w _ _).step (below_alloc _ _))
               have g0 := X4.cell 0
               have g1 := X4.cell 1
               have g2 := X4.frozen 0
               have g3 := X4.frozen 1
               simp only [List.getElem?_toArray, List.getElem?_cons_zero, List.getElem?_cons_succ] at g0 g1
               have HX4 := Lib.hid X4
               clear hown hown' hv hg hat X4)
  have hlt := HX4.out.lt
  have HB := Lib.hid (show Below w.heap.size w w' from (step HB1.out (below_alloc _ (.cells #[] 3))).grown HG.out (by (try simp) <;> omega) (fun k hk => by have := own_some hk; omega))
  refine bodyPost_ret (v := .agg #[.int .i64 r, .slice A2 xs.length c2]) (by simp [results, Try.results83, go_sem, g0, g1]) rfl ⟨A2, c2, q, rfl, ?_, ?_⟩
  · rw [size2]
    exact (HV.out.keep fun h1 _ _ => (Below.heap_setCell _ ⟨w.heap.size, 1, none⟩ _ q (by (try simp) <;> omega)).trans (Below.heap_setCell _ ⟨w.heap.size, 0, none⟩ _ q (by (try simp) <;> omega))).mono (by omega) (Nat.le_refl _)
  · exact Below.setCell (Below.setCell HB.out (by simp) _) (by simp) _

end Go.Proofs.Ytighalbnpgmdfaa
