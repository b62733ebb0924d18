/- The possible next steps. Conditions: none beyond each theorem's own. -/
import Derived.Test.YtighalbnpgmdfaaOr2
import Derived.Lib.QuietBelow
namespace Go.Proofs.Ytighalbnpgmdfaa
open Go.ChangeShapes Go.WideShapes Go.ChangeAt Go.RowKit Go.Sort
set_option linter.unusedVariables false
set_option linter.unusedSimpArgs false

/-- A place of the step in l, or a negative number. -/
def IdxOutZ (w : World) (l : SL) (st : Int × Int) (e : Ending) (w' : World) : Prop := (∃ n : Int, e = .returned (.int .i64 n) ∧ decide (0 ≤ n) = decide (st ∈ l)) ∧ Below w.heap.size w w'

set_option maxRecDepth 100000 in
set_option maxHeartbeats 1000000 in
theorem indexZ_any (A : Option Addr) (c : Nat) (l : SL) (a m : Int) (hl : l.length ≤ 1048576) (w : World) (h : RZ w A l) :
    Calls Try.prog 95 #[.slice A l.length c, .agg #[.int .i64 a, .int .i64 m]] w (IdxOutZ w l (a, m)) := by
  have HI := Lib.hid h
  have hl' : (l.length : Int) ≤ 1048576 := by omega
  have XB := Lib.hid (Box.new w #[.int .i64 a, .int .i64 m] 68)
  have B0 := Lib.hid (below_alloc w (.cells #[.int .i64 a, .int .i64 m] 68))
  clear h
  go_enter Try.func95, Try.ntmps95
  go_wp2
  go_loopw [5, 8] (fun _ i wr => ∃ k : Nat, k ≤ l.length ∧ i = .int .i64 k ∧ Hid ((a, m) ∉ l.take k) ∧ Hid (Below w.heap.size w wr) ∧ Hid (Box wr w.heap.size #[.int .i64 a, .int .i64 m] 68)) (fun _ i _ => l.length - (intOf i).toNat)
  case atStart => exact ⟨0, by omega, rfl, Lib.hid (by simp), B0, XB⟩
  case round =>
    obtain ⟨k, hk, rfl, ha, hb, xb⟩ := hrel
    have s0 := xb.out.cell 0
    have s1 := xb.out.cell 1
    simp only [List.getElem?_toArray, List.getElem?_cons_zero, List.getElem?_cons_succ] at s0 s1
    have hk0 : (0 : Int) ≤ (k : Int) := by omega
    by_cases hlt : k < l.length
    · have hk1 : (k : Int) < (l.length : Int) := by omega
      generalize hf : l.getD k (0, 0) = f
      obtain ⟨r, x⟩ := f
      have HT := Lib.hid (take_snoc l hlt hf)
      have HM := Lib.hid (show (r, x) ∈ l by rw [← hf, List.getD_eq_getElem?_getD, List.getElem?_eq_getElem hlt]; exact List.getElem_mem _)
      obtain ⟨b, off, rfl, n1, e0, e1⟩ := (HI.out.step hb.out).at_ hlt hf
      have EQ := eq_stepT a m r x
      clear hf
      by_cases he : a = r ∧ m = x
      · obtain ⟨rfl, rfl⟩ := he
        have d5 : (a == a && m == m) = true := by simp
        go_wp2
        go_quiet (fail)
        go_wp2
        go_ret
        exact ⟨⟨_, rfl, by rw [decide_eq_true HM.out]; simp⟩, below_drewN hb.out _⟩
      · have d5 : (a == r && m == x) = false := by simp; intro h1 h2; exact he ⟨h1, h2⟩
        have NE := Lib.hid (show (a, m) ≠ (r, x) by intro e; injection e with e1 e2; exact he ⟨e1, e2⟩)
        clear he
        go_wp2
        go_quiet (fail)
        go_wp2
        go_roundw
        case rel => exact ⟨k + 1, by omega, by go_num, Lib.hid (by rw [HT.out]; simp only [List.mem_append, List.mem_singleton, not_or]; exact ⟨ha.out, NE.out⟩), Lib.hid (below_drewN hb.out _), Lib.hid xb.out⟩
        case measure => simp [intOf]; omega
    · obtain rfl : k = l.length := by omega
      go_wp2
      go_ret
      exact ⟨⟨_, rfl, by have := ha.out; rw [take_all] at this; rw [decide_eq_false this]; rfl⟩, hb.out⟩
set_option maxRecDepth 100000 in
theorem containsZ_any (A : Option Addr) (c : Nat) (l : SL) (a m : Int) (hl : l.length ≤ 1048576) (w : World) (h : RZ w A l) :
    Calls Try.prog 57 #[.slice A l.length c, .agg #[.int .i64 a, .int .i64 m]] w fun e w' => e = .returned (.bool (decide ((a, m) ∈ l))) ∧ Below w.heap.size w w' := by
  have B0 := Lib.hid (below_alloc w (.cells #[.int .i64 a, .int .i64 m] 68))
  have XI := Lib.hid (indexZ_any A c l a m hl _ (h.step B0.out))
  clear h
  go_enter Try.func57, Try.ntmps57
  go_wp2_with fail
  refine XI.out.mono ?_
  rintro e w1 ⟨⟨n, rfl, hn⟩, d⟩
  have HN := Lib.hid hn
  have D := Lib.hid (step B0.out d)
  clear hn d
  go_wp2
  go_ret
  exact ⟨ret_bool HN.out, D.out⟩

/-- Steps of the call's own. -/
def NxtO (w : World) (l : SL) (e : Ending) (w' : World) : Prop := ∃ v, e = .returned v ∧ ZS w' w.heap.size v l ∧ Below w.heap.size w w'
theorem missI_at (n : Nat) (p : SL) {k : Nat} (hk : k < (missI n p).length) : ∃ i : Nat, i < n ∧ (missI n p).getD k 0 = (i : Int) ∧ (miss n p).take (k + 1) = (miss n p).take k ++ [i] := by
  have hk' : k < (miss n p).length := by unfold missI at hk; simpa using hk
  refine ⟨(miss n p)[k], (miss_mem.1 (List.getElem_mem hk')).1, ?_, List.take_succ_eq_append_getElem hk'⟩
  unfold missI
  simp [List.getD_eq_getElem?_getD, hk']
theorem missI_length (n : Nat) (p : SL) : (missI n p).length = (miss n p).length := by simp [missI]

set_option maxRecDepth 100000 in
theorem byAny_any (a m : Int) (w : World) : Calls Try.prog 59 #[.agg #[.int .i64 a, .int .i64 m]] w fun e w' => e = .returned (.bool true) ∧ Below w.heap.size w w' := by
  have B0 := Lib.hid (below_alloc w (.cells #[.int .i64 a, .int .i64 m] 68))
  go_enter Try.func59, Try.ntmps59
  go_wp2
  go_ret
  exact ⟨rfl, B0.out⟩

set_option maxRecDepth 100000 in
set_option maxHeartbeats 4000000 in
theorem nextSteps_any (O : Option Addr) (co : Nat) (p : SL) (L : Option Addr) (cl : Nat) (ms : ML) (H A : Option Addr) (ch c : Nat) (hs : List Int) (l : FL) (hp : p.length ≤ 4) (hfew : FewA l) (hin : InP l ms p) (hzm : szM ms ≤ 1048576) (hm5 : ms.length ≤ 5) (w : World) (h : RZ w O p) (h1 : RM w L ms) (h2 : RF w A l) :
    Calls Try.prog 58 #[.slice O p.length co, .slice L ms.length cl, .agg #[.slice H hs.length ch, .slice A l.length c], .func (.func 59) #[] #[]] w (NxtO w (nextS ms l p)) := by
  obtain ⟨i0, hi, hz0, hz1, hz2⟩ := info_parts step_info
  have hl4 := hfew.1
  have hl3 := Lib.hid hfew.2
  have b0 := below_alloc w (.cells #[.slice H hs.length ch, .slice A l.length c] 37)
  have B0 := Lib.hid b0
  have HM := Lib.hid h1
  have HF := Lib.hid h2
  have XQ0 := Lib.hid (Box.new w #[.slice H hs.length ch, .slice A l.length c] 37)
  have XB := Lib.hid (boundVars_any O co p H A ch c hs ms l hp hfew hin _ (h.step b0) (h2.step b0))
  have XM := Lib.hid fun (W : World) (hW : Below w.heap.size w W) => missingAtoms_any O co p H A ch c hs l (by omega) (by omega) W (h.step hW)
  have EN := Lib.hid (show nextS ms l p = nextI ms l (bnd l p) (miss l.length p) from rfl)
  have ML_ := Lib.hid (missI_length l.length p)
  have hml := missI_len l.length p
  have MA := Lib.hid fun k => @missI_at l.length p k
  have hbl : (bnd l p).length ≤ 8 := by have := wl_len 10 17 (terms (called l p)); unfold bnd; omega
  generalize bnd l p = bd at XB EN hbl
  generalize missI l.length p = mi at XM ML_ hml MA
  generalize nextS ms l p = res at EN ⊢
  generalize miss l.length p = is at EN ML_ MA
  clear h h1 h2 hfew hin b0
  go_enter Try.func58, Try.ntmps58
  have xq0 := XQ0.out.cell 0
  have xq1 := XQ0.out.cell 1
  simp only [List.getElem?_toArray, List.getElem?_cons_zero, List.getElem?_cons_succ] at xq0 xq1
  go_wp2_with fail
  refine XB.out.mono ?_
  rintro e w1 ⟨v1, rfl, hown1, d1⟩
  obtain ⟨Ab, cb, rfl⟩ := ownsRow_form hown1
  have RB := Lib.hid (show RI w1 Ab bd from (ints_own hown1 (Nat.le_refl _)).mono (Nat.zero_le _) (Nat.le_refl _))
  have T1 := Lib.hid (step B0.out d1)
  have XQ1 := Lib.hid (XQ0.out.step d1)
  clear hown1 d1 XB xq0 xq1 B0 XQ0
  have xq0 := XQ1.out.cell 0
  have xq1 := XQ1.out.cell 1
  simp only [List.getElem?_toArray, List.getElem?_cons_zero, List.getElem?_cons_succ] at xq0 xq1
  go_wp2_with fail
  refine (XM.out _ T1.out).mono ?_
  rintro e w2 ⟨v2, rfl, hown2, d2⟩
  obtain ⟨Am, cm, rfl⟩ := ownsRow_form hown2
  have RMi := Lib.hid (show RI w2 Am mi from (ints_own hown2 (Nat.le_refl _)).mono (Nat.zero_le _) (Nat.le_refl _))
  have T2 := Lib.hid (step T1.out d2)
  have XQ2 := Lib.hid (XQ1.out.step d2)
  have RB2 := Lib.hid (RB.out.step d2)
  clear hown2 d2 XM RB T1 XQ1 xq0 xq1
  have hml' : (mi.length : Int) ≤ 4 := by omega
  have hm5' : (ms.length : Int) ≤ 5 := by omega
  go_wp2
  go_loopw [9, 12, 13, 14, 15, 23, 29] (fun o _ _ _ _ i _ wr => ∃ (k : Nat) (X : Option Addr) (cx : Nat) (out : SL), k ≤ mi.length ∧ i = .int .i64 k ∧ o = .slice X out.length cx ∧ Hid (out = nextI ms l bd (is.take k)) ∧ out.length ≤ 5 * k ∧ Hid (ZS wr w2.heap.size (.slice X out.length cx) out) ∧ Hid (Below w2.heap.size w2 wr)) (fun _ _ _ _ _ i _ _ => mi.length - (intOf i).toNat)
  case atStart => exact ⟨0, none, 0, [], by omega, rfl, rfl, Lib.hid rfl, by simp, Lib.hid (ZS.nil _ _), Lib.hid (Below.refl _ _)⟩
  case round =>
    obtain ⟨k, X, cx, out, hk, rfl, rfl, hO, hol, hown, hb⟩ := hrel
    have hk0 : (0 : Int) ≤ (k : Int) := by omega
    by_cases hlt : k < mi.length
    · have hk1 : (k : Int) < (mi.length : Int) := by omega
      obtain ⟨i, hil, hgi, htk⟩ := MA.out k hlt
      have TK := Lib.hid htk
      obtain ⟨bm, om, rfl, nm, em⟩ := RI.at_ (RMi.out.step hb.out) hlt
      rw [hgi] at em
      generalize hgf : l.getD i noF = gf
      obtain ⟨ra, ts⟩ := gf
      have HGF := Lib.hid hgf
      have hts : ts.length ≤ 3 := by have := hl3.out i hil; rw [hgf] at this; exact this
      have NS := Lib.hid (show nextI ms l bd (is.take (k + 1)) = out ++ (firstsOf ms (ra, ts) bd ms.length).map (fun j : Nat => ((i : Int), (j : Int))) by rw [TK.out, nextI_snoc, hgf, hO.out])
      have hi0 : (0 : Int) ≤ (i : Int) := by omega
      have hi1 : (i : Int) < (l.length : Int) := by omega
      clear htk hgi hgf
      go_wp2
      go_loopw [9, 13, 14, 15, 29] (fun o _ _ _ i2 wr2 => ∃ (j : Nat) (X : Option Addr) (cx : Nat) (out2 : SL), j ≤ ms.length ∧ i2 = .int .i64 j ∧ o = .slice X out2.length cx ∧ Hid (out2 = out ++ (firstsOf ms (ra, ts) bd j).map (fun j : Nat => ((i : Int), (j : Int)))) ∧ out2.length ≤ 5 * k + j ∧ Hid (ZS wr2 w2.heap.size (.slice X out2.length cx) out2) ∧ Hid (Below w2.heap.size w2 wr2)) (fun _ _ _ _ i2 _ => ms.length - (intOf i2).toNat)
      case atStart => exact ⟨0, X, cx, out, by omega, rfl, rfl, Lib.hid (by simp [firstsOf]), by omega, hown, hb⟩
      case round =>
        rename_i wr1
        obtain ⟨j, X2, cx2, out2, hj, rfl, rfl, hO2, hol2, hown2, hb2⟩ := hrel
        have hj0 : (0 : Int) ≤ (j : Int) := by omega
        by_cases hjt : j < ms.length
        · have hj1 : (j : Int) < (ms.length : Int) := by omega
          generalize hf : ms.getD j noM = f
          obtain ⟨r, inp, li, cs, qu⟩ := f
          have hil2 : inp.length ≤ 1048576 := by have := szM_elem hzm hjt; rw [hf] at this; exact this
          have TW := Lib.hid (T2.out.trans (hb2.out.mono T2.out.size))
          obtain ⟨b, off, C, cc, rfl, n1, e0, e1, e2, e3, e4, _, _, hI⟩ := (HM.out.step TW.out).at_ hjt hf
          obtain ⟨bq, oq, B, cB, rfl, nq, g0, g1, hxc, hcm, hJx⟩ := (HF.out.step TW.out).at_ hil HGF.out
          have HIx := Lib.hid hI
          have HJx := Lib.hid hJx
          have RBx := Lib.hid (RB2.out.step hb2.out)
          have XQ3 := XQ2.out.step hb2.out
          have HC := Lib.hid (show canM (ms.getD j noM) (ra, ts) bd = (true && canB r inp ra ts bd) by rw [hf]; rfl)
          obtain ⟨W0, hW0⟩ : ∃ W0, W0 = (wr.alloc (.cells #[.int .i64 r, .slice C inp.length cc, .int .i64 li, .int .i64 cs, .int .i64 qu] 71)).alloc (.cells #[.int .i64 (i : Int), .int .i64 (j : Int)] 68) := ⟨_, rfl⟩
          have bW1 := below_alloc wr (.cells #[.int .i64 r, .slice C inp.length cc, .int .i64 li, .int .i64 cs, .int .i64 qu] 71)
          have bW2 := below_alloc (wr.alloc (.cells #[.int .i64 r, .slice C inp.length cc, .int .i64 li, .int .i64 cs, .int .i64 qu] 71)) (.cells #[.int .i64 (i : Int), .int .i64 (j : Int)] 68)
          have bW : Below wr.heap.size wr W0 := by rw [hW0]; exact step bW1 bW2
          have XMb : Box W0 wr.heap.size #[.int .i64 r, .slice C inp.length cc, .int .i64 li, .int .i64 cs, .int .i64 qu] 71 := by rw [hW0]; exact (Box.new _ _ _).step bW2
          have XSb : Box W0 (wr.heap.size + 1) #[.int .i64 (i : Int), .int .i64 (j : Int)] 68 := by
            have := Box.new (wr.alloc (.cells #[.int .i64 r, .slice C inp.length cc, .int .i64 li, .int .i64 cs, .int .i64 qu] 71)) #[.int .i64 (i : Int), .int .i64 (j : Int)] 68
            rw [al_size] at this
            rw [hW0]; exact this
          have p0 := XMb.cell 0
          have p1 := XMb.cell 1
          have p2 := XMb.cell 2
          have p3 := XMb.cell 3
          have p4 := XMb.cell 4
          have p5 := (XQ3.step bW).cell 1
          have p6 := XSb.cell 0
          have p7 := XSb.cell 1
          simp only [List.getElem?_toArray, List.getElem?_cons_zero, List.getElem?_cons_succ] at p0 p1 p2 p3 p4 p5 p6 p7
          have m0 := cell_regrown p0
          have m1 := cell_regrown p1
          have m2 := cell_regrown p2
          have m3 := cell_regrown p3
          have m4 := cell_regrown p4
          have q1 := cell_regrown p5
          have m6 := cell_regrown p6
          have m7 := cell_regrown p7
          clear p0 p1 p2 p3 p4 p5 p6 p7
          have a0 := cell_regrown ((bW.cell (p := ⟨bq, oq + i * 2, none⟩) nq).trans g0)
          have a1 := cell_regrown ((bW.cell (p := ⟨bq, oq + i * 2 + 1, none⟩) nq).trans g1)
          have BW := Lib.hid bW
          have XS0 := Lib.hid XSb
          have X1 := Lib.hid fun (W : World) (hW : Below W0.heap.size W0 W) => (show Calls Try.prog 97 #[.agg #[.int .i64 r, .slice C inp.length cc, .int .i64 li, .int .i64 cs, .int .i64 qu], .agg #[.int .i64 ra, .slice B ts.length cB], .slice Ab bd.length cb] W fun e w' => e = .returned (.bool (canB r inp ra ts bd)) ∧ Below W.heap.size W w' from impl_CanCall r inp li cs qu C cc ra ts B cB Ab cb bd hil2 (by omega) (by omega) W ((HIx.out.step BW.out).step hW) ((HJx.out.step BW.out).step hW) ((RBx.out.step BW.out).step hW))
          have XU := Lib.hid fun (W : World) (hW : Below W0.heap.size W0 W) => byAny_any (i : Int) (j : Int) W
          generalize hq : canB r inp ra ts bd = q at X1 HC
          have FNy := Lib.hid fun (hx : canM (ms.getD j noM) (ra, ts) bd = true) => firstsOf_yes hx
          have FNn := Lib.hid fun (hx : canM (ms.getD j noM) (ra, ts) bd = false) => firstsOf_no hx
          clear hf hI hJx bW bW1 bW2 XMb XSb hq XQ3 g0 g1
          go_wp2
          rw [← hW0]
          clear hW0
          refine wp_region_quiet_below (by kernel_rfl) (by kernel_rfl) ?_
          repeat (go_big_quiet_step (first | (go_at_call 97; with_reducible exact Calls.regrown_of (X1.out _ (below_regrown _ _ _))) | (go_at_call 59; with_reducible exact Calls.regrown_of (XU.out _ (below_regrown _ _ _)))))
          refine wpQuiet_nil ?_
          intro u hw'
          have b6 : Below wr.heap.size wr u := step BW.out (show Below W0.heap.size W0 u by obtain ⟨⟨dq, osq⟩, rfl⟩ := hw'; exact below_regrown _ _ _)
          have xs6 := XS0.out.step (show Below W0.heap.size W0 u by obtain ⟨⟨dq, osq⟩, rfl⟩ := hw'; exact below_regrown _ _ _)
          have O6 := Lib.hid (hown2.out.step b6)
          have B6 := Lib.hid (step hb2.out b6)
          have SZ6 : w2.heap.size ≤ u.heap.size := by have := B6.out.size; omega
          have s6 := xs6.cell 0
          have s7 := xs6.cell 1
          simp only [List.getElem?_toArray, List.getElem?_cons_zero, List.getElem?_cons_succ] at s6 s7
          clear hw' m0 m1 m2 m3 m4 m6 m7 q1 a0 a1 b6 xs6
          cases q
          · have FN := Lib.hid (FNn.out HC.out)
            go_wp2
            go_roundw
            case rel => exact ⟨j + 1, X2, cx2, out2, by omega, by go_num, rfl, Lib.hid (by rw [FN.out, hO2.out]), by omega, O6, B6⟩
            case measure => simp [intOf]; omega
          · have FN := Lib.hid (FNy.out HC.out)
            have LL := Lib.hid (show (out2 ++ [((i : Int), (j : Int))]).length = out2.length + 1 by simp)
            go_wp2_with (at_builtin; refine wpList_pushZ rfl _ _ 39 rfl i0 Try.underlying39 hi hz0 hz1 hz2 rfl rfl O6.out B6.out SZ6 (by omega) ?_; intro v' w' hz' hb' hs'; obtain ⟨A', c', rfl⟩ := hz'.form)
            go_roundw
            case rel => exact ⟨j + 1, A', c', out2 ++ [((i : Int), (j : Int))], by omega, by go_num, by rw [LL.out], Lib.hid (by rw [FN.out, hO2.out, List.map_append, List.append_assoc]; rfl), by rw [LL.out]; omega, Lib.hid hz', Lib.hid hb'⟩
            case measure => simp [intOf]; omega
        · obtain rfl : j = ms.length := by omega
          have ON := Lib.hid (show out2 = nextI ms l bd (is.take (k + 1)) by rw [NS.out, hO2.out])
          go_wp2
          go_roundw
          case rel => exact ⟨k + 1, X2, cx2, out2, by omega, by go_num, rfl, ON, by omega, hown2, hb2⟩
          case measure => simp [intOf]; omega
    · obtain rfl : k = mi.length := by omega
      have ON := Lib.hid (show out = res by rw [hO.out, ML_.out, take_all, EN.out])
      go_wp2
      go_ret
      have HW := T2.out.trans (hb.out.mono T2.out.size)
      exact ⟨_, rfl, by rw [← ON.out]; exact hown.out.lo T2.out.size, HW⟩
end Go.Proofs.Ytighalbnpgmdfaa
