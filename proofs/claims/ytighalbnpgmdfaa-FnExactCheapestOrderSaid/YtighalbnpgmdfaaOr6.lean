/- The greedy order, of both. Conditions: none beyond each theorem's own. -/
import Derived.Test.YtighalbnpgmdfaaOr5
namespace Go.Proofs.Ytighalbnpgmdfaa
open Go.ChangeShapes Go.WideShapes Go.ChangeAt Go.RowKit Go.Sort
set_option linter.unusedVariables false
set_option linter.unusedSimpArgs false

set_option maxRecDepth 100000 in
set_option maxHeartbeats 1000000 in
theorem firstSteps_any (L : Option Addr) (cl : Nat) (ms : ML) (H A : Option Addr) (ch c : Nat) (hs : List Int) (l : FL) (hfew : FewA l) (hzm : szM ms ≤ 1048576) (hm5 : ms.length ≤ 5) (w : World) (h1 : RM w L ms) (h2 : RF w A l) :
    Calls Try.prog 64 #[.slice L ms.length cl, .agg #[.slice H hs.length ch, .slice A l.length c], .func (.func 59) #[] #[]] w (NxtO w (firstS ms l)) := by
  obtain ⟨i0, hi, hz0, hz1, hz2⟩ := info_parts step_info
  have hl4 := hfew.1
  have HFW := Lib.hid hfew
  have HM := Lib.hid h1
  have HF := Lib.hid h2
  have XQ := Lib.hid (Box.new w #[.slice H hs.length ch, .slice A l.length c] 37)
  have B0 := Lib.hid (below_alloc w (.cells #[.slice H hs.length ch, .slice A l.length c] 37))
  have q0 := XQ.out.cell 0
  have q1 := XQ.out.cell 1
  simp only [List.getElem?_toArray, List.getElem?_cons_zero, List.getElem?_cons_succ] at q0 q1
  have XN := Lib.hid fun (O : Option Addr) (co : Nat) (p : SL) (W : World) (hp : p.length ≤ 4) (hin : InP l ms p) (hW : Below w.heap.size w W) (hO : RZ W O p) => nextSteps_any O co p L cl ms H A ch c hs l hp HFW.out hin hzm hm5 W hO (HM.out.step hW) (HF.out.step hW)
  have NL := Lib.hid fun p => (show (nextS ms l p).length ≤ 20 by have := nextS_len ms l p; have : l.length * ms.length ≤ 4 * 5 := Nat.mul_le_mul hl4 hm5; omega)
  clear h1 h2 hfew
  go_enter Try.func64, Try.ntmps64
  go_wp2_with fail
  refine (XN.out none 0 [] _ (by simp) (InP.nil l ms) B0.out (RZ.nil _ _)).mono ?_
  rintro e u ⟨v, rfl, hz, d⟩
  obtain ⟨A2, c2, rfl⟩ := hz.form
  have R2 := Lib.hid hz.rz
  have D := Lib.hid (step B0.out d)
  have XQ2 := Lib.hid (XQ.out.step d)
  clear hz d q0 q1
  go_wp2
  go_loopg [7, 8] l.length (fun gk ov nv wr => ∃ (k : Nat) (p nx : SL) (Ao An : Option Addr) (co cn : Nat), k + gk = l.length ∧ Hid (p = gr ms l k) ∧ Hid (nx = nextS ms l p) ∧ Hid (p.length = k) ∧ ov = .slice Ao p.length co ∧ nv = .slice An nx.length cn ∧ Hid (ZS wr (w.heap.size + 1) (.slice Ao p.length co) p) ∧ Hid (RZ wr An nx) ∧ Hid (Below w.heap.size w wr) ∧ Hid (Box wr w.heap.size #[.slice H hs.length ch, .slice A l.length c] 37))
  case atStart => exact ⟨0, [], _, none, A2, 0, c2, by omega, Lib.hid rfl, Lib.hid rfl, Lib.hid rfl, rfl, rfl, Lib.hid (ZS.nil _ _), R2, D, XQ2⟩
  case round =>
    obtain ⟨k, p, nx, Ao, An, co, cn, hkg, hpk, hnx, hpl, rfl, rfl, hz, hr, hb, xq⟩ := hrel
    by_cases hnn : nx = []
    · have FS := Lib.hid (show p = firstS ms l by rw [hpk.out]; exact gr_stop (by have := hpl.out; omega) (by rw [← hpk.out, ← hnx.out, hnn]))
      have hn0 : nx.length = 0 := by rw [hnn]; rfl
      clear hnn
      go_wp2
      go_ret
      exact ⟨_, rfl, by rw [← FS.out]; exact hz.out.lo (by omega), hb.out⟩
    · obtain ⟨a, m, rest, hnn⟩ : ∃ a m rest, nx = (a, m) :: rest := by
        rcases h : nx with _ | ⟨⟨a, m⟩, rest⟩
        · exact absurd h hnn
        · exact ⟨a, m, rest, rfl⟩
      have hp : 0 < nx.length := by rw [hnn]; simp
      have HD := Lib.hid (show nx.getD 0 (0, 0) = (a, m) by rw [hnn]; rfl)
      obtain ⟨b, off, rfl, nb, e0, e1⟩ := hr.out.at_ hp HD.out
      rw [Nat.zero_mul, Nat.add_zero] at e0
      rw [Nat.zero_mul, Nat.add_zero] at e1
      have FL_ := Lib.hid (show FullM l p by rw [hpk.out]; exact gr_full ms l k)
      have hlt : p.length < l.length := FL_.out.lt (ms := ms) (by rw [← hnx.out, hnn]; simp)
      have GS := Lib.hid (show p ++ [(a, m)] = gr ms l (k + 1) by show _ = stepG ms l (gr ms l k); rw [← hpk.out, stepG_cons (by rw [← hnx.out, hnn])])
      have LL := Lib.hid (show (p ++ [(a, m)]).length = p.length + 1 by simp)
      have IN := Lib.hid (show InP l ms (p ++ [(a, m)]) by rw [GS.out]; exact gr_in ms l (k + 1))
      have hn0 : (0 : Int) < (nx.length : Int) := by omega
      have e0' : decide ((0 : Int) < (nx.length : Int)) = true := by simp; omega
      have SZ : w.heap.size + 1 ≤ wr.heap.size := xq.out.lt
      have hnl : nx.length ≤ 20 := by rw [hnx.out]; exact NL.out p
      obtain ⟨g, rfl⟩ : ∃ g, gk = g + 1 := ⟨gk - 1, by have := hpl.out; omega⟩
      clear hnn
      go_wp2_with (at_builtin; refine wpList_pushZ rfl _ _ 80 rfl i0 Try.underlying80 hi hz0 hz1 hz2 rfl rfl hz.out (Below.refl (w.heap.size + 1) wr) SZ (by omega) ?_; intro v' w5 hz5 hb5 hs5; obtain ⟨A5, c5, rfl⟩ := hz5.form
                   have Z5 := Lib.hid hz5
                   have XQ5 := Lib.hid (show Box w5 w.heap.size #[.slice H hs.length ch, .slice A l.length c] 37 from (hb5.block _ (by omega)).trans xq.out)
                   have B5 := Lib.hid (hb.out.trans (hb5.mono (by omega)))
                   have q0 := XQ5.out.cell 0
                   have q1 := XQ5.out.cell 1
                   simp only [List.getElem?_toArray, List.getElem?_cons_zero, List.getElem?_cons_succ] at q0 q1
                   have XN5 := Lib.hid (XN.out A5 c5 (p ++ [(a, m)]) w5 (by rw [LL.out]; omega) IN.out B5.out Z5.out.rz)
                   rw [LL.out] at XN5
                   clear hz5 hb5 e0 e1 nb)
      refine XN5.out.mono ?_
      rintro e u5 ⟨v8, rfl, hz8, d⟩
      obtain ⟨A8, c8, rfl⟩ := hz8.form
      have R8 := Lib.hid hz8.rz
      have Z8 := Lib.hid (Z5.out.step d)
      have XQ8 := Lib.hid (XQ5.out.step d)
      have B8 := Lib.hid (step B5.out d)
      clear hz8 d q0 q1
      go_wp2
      go_roundg g
      case measure => omega
      case rel => exact ⟨k + 1, p ++ [(a, m)], _, A5, A8, c5, c8, by omega, GS, Lib.hid rfl, Lib.hid (by rw [LL.out, hpl.out]), by rw [LL.out], rfl, Z8, R8, B8, XQ8⟩

theorem firstsOf_pre (ms : ML) (a : Int × List Int) (bd : List Int) (m : Nat) : ∀ j, ∃ r, firstsOf ms a bd (m + j) = firstsOf ms a bd m ++ r
  | 0 => ⟨[], by simp⟩
  | j + 1 => by
    obtain ⟨r, hr⟩ := firstsOf_pre ms a bd m j
    by_cases h : canM (ms.getD (m + j) noM) a bd = true
    · exact ⟨r ++ [m + j], by rw [← Nat.add_assoc, firstsOf_yes h, hr, List.append_assoc]⟩
    · exact ⟨r, by rw [← Nat.add_assoc, firstsOf_no (by simpa using h), hr]⟩
/-- The first method by which the atom can be called, or -1. -/
def firstI (ms : ML) (a : Int × List Int) (bd : List Int) : Int := match firstsOf ms a bd ms.length with | [] => -1 | j :: _ => (j : Int)
theorem firstI_yes {ms : ML} {a : Int × List Int} {bd : List Int} {k : Nat} (hk : k < ms.length) (h0 : firstsOf ms a bd k = []) (h : canM (ms.getD k noM) a bd = true) : firstI ms a bd = (k : Int) := by
  obtain ⟨r, hr⟩ := firstsOf_pre ms a bd (k + 1) (ms.length - (k + 1))
  rw [show k + 1 + (ms.length - (k + 1)) = ms.length by omega, firstsOf_yes h, h0] at hr
  unfold firstI
  rw [hr]
  rfl
theorem firstI_no {ms : ML} {a : Int × List Int} {bd : List Int} (h0 : firstsOf ms a bd ms.length = []) : firstI ms a bd = -1 := by
  unfold firstI
  rw [h0]

set_option maxRecDepth 100000 in
set_option maxHeartbeats 1000000 in
theorem l6First_any (L : Option Addr) (cl : Nat) (ms : ML) (ra : Int) (ts : List Int) (A : Option Addr) (c : Nat) (bd : List Int) (B : Option Addr) (cb : Nat) (hzm : szM ms ≤ 1048576) (hl : ts.length ≤ 1048576) (hlb : bd.length ≤ 1048576) (w : World) (h : RM w L ms) (h1 : RI w A ts) (h2 : RI w B bd) :
    Calls Try.prog 99 #[.slice L ms.length cl, .agg #[.int .i64 ra, .slice A ts.length c], .slice B bd.length cb] w fun e w' => e = .returned (.int .i64 (firstI ms (ra, ts) bd)) ∧ Below w.heap.size w w' := by
  have hl1 := szM_len hzm
  have hl1' : (ms.length : Int) ≤ 1048576 := by omega
  have XA := Lib.hid (Box.new w #[.int .i64 ra, .slice A ts.length c] 73)
  have B0 := Lib.hid (below_alloc w (.cells #[.int .i64 ra, .slice A ts.length c] 73))
  have HM := Lib.hid h
  have HI := Lib.hid h1
  have HJ := Lib.hid h2
  clear h h1 h2
  go_enter Try.func99, Try.ntmps99
  go_wp2
  go_loopw [7] (fun i wr => ∃ k : Nat, k ≤ ms.length ∧ i = .int .i64 k ∧ Hid (firstsOf ms (ra, ts) bd k = []) ∧ Hid (Below w.heap.size w wr) ∧ Hid (Box wr w.heap.size #[.int .i64 ra, .slice A ts.length c] 73)) (fun i _ => ms.length - (intOf i).toNat)
  case atStart => exact ⟨0, by omega, rfl, Lib.hid rfl, B0, XA⟩
  case round =>
    obtain ⟨k, hk, rfl, hf0, hb, xa⟩ := hrel
    have hk0 : (0 : Int) ≤ (k : Int) := by omega
    by_cases hlt : k < ms.length
    · have hk1 : (k : Int) < (ms.length : Int) := by omega
      generalize hf : ms.getD k noM = f
      obtain ⟨r, inp, li, cs, qu⟩ := f
      have hil2 : inp.length ≤ 1048576 := by have := szM_elem hzm hlt; rw [hf] at this; exact this
      obtain ⟨b, off, C, cc, rfl, n1, e0, e1, e2, e3, e4, _, _, hI⟩ := (HM.out.step hb.out).at_ hlt hf
      have p0 := xa.out.cell 0
      have p1 := xa.out.cell 1
      simp only [List.getElem?_toArray, List.getElem?_cons_zero, List.getElem?_cons_succ] at p0 p1
      have a0 := cell_regrown p0
      have a1 := cell_regrown p1
      have m0 := cell_regrown e0
      have m1 := cell_regrown e1
      have m2 := cell_regrown e2
      have m3 := cell_regrown e3
      have m4 := cell_regrown e4
      have HIx := Lib.hid (show RI wr C inp from hI)
      have X1 := Lib.hid fun (W : World) (hW : Below wr.heap.size wr W) => (show Calls Try.prog 51 #[.agg #[.int .i64 r, .slice C inp.length cc, .int .i64 li, .int .i64 cs, .int .i64 qu], .agg #[.int .i64 ra, .slice A ts.length c], .slice B bd.length cb] W fun e w' => e = .returned (.bool (canB r inp ra ts bd)) ∧ Below W.heap.size W w' from spec_CanCall r inp li cs qu C cc ra ts A c B cb bd hil2 (by omega) (by omega) W (HIx.out.step hW) (HI.out.step (step hb.out hW)) (HJ.out.step (step hb.out hW)))
      have HC := Lib.hid (show canM (ms.getD k noM) (ra, ts) bd = canB r inp ra ts bd by rw [hf]; rfl)
      generalize canB r inp ra ts bd = q at X1 HC
      clear hf hI e0 e1 e2 e3 e4 p0 p1
      cases q
      · go_wp2
        refine wp_region_quiet_below (by kernel_rfl) (by kernel_rfl) ?_
        repeat (go_big_quiet_step (first | (go_at_call 51; with_reducible exact Calls.regrown_of (X1.out _ (below_regrown _ _ _)))))
        refine wpQuiet_nil ?_
        intro u2 hw'
        have b6 : Below wr.heap.size wr u2 := by obtain ⟨⟨dq, osq⟩, rfl⟩ := hw'; exact below_regrown _ _ _
        have T6 := Lib.hid (step hb.out b6)
        have XA6 := Lib.hid (xa.out.step b6)
        have F6 := Lib.hid (show firstsOf ms (ra, ts) bd (k + 1) = [] by rw [firstsOf_no HC.out, hf0.out])
        clear hw' b6 a0 a1 m0 m1 m2 m3 m4
        go_wp2
        go_roundw
        case rel => exact ⟨k + 1, by omega, by go_num, F6, T6, XA6⟩
        case measure => simp [intOf]; omega
      · go_wp2
        refine wp_region_quiet_below (by kernel_rfl) (by kernel_rfl) ?_
        repeat (go_big_quiet_step (first | (go_at_call 51; with_reducible exact Calls.regrown_of (X1.out _ (below_regrown _ _ _)))))
        refine wpQuiet_nil ?_
        intro u2 hw'
        have b6 : Below wr.heap.size wr u2 := by obtain ⟨⟨dq, osq⟩, rfl⟩ := hw'; exact below_regrown _ _ _
        have T6 := Lib.hid (step hb.out b6)
        have F6 := Lib.hid (firstI_yes hlt hf0.out HC.out)
        clear hw' b6 a0 a1 m0 m1 m2 m3 m4
        go_wp2
        go_ret
        exact ⟨ret_int F6.out.symm, T6.out⟩
    · obtain rfl : k = ms.length := by omega
      go_wp2
      go_ret
      exact ⟨ret_int (firstI_no hf0.out).symm, hb.out⟩
end Go.Proofs.Ytighalbnpgmdfaa
