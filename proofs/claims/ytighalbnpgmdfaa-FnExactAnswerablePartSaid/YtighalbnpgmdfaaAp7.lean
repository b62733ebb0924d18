/- The greedy order, of both. Conditions: none beyond each theorem's own. The model's greedy order. Conditions: none beyond each theorem's own. -/
import Derived.Test.YtighalbnpgmdfaaAp6

namespace Go.Proofs.Ytighalbnpgmdfaa
open Go.ChangeShapes Go.WideShapes Go.ChangeAt Go.RowKit Go.Sort
set_option linter.unusedVariables false
set_option linter.unusedSimpArgs false

set_option maxRecDepth 100000 in
set_option maxHeartbeats 1000000 in
theorem firstSteps_any (L : Option Addr) (cl : Nat) (ms : ML) (H A : Option Addr) (ch c : Nat) (hs : List Int) (l : FL) (hfew : FewA l) (hzm : szM ms ≤ 1048576) (hm5 : ms.length ≤ 5) (w : World) (h1 : RM w L ms) (h2 : RF w A l) :
    Calls Try.prog 64 #[.slice L ms.length cl, .agg #[.slice H hs.length ch, .slice A l.length c], .func (.func 59) #[] #[]] w (NxtO w (firstS ms l)) := by
  obtain ⟨i0, hi, hz0, hz1, hz2⟩ := info_parts step_info
  have hl4 := hfew.1
  have HFW := Lib.hid hfew
  have HM := Lib.hid h1
  have HF := Lib.hid h2
  have XQ := Lib.hid (Box.new w #[.slice H hs.length ch, .slice A l.length c] 37)
  have B0 := Lib.hid (below_alloc w (.cells #[.slice H hs.length ch, .slice A l.length c] 37))
  have q0 := XQ.out.cell 0
  have q1 := XQ.out.cell 1
  simp only [List.getElem?_toArray, List.getElem?_cons_zero, List.getElem?_cons_succ] at q0 q1
  have XN := Lib.hid fun (O : Option Addr) (co : Nat) (p : SL) (W : World) (hp : p.length ≤ 4) (hin : InP l ms p) (hW : Below w.heap.size w W) (hO : RZ W O p) => nextSteps_any O co p L cl ms H A ch c hs l hp HFW.out hin hzm hm5 W hO (HM.out.step hW) (HF.out.step hW)
  have NL := Lib.hid fun p => (show (nextS ms l p).length ≤ 20 by have := nextS_len ms l p; have : l.length * ms.length ≤ 4 * 5 := Nat.mul_le_mul hl4 hm5; omega)
  clear h1 h2 hfew
  go_enter Try.func64, Try.ntmps64
  go_wp2_with fail
  refine (XN.out none 0 [] _ (by simp) (InP.nil l ms) B0.out (RZ.nil _ _)).mono ?_
  rintro e u ⟨v, rfl, hz, d⟩
  obtain ⟨A2, c2, rfl⟩ := hz.form
  have R2 := Lib.hid hz.rz
  have D := Lib.hid (step B0.out d)
  have XQ2 := Lib.hid (XQ.out.step d)
  clear hz d q0 q1
  go_wp2
  go_loopg [7, 8] l.length (fun gk ov nv wr => ∃ (k : Nat) (p nx : SL) (Ao An : Option Addr) (co cn : Nat), k + gk = l.length ∧ Hid (p = gr ms l k) ∧ Hid (nx = nextS ms l p) ∧ Hid (p.length = k) ∧ ov = .slice Ao p.length co ∧ nv = .slice An nx.length cn ∧ Hid (ZS wr (w.heap.size + 1) (.slice Ao p.length co) p) ∧ Hid (RZ wr An nx) ∧ Hid (Below w.heap.size w wr) ∧ Hid (Box wr w.heap.size #[.slice H hs.length ch, .slice A l.length c] 37))
  case atStart => exact ⟨0, [], _, none, A2, 0, c2, by omega, Lib.hid rfl, Lib.hid rfl, Lib.hid rfl, rfl, rfl, Lib.hid (ZS.nil _ _), R2, D, XQ2⟩
  case round =>
    obtain ⟨k, p, nx, Ao, An, co, cn, hkg, hpk, hnx, hpl, rfl, rfl, hz, hr, hb, xq⟩ := hrel
    by_cases hnn : nx = []
    · have FS := Lib.hid (show p = firstS ms l by rw [hpk.out]; exact gr_stop (by have := hpl.out; omega) (by rw [← hpk.out, ← hnx.out, hnn]))
      have hn0 : nx.length = 0 := by rw [hnn]; rfl
      clear hnn
      go_wp2
      go_ret
      exact ⟨_, rfl, by rw [← FS.out]; exact hz.out.lo (by omega), hb.out⟩
    · obtain ⟨a, m, rest, hnn⟩ : ∃ a m rest, nx = (a, m) :: rest := by
        rcases h : nx with _ | ⟨⟨a, m⟩, rest⟩
        · exact absurd h hnn
        · exact ⟨a, m, rest, rfl⟩
      have hp : 0 < nx.length := by rw [hnn]; simp
      have HD := Lib.hid (show nx.getD 0 (0, 0) = (a, m) by rw [hnn]; rfl)
      obtain ⟨b, off, rfl, nb, e0, e1⟩ := hr.out.at_ hp HD.out
      rw [Nat.zero_mul, Nat.add_zero] at e0
      rw [Nat.zero_mul, Nat.add_zero] at e1
      have FL_ := Lib.hid (show FullM l p by rw [hpk.out]; exact gr_full ms l k)
      have hlt : p.length < l.length := FL_.out.lt (ms := ms) (by rw [← hnx.out, hnn]; simp)
      have GS := Lib.hid (show p ++ [(a, m)] = gr ms l (k + 1) by show _ = stepG ms l (gr ms l k); rw [← hpk.out, stepG_cons (by rw [← hnx.out, hnn])])
      have LL := Lib.hid (show (p ++ [(a, m)]).length = p.length + 1 by simp)
      have IN := Lib.hid (show InP l ms (p ++ [(a, m)]) by rw [GS.out]; exact gr_in ms l (k + 1))
      have hn0 : (0 : Int) < (nx.length : Int) := by omega
      have e0' : decide ((0 : Int) < (nx.length : Int)) = true := by simp; omega
      have SZ : w.heap.size + 1 ≤ wr.heap.size := xq.out.lt
      have hnl : nx.length ≤ 20 := by rw [hnx.out]; exact NL.out p
      obtain ⟨g, rfl⟩ : ∃ g, gk = g + 1 := ⟨gk - 1, by have := hpl.out; omega⟩
      clear hnn
      go_wp2_with (at_builtin; refine wpList_pushZ rfl _ _ 80 rfl i0 Try.underlying80 hi hz0 hz1 hz2 rfl rfl hz.out (Below.refl (w.heap.size + 1) wr) SZ (by omega) ?_; intro v' w5 hz5 hb5 hs5; obtain ⟨A5, c5, rfl⟩ := hz5.form
                   have Z5 := Lib.hid hz5
                   have XQ5 := Lib.hid (show Box w5 w.heap.size #[.slice H hs.length ch, .slice A l.length c] 37 from (hb5.block _ (by omega)).trans xq.out)
                   have B5 := Lib.hid (hb.out.trans (hb5.mono (by omega)))
                   have q0 := XQ5.out.cell 0
                   have q1 := XQ5.out.cell 1
                   simp only [List.getElem?_toArray, List.getElem?_cons_zero, List.getElem?_cons_succ] at q0 q1
                   have XN5 := Lib.hid (XN.out A5 c5 (p ++ [(a, m)]) w5 (by rw [LL.out]; omega) IN.out B5.out Z5.out.rz)
                   rw [LL.out] at XN5
                   clear hz5 hb5 e0 e1 nb)
      refine XN5.out.mono ?_
      rintro e u5 ⟨v8, rfl, hz8, d⟩
      obtain ⟨A8, c8, rfl⟩ := hz8.form
      have R8 := Lib.hid hz8.rz
      have Z8 := Lib.hid (Z5.out.step d)
      have XQ8 := Lib.hid (XQ5.out.step d)
      have B8 := Lib.hid (step B5.out d)
      clear hz8 d q0 q1
      go_wp2
      go_roundg g
      case measure => omega
      case rel => exact ⟨k + 1, p ++ [(a, m)], _, A5, A8, c5, c8, by omega, GS, Lib.hid rfl, Lib.hid (by rw [LL.out, hpl.out]), by rw [LL.out], rfl, Z8, R8, B8, XQ8⟩

theorem firstsOf_pre (ms : ML) (a : Int × List Int) (bd : List Int) (m : Nat) : ∀ j, ∃ r, firstsOf ms a bd (m + j) = firstsOf ms a bd m ++ r
  | 0 => ⟨[], by simp⟩
  | j + 1 => by
    obtain ⟨r, hr⟩ := firstsOf_pre ms a bd m j
    by_cases h : canM (ms.getD (m + j) noM) a bd = true
    · exact ⟨r ++ [m + j], by rw [← Nat.add_assoc, firstsOf_yes h, hr, List.append_assoc]⟩
    · exact ⟨r, by rw [← Nat.add_assoc, firstsOf_no (by simpa using h), hr]⟩
/-- The first method by which the atom can be called, or -1. -/
def firstI (ms : ML) (a : Int × List Int) (bd : List Int) : Int := match firstsOf ms a bd ms.length with | [] => -1 | j :: _ => (j : Int)
theorem firstI_yes {ms : ML} {a : Int × List Int} {bd : List Int} {k : Nat} (hk : k < ms.length) (h0 : firstsOf ms a bd k = []) (h : canM (ms.getD k noM) a bd = true) : firstI ms a bd = (k : Int) := by
  obtain ⟨r, hr⟩ := firstsOf_pre ms a bd (k + 1) (ms.length - (k + 1))
  rw [show k + 1 + (ms.length - (k + 1)) = ms.length by omega, firstsOf_yes h, h0] at hr
  unfold firstI
  rw [hr]
  rfl
theorem firstI_no {ms : ML} {a : Int × List Int} {bd : List Int} (h0 : firstsOf ms a bd ms.length = []) : firstI ms a bd = -1 := by
  unfold firstI
  rw [h0]

set_option maxRecDepth 100000 in
set_option maxHeartbeats 1000000 in
theorem l6First_any (L : Option Addr) (cl : Nat) (ms : ML) (ra : Int) (ts : List Int) (A : Option Addr) (c : Nat) (bd : List Int) (B : Option Addr) (cb : Nat) (hzm : szM ms ≤ 1048576) (hl : ts.length ≤ 1048576) (hlb : bd.length ≤ 1048576) (w : World) (h : RM w L ms) (h1 : RI w A ts) (h2 : RI w B bd) :
    Calls Try.prog 99 #[.slice L ms.length cl, .agg #[.int .i64 ra, .slice A ts.length c], .slice B bd.length cb] w fun e w' => e = .returned (.int .i64 (firstI ms (ra, ts) bd)) ∧ Below w.heap.size w w' := by
  have hl1 := szM_len hzm
  have hl1' : (ms.length : Int) ≤ 1048576 := by omega
  have XA := Lib.hid (Box.new w #[.int .i64 ra, .slice A ts.length c] 73)
  have B0 := Lib.hid (below_alloc w (.cells #[.int .i64 ra, .slice A ts.length c] 73))
  have HM := Lib.hid h
  have HI := Lib.hid h1
  have HJ := Lib.hid h2
  clear h h1 h2
  go_enter Try.func99, Try.ntmps99
  go_wp2
  go_loopw [7] (fun i wr => ∃ k : Nat, k ≤ ms.length ∧ i = .int .i64 k ∧ Hid (firstsOf ms (ra, ts) bd k = []) ∧ Hid (Below w.heap.size w wr) ∧ Hid (Box wr w.heap.size #[.int .i64 ra, .slice A ts.length c] 73)) (fun i _ => ms.length - (intOf i).toNat)
  case atStart => exact ⟨0, by omega, rfl, Lib.hid rfl, B0, XA⟩
  case round =>
    obtain ⟨k, hk, rfl, hf0, hb, xa⟩ := hrel
    have hk0 : (0 : Int) ≤ (k : Int) := by omega
    by_cases hlt : k < ms.length
    · have hk1 : (k : Int) < (ms.length : Int) := by omega
      generalize hf : ms.getD k noM = f
      obtain ⟨r, inp, li, cs, qu⟩ := f
      have hil2 : inp.length ≤ 1048576 := by have := szM_elem hzm hlt; rw [hf] at this; exact this
      obtain ⟨b, off, C, cc, rfl, n1, e0, e1, e2, e3, e4, _, _, hI⟩ := (HM.out.step hb.out).at_ hlt hf
      have p0 := xa.out.cell 0
      have p1 := xa.out.cell 1
      simp only [List.getElem?_toArray, List.getElem?_cons_zero, List.getElem?_cons_succ] at p0 p1
      have a0 := cell_regrown p0
      have a1 := cell_regrown p1
      have m0 := cell_regrown e0
      have m1 := cell_regrown e1
      have m2 := cell_regrown e2
      have m3 := cell_regrown e3
      have m4 := cell_regrown e4
      have HIx := Lib.hid (show RI wr C inp from hI)
      have X1 := Lib.hid fun (W : World) (hW : Below wr.heap.size wr W) => (show Calls Try.prog 51 #[.agg #[.int .i64 r, .slice C inp.length cc, .int .i64 li, .int .i64 cs, .int .i64 qu], .agg #[.int .i64 ra, .slice A ts.length c], .slice B bd.length cb] W fun e w' => e = .returned (.bool (canB r inp ra ts bd)) ∧ Below W.heap.size W w' from spec_CanCall r inp li cs qu C cc ra ts A c B cb bd hil2 (by omega) (by omega) W (HIx.out.step hW) (HI.out.step (step hb.out hW)) (HJ.out.step (step hb.out hW)))
      have HC := Lib.hid (show canM (ms.getD k noM) (ra, ts) bd = canB r inp ra ts bd by rw [hf]; rfl)
      generalize canB r inp ra ts bd = q at X1 HC
      clear hf hI e0 e1 e2 e3 e4 p0 p1
      cases q
      · go_wp2
        refine wp_region_quiet_below (by kernel_rfl) (by kernel_rfl) ?_
        repeat (go_big_quiet_step (first | (go_at_call 51; with_reducible exact Calls.regrown_of (X1.out _ (below_regrown _ _ _)))))
        refine wpQuiet_nil ?_
        intro u2 hw'
        have b6 : Below wr.heap.size wr u2 := by obtain ⟨⟨dq, osq⟩, rfl⟩ := hw'; exact below_regrown _ _ _
        have T6 := Lib.hid (step hb.out b6)
        have XA6 := Lib.hid (xa.out.step b6)
        have F6 := Lib.hid (show firstsOf ms (ra, ts) bd (k + 1) = [] by rw [firstsOf_no HC.out, hf0.out])
        clear hw' b6 a0 a1 m0 m1 m2 m3 m4
        go_wp2
        go_roundw
        case rel => exact ⟨k + 1, by omega, by go_num, F6, T6, XA6⟩
        case measure => simp [intOf]; omega
      · go_wp2
        refine wp_region_quiet_below (by kernel_rfl) (by kernel_rfl) ?_
        repeat (go_big_quiet_step (first | (go_at_call 51; with_reducible exact Calls.regrown_of (X1.out _ (below_regrown _ _ _)))))
        refine wpQuiet_nil ?_
        intro u2 hw'
        have b6 : Below wr.heap.size wr u2 := by obtain ⟨⟨dq, osq⟩, rfl⟩ := hw'; exact below_regrown _ _ _
        have T6 := Lib.hid (step hb.out b6)
        have F6 := Lib.hid (firstI_yes hlt hf0.out HC.out)
        clear hw' b6 a0 a1 m0 m1 m2 m3 m4
        go_wp2
        go_ret
        exact ⟨ret_int F6.out.symm, T6.out⟩
    · obtain rfl : k = ms.length := by omega
      go_wp2
      go_ret
      exact ⟨ret_int (firstI_no hf0.out).symm, hb.out⟩
end Go.Proofs.Ytighalbnpgmdfaa

namespace Go.Proofs.Ytighalbnpgmdfaa
open Go.ChangeShapes Go.WideShapes Go.ChangeAt Go.RowKit Go.Sort
set_option linter.unusedVariables false
set_option linter.unusedSimpArgs false

theorem nextI_append (ms : ML) (l : FL) (bd : List Int) (xs ys : List Nat) : nextI ms l bd (xs ++ ys) = nextI ms l bd xs ++ nextI ms l bd ys := by simp [nextI]
theorem nextI_one (ms : ML) (l : FL) (bd : List Int) (i : Nat) : nextI ms l bd [i] = (firstsOf ms (l.getD i noF) bd ms.length).map fun j : Nat => ((i : Int), (j : Int)) := by simp [nextI]
theorem miss_pre (p : SL) (m : Nat) : ∀ j, ∃ r, miss (m + j) p = miss m p ++ r
  | 0 => ⟨[], by simp⟩
  | j + 1 => by
    obtain ⟨r, hr⟩ := miss_pre p m j
    by_cases h : usedB p ((m + j : Nat) : Int) = true
    · exact ⟨r, by rw [← Nat.add_assoc, miss_no h, hr]⟩
    · exact ⟨r ++ [m + j], by rw [← Nat.add_assoc, miss_yes (by simpa using h), hr, List.append_assoc]⟩
theorem firstI_cases (ms : ML) (a : Int × List Int) (bd : List Int) : (firstsOf ms a bd ms.length = [] ∧ firstI ms a bd = -1) ∨ ∃ (j : Nat) (r : List Nat), firstsOf ms a bd ms.length = j :: r ∧ firstI ms a bd = (j : Int) ∧ j < ms.length := by
  rcases h : firstsOf ms a bd ms.length with _ | ⟨j, r⟩
  · exact .inl ⟨rfl, firstI_no h⟩
  · refine .inr ⟨j, r, rfl, by unfold firstI; rw [h], ?_⟩
    have : j ∈ firstsOf ms a bd ms.length := by rw [h]; simp
    unfold firstsOf at this
    rw [List.mem_filter] at this
    simpa using this.1
theorem greedy_hit {ms : ML} {l : FL} {p : SL} {i j : Nat} {r : List Nat} (hi : i < l.length) (h0 : nextI ms l (bnd l p) (miss i p) = []) (hu : usedB p (i : Int) = false) (hf : firstsOf ms (l.getD i noF) (bnd l p) ms.length = j :: r) : stepG ms l p = p ++ [((i : Int), (j : Int))] := by
  obtain ⟨q, hq⟩ := miss_pre p (i + 1) (l.length - (i + 1))
  rw [show i + 1 + (l.length - (i + 1)) = l.length by omega, miss_yes hu] at hq
  have : nextS ms l p = ((i : Int), (j : Int)) :: ((r.map fun j : Nat => ((i : Int), (j : Int))) ++ nextI ms l (bnd l p) q) := by
    unfold nextS
    rw [hq, nextI_append, nextI_append, h0, nextI_one, hf]
    rfl
  exact stepG_cons this
theorem greedy_skip {ms : ML} {l : FL} {p : SL} {i : Nat} (h0 : nextI ms l (bnd l p) (miss i p) = []) (h : usedB p (i : Int) = true ∨ firstsOf ms (l.getD i noF) (bnd l p) ms.length = []) : nextI ms l (bnd l p) (miss (i + 1) p) = [] := by
  by_cases hu : usedB p (i : Int) = true
  · rw [miss_no hu, h0]
  · rcases h with h | h
    · exact absurd h hu
    · rw [miss_yes (by simpa using hu), nextI_append, h0, nextI_one, h]
      rfl
theorem own_ne {w : World} {base base' n : Nat} {v v' : Value} {l : SL} {cs : List Value} (h : ZS w base v l) (h' : w.ownsRow base' 3 1 v' n cs) : ∀ g, v.ownBlock = some g → v'.ownBlock ≠ some g := fun g hg hg' => by
  rcases h.2 with ⟨rfl, _⟩ | ⟨k, cap, cur, rfl, _, hk, _⟩
  · cases hg
  · rcases h'.2 with ⟨rfl, _⟩ | ⟨k', cap', cur', rfl, _, hk', _⟩
    · cases hg'
    · have e1 : k = g := by simpa [Value.ownBlock] using hg
      have e2 : k' = g := by simpa [Value.ownBlock] using hg'
      subst e1 e2
      rw [hk] at hk'
      injection hk' with hk'
      injection hk' with _ ht
      exact absurd ht (by decide)
theorem own_sep {w : World} {base base' n : Nat} {v v' : Value} {l : SL} {cs : List Value} (h : ZS w base v l) (h' : w.ownsRow base' 3 1 v' n cs) : v'.ownBlock = none ∨ v'.ownBlock ≠ v.ownBlock := by
  rcases hx : v'.ownBlock with _ | g
  · exact .inl rfl
  · exact .inr fun e => own_ne h h' g e.symm hx
theorem own_sep' {w : World} {base base' n : Nat} {v v' : Value} {l : SL} {cs : List Value} (h : ZS w base v l) (h' : w.ownsRow base' 3 1 v' n cs) : v.ownBlock = none ∨ v.ownBlock ≠ v'.ownBlock := by
  rcases hx : v.ownBlock with _ | g
  · exact .inl rfl
  · exact .inr fun e => own_ne h h' g hx e.symm
/-- append(v, y) of one step, in a new block: what is turned is v's own block. -/
theorem wpList_pushG2 {P : Program} {W : World} {ops : Array Oper} {rest : List Oper} {o : Oper} {a : Act} {Q : Exit → Act → World → Prop} (hgd : o.guard = none) (s x : Operand) (t : TypeId)
    (ho : o.op = .call { callee := .builtin .append, args := #[s, x], argTypes := #[t, t] })
    (i : TypeInfo) (ht : P.underlying t = some (.slice 68)) (hi : P.info? 68 = some i) (hz : i.zero = some (.agg #[.int .i64 0, .int .i64 0])) (hz1 : i.size = 2) (hz2 : i.bytes = 16)
    {base : Nat} {v : Value} {l : SL} {y1 y2 : Int} (hs : a.eval s = v) (hx : a.eval x = .slice (some ⟨W.heap.size, 0, none⟩) 1 1)
    (hown : ZS W base v l) (hbase : base ≤ W.heap.size) (hn : l.length + 1 ≤ 1048580)
    (h : ∀ v' w', ZS w' base v' (l ++ [(y1, y2)]) → W.grownBy w' v.ownBlock → wpList P ops Q rest (a.put o.dst v') w') :
    wpList P ops Q (o :: rest) a (W.alloc (.cells #[.int .i64 y1, .int .i64 y2] 68)) := by
  refine wpList_append_own (P := P) _ hgd s x t ho base 68 i _ 2 16 ht hi hz hz1 hz2 rfl (by omega) v l.length _ hs (hown.alloc _) ⟨W.heap.size, 0, none⟩ 1 1 [.int .i64 y1, .int .i64 y2] hx rfl
    (World.news_of_block (cs := #[.int .i64 y1, .int .i64 y2]) (t := 68) (fr := (0, 0)) (heap_alloc_new W _)) (by simp [Value.oneCell'])
    (by unfold maxLen; omega) (by omega) (by simp; omega) ?_
  intro v' w' hown' hg _
  refine h v' w' ?_ ((World.grownBy_alloc _ _ _).trans hg)
  unfold ZS
  rw [flatZ_snoc, List.length_append]
  exact hown'

set_option maxRecDepth 100000 in
set_option maxHeartbeats 2000000 in
theorem l6Greedy_any (L : Option Addr) (cl : Nat) (ms : ML) (H A : Option Addr) (ch c : Nat) (hs : List Int) (l : FL) (hfew : FewA l) (hzm : szM ms ≤ 1048576) (hm5 : ms.length ≤ 5) (w : World) (h1 : RM w L ms) (h2 : RF w A l) :
    Calls Try.prog 63 #[.slice L ms.length cl, .agg #[.slice H hs.length ch, .slice A l.length c]] w (NxtO w (firstS ms l)) := by
  obtain ⟨i0, hi, hz0, hz1, hz2⟩ := info_parts step_info
  obtain ⟨j0, hji, jz0, jz1, jz2⟩ := info_parts int_info
  have hl4 := hfew.1
  have hl4' : (l.length : Int) ≤ 4 := by omega
  have HFW := Lib.hid hfew
  have HM := Lib.hid h1
  have HF := Lib.hid h2
  have b1 := below_alloc w (.cells #[.slice H hs.length ch, .slice A l.length c] 37)
  have b2 := below_alloc (w.alloc (.cells #[.slice H hs.length ch, .slice A l.length c] 37)) (.cells #[] 68)
  have b3 := below_alloc ((w.alloc (.cells #[.slice H hs.length ch, .slice A l.length c] 37)).alloc (.cells #[] 68)) (.cells #[] 3)
  have b4 := below_alloc (((w.alloc (.cells #[.slice H hs.length ch, .slice A l.length c] 37)).alloc (.cells #[] 68)).alloc (.cells #[] 3)) (.cells #[] 3)
  have B0 := Lib.hid (step (step (step b1 b2) b3) b4)
  have XQ := Lib.hid ((((Box.new w #[.slice H hs.length ch, .slice A l.length c] 37).step b2).step b3).step b4)
  have ZO0 := ((ZS.lit (w.alloc (.cells #[.slice H hs.length ch, .slice A l.length c] 37)) (w.heap.size + 1) (by simp)).step b3).step b4
  rw [al_size] at ZO0
  have ZO := Lib.hid ZO0
  have OU0 := World.ownsRow_lit (base := w.heap.size + 1) (e := 3) (size := 1) (((w.alloc (.cells #[.slice H hs.length ch, .slice A l.length c] 37)).alloc (.cells #[] 68)).alloc (.cells #[] 3)) #[] 0 (by simp) (by unfold maxLen; omega) rfl
  rw [al_size, al_size, al_size] at OU0
  have OU := Lib.hid OU0
  clear h1 h2 hfew b1 b2 b3 b4 ZO0 OU0
  go_enter Try.func63, Try.ntmps63
  go_wp2
  go_loopg [5, 6, 7, 8] l.length (fun gk ov bv uv rv wr => ∃ (r : Nat) (p : SL) (Ao Ab Au : Option Addr) (co cb cu mid : Nat) (bd us : List Int), r + gk = l.length ∧ rv = .int .i64 r ∧ Hid (p = gr ms l r) ∧ ov = .slice Ao p.length co ∧ bv = .slice Ab bd.length cb ∧ uv = .slice Au us.length cu ∧ Hid (bd = bnd l p) ∧ Hid (us = p.map Prod.fst) ∧ Hid (Ints wr mid wr.heap.size Ab bd) ∧ Hid (ZS wr (w.heap.size + 1) (.slice Ao p.length co) p) ∧ Hid (wr.ownsRow (w.heap.size + 1) 3 1 (.slice Au us.length cu) us.length (us.map (Value.int .i64))) ∧ Hid (∀ g, (Value.slice Au us.length cu).ownBlock = some g → g < mid) ∧ Hid (∀ g, (Value.slice Ao p.length co).ownBlock = some g → g < mid) ∧ Hid (Below w.heap.size w wr) ∧ Hid (Box wr w.heap.size #[.slice H hs.length ch, .slice A l.length c] 37))
  case atStart => exact ⟨0, [], _, _, _, 0, 0, 0, w.heap.size + 4, [], [], by omega, rfl, Lib.hid rfl, rfl, rfl, rfl, Lib.hid rfl, Lib.hid rfl, Lib.hid fun hne => absurd rfl hne, ZO, OU, Lib.hid fun g hg => by have := own_some hg; omega, Lib.hid fun g hg => by have := own_some hg; omega, B0, XQ⟩
  case round =>
    obtain ⟨r, p, Ao, Ab, Au, co, cb, cu, mid, bd, us, hrg, rfl, hp, rfl, rfl, rfl, hbd, hus, hib, hzo, hou, hmu, hmo, hb, xq⟩ := hrel
    have q1 := xq.out.cell 1
    simp only [List.getElem?_toArray, List.getElem?_cons_zero, List.getElem?_cons_succ] at q1
    have hr0 : (0 : Int) ≤ (r : Int) := by omega
    cases gk with
    | zero =>
      have hre : r = l.length := by omega
      have FS := Lib.hid (show p = firstS ms l by rw [hp.out, hre]; rfl)
      have hre2 : (r : Int) = (l.length : Int) := by omega
      have hre3 : ¬ ((r : Int) < (l.length : Int)) := by omega
      have hre4 : decide ((r : Int) < (l.length : Int)) = false := by simp; omega
      have hre5 : ¬ (r < l.length) := by omega
      clear hre hre2
      go_wp2
      go_ret
      exact ⟨_, rfl, by rw [← FS.out]; exact hzo.out.lo (by omega), hb.out⟩
    | succ g =>
      have hr1 : (r : Int) < (l.length : Int) := by omega
      have PLL := Lib.hid (show p.length ≤ l.length by rw [hp.out]; exact gr_len ms l r)
      have hpl := PLL.out
      have hul : us.length ≤ 4 := by rw [hus.out, List.length_map]; omega
      have hbl : bd.length ≤ 8 := by have := wl_len 10 17 (terms (called l p)); rw [hbd.out]; unfold bnd; omega
      go_wp2
      go_loopg [5, 6, 7, 9] l.length (fun g2 ov bv uv iv wx => ∃ i : Nat, i + g2 = l.length ∧ iv = .int .i64 i ∧ ov = .slice Ao p.length co ∧ bv = .slice Ab bd.length cb ∧ uv = .slice Au us.length cu ∧ Hid (nextI ms l (bnd l p) (miss i p) = []) ∧ Hid (Ints wx mid wx.heap.size Ab bd) ∧ Hid (ZS wx (w.heap.size + 1) (.slice Ao p.length co) p) ∧ Hid (wx.ownsRow (w.heap.size + 1) 3 1 (.slice Au us.length cu) us.length (us.map (Value.int .i64))) ∧ Hid (Below w.heap.size w wx) ∧ Hid (Box wx w.heap.size #[.slice H hs.length ch, .slice A l.length c] 37))
      case atStart => exact ⟨0, by omega, rfl, rfl, rfl, rfl, Lib.hid rfl, hib, hzo, hou, hb, xq⟩
      case round =>
        obtain ⟨i, hig, rfl, rfl, rfl, rfl, hni, hib2, hzo2, hou2, hb2, xq2⟩ := hrel
        have q1 := xq2.out.cell 1
        simp only [List.getElem?_toArray, List.getElem?_cons_zero, List.getElem?_cons_succ] at q1
        have hi0 : (0 : Int) ≤ (i : Int) := by omega
        cases gk with
        | zero =>
          have hie : i = l.length := by omega
          have SE := Lib.hid (show p = gr ms l (r + 1) by
            show p = stepG ms l (gr ms l r)
            rw [← hp.out, stepG_stuck]
            unfold nextS
            rw [← hie]
            exact hni.out)
          have hie3 : ¬ ((i : Int) < (l.length : Int)) := by omega
          have hie4 : decide ((i : Int) < (l.length : Int)) = false := by simp; omega
          have hie5 : ¬ (i < l.length) := by omega
          clear hie
          go_wp2
          go_roundg g
          case measure => omega
          case rel => exact ⟨r + 1, p, Ao, Ab, Au, co, cb, cu, mid, bd, us, by omega, by go_num, SE, rfl, rfl, rfl, hbd, hus, hib2, hzo2, hou2, hmu, hmo, hb2, xq2⟩
        | succ g2 =>
          have hil : i < l.length := by omega
          have hi1 : (i : Int) < (l.length : Int) := by omega
          generalize hgf : l.getD i noF = gf
          obtain ⟨ra, ts⟩ := gf
          have HGF := Lib.hid hgf
          have hts : ts.length ≤ 3 := by have := HFW.out.2 i hil; rw [hgf] at this; exact this
          obtain ⟨bq, oq, B, cB, rfl, nq, g0, g1, hxc, hcm, hJx⟩ := HF.out.at_ hil hgf
          have G0 := Lib.hid g0
          have G1 := Lib.hid g1
          have a0 := (hb2.out.cell (p := ⟨bq, oq + i * 2, none⟩) nq).trans g0
          have a1 := (hb2.out.cell (p := ⟨bq, oq + i * 2 + 1, none⟩) nq).trans g1
          have HJx := Lib.hid (show RI w B ts from hJx)
          have XF := Lib.hid (l6First_any L cl ms ra ts B cB bd Ab cb hzm (by omega) (by omega) wr (HM.out.step hb2.out) (HJx.out.step hb2.out) (hib2.out.mono (Nat.zero_le _) (Nat.le_refl _)))
          have XH := Lib.hid fun (W : World) (hW : Below wr.heap.size wr W) => l2Has_any 0 W.heap.size Au cu us (i : Int) (by omega) W ((show RI wr Au us from ints_own hou2.out (Nat.zero_le _)).step hW)
          have UH := Lib.hid (show decide ((i : Int) ∈ us) = usedB p (i : Int) by rw [hus.out]; rfl)
          clear hgf g0 g1 hJx
          rcases firstI_cases ms (ra, ts) bd with ⟨hf1, hf2⟩ | ⟨j, rr, hf1, hf2, hj⟩
          · have SK := Lib.hid (greedy_skip hni.out (.inr (by rw [HGF.out, ← hbd.out]; exact hf1)))
            rw [hf2] at XF
            clear hf1 hf2
            go_wp2_with fail
            refine XF.out.mono ?_
            rintro e u ⟨rfl, d⟩
            have I3 := Lib.hid ((hib2.out.below d (Nat.le_refl _)).mono (Nat.le_refl _) d.size)
            have Z3 := Lib.hid (hzo2.out.step d)
            have O3 := Lib.hid (ownsRow_step hou2.out d)
            have B3 := Lib.hid (step hb2.out d)
            have X3 := Lib.hid (xq2.out.step d)
            clear d a0 a1
            go_wp2
            go_roundg g2
            case measure => omega
            case rel => exact ⟨i + 1, by omega, by go_num, rfl, rfl, rfl, SK, I3, Z3, O3, B3, X3⟩
          · rw [hf2] at XF
            have hj0 : (0 : Int) ≤ (j : Int) := by omega
            by_cases hu : usedB p (i : Int) = true
            · have SK := Lib.hid (greedy_skip hni.out (.inl hu))
              have UY := Lib.hid (show decide ((i : Int) ∈ us) = true by rw [UH.out, hu])
              clear hf1 hf2 hu
              go_wp2_with fail
              refine XF.out.mono ?_
              rintro e u ⟨rfl, d⟩
              have I3 := Lib.hid ((hib2.out.below d (Nat.le_refl _)).mono (Nat.le_refl _) d.size)
              have Z3 := Lib.hid (hzo2.out.step d)
              have O3 := Lib.hid (ownsRow_step hou2.out d)
              have B3 := Lib.hid (step hb2.out d)
              have X3 := Lib.hid (xq2.out.step d)
              have XH3 := Lib.hid (XH.out _ d)
              clear d a0 a1
              go_wp2_with fail
              refine XH3.out.mono ?_
              rintro e w' ⟨he, rfl⟩
              rw [UY.out] at he
              subst he
              go_wp2
              go_roundg g2
              case measure => omega
              case rel => exact ⟨i + 1, by omega, by go_num, rfl, rfl, rfl, SK, I3, Z3, O3, B3, X3⟩
            · have UN := Lib.hid (show usedB p (i : Int) = false by simpa using hu)
              have SG := Lib.hid (show p ++ [((i : Int), (j : Int))] = gr ms l (r + 1) by
                show _ = stepG ms l (gr ms l r)
                rw [← hp.out, greedy_hit hil hni.out UN.out (by rw [HGF.out, ← hbd.out]; exact hf1)])
              have UY := Lib.hid (show decide ((i : Int) ∈ us) = false by rw [UH.out, UN.out])
              have CK := Lib.hid (show bnd l (p ++ [((i : Int), (j : Int))]) = wl 10 17 (terms (called l p) ++ ts) by unfold bnd; rw [called_snoc]; simp only [Int.toNat_natCast, HGF.out]; rw [terms_snoc])
              have US := Lib.hid (show us ++ [(i : Int)] = (p ++ [((i : Int), (j : Int))]).map Prod.fst by rw [firsts_snoc, hus.out])
              have LL := Lib.hid (show (p ++ [((i : Int), (j : Int))]).length = p.length + 1 by simp)
              have UL := Lib.hid (show (us ++ [(i : Int)]).length = us.length + 1 by simp)
              have UM := Lib.hid (show (us ++ [(i : Int)]).map (Value.int .i64) = us.map (Value.int .i64) ++ [.int .i64 (i : Int)] by simp)
              clear hf1 hf2 hu
              go_wp2_with fail
              refine XF.out.mono ?_
              rintro e u ⟨rfl, d⟩
              have I3 := Lib.hid (show Ints u mid u.heap.size Ab bd from (hib2.out.below d (Nat.le_refl _)).mono (Nat.le_refl _) d.size)
              have Z3 := Lib.hid (hzo2.out.step d)
              have O3 := Lib.hid (ownsRow_step hou2.out d)
              have B3 := Lib.hid (step hb2.out d)
              have X3 := Lib.hid (xq2.out.step d)
              have XH3 := Lib.hid (XH.out _ d)
              have hz3 : w.heap.size + 1 ≤ u.heap.size := X3.out.lt
              clear d a0 a1
              go_wp2_with fail
              refine XH3.out.mono ?_
              rintro e w' ⟨he, rfl⟩
              rw [UY.out] at he
              subst he
              clear q1
              go_wp2_with (first
                | (at_builtin; refine wpList_pushG2 rfl _ _ 39 rfl i0 Try.underlying39 hi hz0 hz1 hz2 rfl rfl Z3.out hz3 (by omega) ?_; intro v5 w5 hz5 hg5; obtain ⟨A5, c5, rfl⟩ := hz5.form
                   have Z5 := Lib.hid hz5
                   have B5 := Lib.hid (show Below w.heap.size w w5 from B3.out.grown hg5 (by omega) (fun q hq => by have := (Z3.out.lt q hq).1; omega))
                   have I5 := Lib.hid (I3.out.grown hg5 hmo.out)
                   have O5 := Lib.hid (O3.out.kept hg5 (own_sep Z3.out O3.out))
                   have X5 := Lib.hid (show Box w5 w.heap.size #[.slice H hs.length ch, .slice (some ⟨bq, oq, none⟩) l.length c] 37 from (hg5.block w.heap.size (by omega) (by intro e; have := (Z3.out.lt _ e.symm).1; omega)).trans X3.out)
                   have hz6 : w.heap.size + 1 ≤ w5.heap.size := X5.out.lt
                   clear hz5 hg5)
                | (at_builtin; refine wpList_pushI rfl _ _ _ 3 rfl j0 Try.underlying22 hji jz0 jz1 jz2 rfl rfl rfl O5.out hz6 (by omega) ?_; intro v7 w7 hown7 hg7; obtain ⟨A7, c7, rfl⟩ := ownsRow_form hown7
                   have O7 := Lib.hid hown7
                   have B7 := Lib.hid (show Below w.heap.size w w7 from B5.out.grown hg7 (by omega) (fun q hq => by have := (O5.out.lt q hq).1; omega))
                   have I7 := Lib.hid (I5.out.grown hg7 hmu.out)
                   have Z7 := Lib.hid (show ZS w7 (w.heap.size + 1) (.slice A5 (p ++ [((i : Int), (j : Int))]).length c5) (p ++ [((i : Int), (j : Int))]) from World.ownsRow.kept Z5.out hg7 (own_sep' Z5.out O5.out))
                   have X7 := Lib.hid (show Box w7 w.heap.size #[.slice H hs.length ch, .slice (some ⟨bq, oq, none⟩) l.length c] 37 from (hg7.block w.heap.size (by omega) (by intro e; have := (O5.out.lt _ e.symm).1; omega)).trans X5.out)
                   have q1 := X7.out.cell 1
                   simp only [List.getElem?_toArray, List.getElem?_cons_zero, List.getElem?_cons_succ] at q1
                   have a0 := (B7.out.cell (p := ⟨bq, oq + i * 2, none⟩) nq).trans G0.out
                   have a1 := (B7.out.cell (p := ⟨bq, oq + i * 2 + 1, none⟩) nq).trans G1.out
                   have XLB := Lib.hid (l6Bind_any Ab cb bd (terms (called l p)) ra ts B cB hbd.out (by omega) w7 (I7.out.mono (Nat.zero_le _) (Nat.le_refl _)) (HJx.out.step B7.out))
                   clear hown7 hg7))
              refine XLB.out.mono ?_
              rintro e u8 ⟨A8, c8, rfl, hI8, d⟩
              have I8 := Lib.hid hI8
              have Z8 := Lib.hid (Z7.out.step d)
              have O8 := Lib.hid (ownsRow_step O7.out d)
              have B8 := Lib.hid (step B7.out d)
              have X8 := Lib.hid (X7.out.step d)
              have MO := Lib.hid (show ∀ g, (Value.slice A5 (p.length + 1) c5).ownBlock = some g → g < w7.heap.size from fun g hg => (World.ownsRow.lt Z7.out g (by rw [LL.out]; exact hg)).2)
              have MU := Lib.hid (show ∀ g, (Value.slice A7 (us.length + 1) c7).ownBlock = some g → g < w7.heap.size from fun g hg => (O7.out.lt g hg).2)
              have EB := Lib.hid CK.out.symm
              generalize wl 10 17 (terms (called l p) ++ ts) = bd8 at I8 EB ⊢
              clear d a0 a1 q1 hI8
              go_wp2
              go_roundg g
              case measure => omega
              case rel => exact ⟨r + 1, p ++ [((i : Int), (j : Int))], A5, A8, A7, c5, c8, c7, w7.heap.size, bd8, us ++ [(i : Int)], by omega, by go_num, SG, by rw [LL.out], rfl, by rw [UL.out], EB, US, I8, Z8, by rw [UL.out, UM.out]; exact O8, by rw [UL.out]; exact MU, by rw [LL.out]; exact MO, B8, X8⟩
end Go.Proofs.Ytighalbnpgmdfaa
