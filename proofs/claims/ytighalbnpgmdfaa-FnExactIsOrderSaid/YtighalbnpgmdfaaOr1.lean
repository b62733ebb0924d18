/- Rows of steps that grow, and the atoms without a step. Conditions: none beyond each theorem's own. -/
import Derived.Test.YtighalbnpgmdfaaCC
import Derived.Test.YtighalbnpgmdfaaSSt
import Derived.Deep.LoopGhost
namespace Go.Proofs.Ytighalbnpgmdfaa
open Go.ChangeShapes Go.WideShapes Go.ChangeAt Go.RowKit Go.Sort
set_option linter.unusedVariables false
set_option linter.unusedSimpArgs false

def flatZ (l : SL) : List Value := l.flatMap fun st => [Value.int .i64 st.1, Value.int .i64 st.2]
theorem flatZ_snoc (l : SL) (a b : Int) : flatZ (l ++ [(a, b)]) = flatZ l ++ [.int .i64 a, .int .i64 b] := by simp [flatZ]
theorem flatZ_len : ∀ l : SL, (flatZ l).length = l.length * 2
  | [] => rfl
  | st :: l => by
    have := flatZ_len l
    show ([Value.int .i64 st.1, Value.int .i64 st.2] ++ flatZ l).length = _
    rw [List.length_append, this, List.length_cons]
    simp
    omega
theorem flatZ_at : ∀ (l : SL) {k : Nat} (hk : k < l.length), (flatZ l)[k * 2]? = some (.int .i64 (l.getD k (0, 0)).1) ∧ (flatZ l)[k * 2 + 1]? = some (.int .i64 (l.getD k (0, 0)).2)
  | st :: l, 0, _ => ⟨rfl, rfl⟩
  | st :: l, k + 1, hk => by
    have := flatZ_at l (k := k) (by simpa using hk)
    have e : flatZ (st :: l) = .int .i64 st.1 :: .int .i64 st.2 :: flatZ l := rfl
    rw [e, show (k + 1) * 2 = k * 2 + 1 + 1 by omega, show k * 2 + 1 + 1 + 1 = k * 2 + 1 + 1 + 1 by rfl]
    simpa using this
/-- A row of steps of the call's own. -/
def ZS (w : World) (base : Nat) (v : Value) (l : SL) : Prop := w.ownsRow base 68 2 v l.length (flatZ l)
theorem ZS.nil (w : World) (base : Nat) : ZS w base (.slice none 0 0) [] := World.ownsRow_nil _ _ _ _
theorem ZS.lit (w : World) (base : Nat) (hb : base ≤ w.heap.size) : ZS (w.alloc (.cells #[] 68)) base (.slice (some ⟨w.heap.size, 0, none⟩) 0 0) [] := World.ownsRow_lit (base := base) (e := 68) (size := 2) w #[] 0 hb (by unfold maxLen; omega) rfl
theorem ZS.step {w w' : World} {base : Nat} {v : Value} {l : SL} (h : ZS w base v l) (d : Below w.heap.size w w') : ZS w' base v l := ownsRow_step h d
theorem ZS.lo {w : World} {base base' : Nat} {v : Value} {l : SL} (h : ZS w base v l) (hb : base' ≤ base) : ZS w base' v l := ownsRow_lo h hb
theorem ZS.form {w : World} {base : Nat} {v : Value} {l : SL} (h : ZS w base v l) : ∃ A c, v = .slice A l.length c := ownsRow_form h
theorem ZS.stps {w : World} {base lo c : Nat} {A : Option Addr} {l : SL} (h : ZS w base (.slice A l.length c) l) (hlo : lo ≤ base) : Stps w lo w.heap.size A l := fun hne => by
  rcases h.2 with ⟨e, h0⟩ | ⟨g, cap, cur, hv, hb, hg, _⟩
  · exact absurd (List.length_eq_zero_iff.1 h0) hne
  · injection hv with e1 e2 e3
    subst e1 e3
    have hlt : g < w.heap.size := by
      rcases Nat.lt_or_ge g w.heap.size with h1 | h1
      · exact h1
      · rw [Array.getElem?_eq_none h1] at hg; cases hg
    refine ⟨g, 0, rfl, by omega, hlt, fun k hk => ?_⟩
    obtain ⟨a1, a2⟩ := flatZ_at l hk
    have c1 := World.ownsRow.cells h (g := g) rfl _ _ a1
    have c2 := World.ownsRow.cells h (g := g) rfl _ _ a2
    rw [add_eq] at c1 c2
    exact ⟨by simpa using c1, by simpa [Nat.add_assoc] using c2⟩
theorem ZS.rz {w : World} {base c : Nat} {A : Option Addr} {l : SL} (h : ZS w base (.slice A l.length c) l) : RZ w A l := h.stps (Nat.zero_le _)

/-- append(v, y) of one step, in a new block. -/
theorem wpList_pushZ {P : Program} {W w0 : World} {ops : Array Oper} {rest : List Oper} {o : Oper} {a : Act} {Q : Exit → Act → World → Prop} (hgd : o.guard = none) (s x : Operand) (t : TypeId)
    (ho : o.op = .call { callee := .builtin .append, args := #[s, x], argTypes := #[t, t] })
    (i : TypeInfo) (ht : P.underlying t = some (.slice 68)) (hi : P.info? 68 = some i) (hz : i.zero = some (.agg #[.int .i64 0, .int .i64 0])) (hz1 : i.size = 2) (hz2 : i.bytes = 16)
    {base : Nat} {v : Value} {l : SL} {y1 y2 : Int} (hs : a.eval s = v) (hx : a.eval x = .slice (some ⟨W.heap.size, 0, none⟩) 1 1)
    (hown : ZS W base v l) (hb : Below base w0 W) (hbase : base ≤ W.heap.size) (hn : l.length + 1 ≤ 1048580)
    (h : ∀ v' w', ZS w' base v' (l ++ [(y1, y2)]) → Below base w0 w' → base < w'.heap.size → wpList P ops Q rest (a.put o.dst v') w') :
    wpList P ops Q (o :: rest) a (W.alloc (.cells #[.int .i64 y1, .int .i64 y2] 68)) := by
  refine wpList_append_own (P := P) _ hgd s x t ho base 68 i _ 2 16 ht hi hz hz1 hz2 rfl (by omega) v l.length _ hs (hown.alloc _) ⟨W.heap.size, 0, none⟩ 1 1 [.int .i64 y1, .int .i64 y2] hx rfl
    (World.news_of_block (cs := #[.int .i64 y1, .int .i64 y2]) (t := 68) (fr := (0, 0)) (heap_alloc_new W _)) (by simp [Value.oneCell'])
    (by unfold maxLen; omega) (by omega) (by simp; omega) ?_
  intro v' w' hown' hg _
  refine h v' w' ?_ ((hb.alloc hbase _).grown hg (by simp; omega) fun k hk => (hown.lt k hk).1) (by have := hg.size; simp at this; omega)
  unfold ZS
  rw [flatZ_snoc, List.length_append]
  exact hown'

def missI (n : Nat) (p : SL) : List Int := (miss n p).map fun i : Nat => (i : Int)
theorem missI_yes {n : Nat} {p : SL} (h : usedB p (n : Int) = false) : missI (n + 1) p = missI n p ++ [(n : Int)] := by unfold missI; rw [miss_yes h]; simp
theorem missI_no {n : Nat} {p : SL} (h : usedB p (n : Int) = true) : missI (n + 1) p = missI n p := by unfold missI; rw [miss_no h]
theorem missI_len (n : Nat) (p : SL) : (missI n p).length ≤ n := by unfold missI; rw [List.length_map]; exact miss_len n p
theorem used_not (p : SL) (k : Nat) (i : Int) (hk : k < p.length) {a m : Int} (hf : p.getD k (0, 0) = (a, m)) (h : usedB (p.take k) i = false) (hne : a ≠ i) : usedB (p.take (k + 1)) i = false := by
  rw [take_snoc p hk hf, usedB_snoc, h, decide_eq_false fun e => hne e.symm]
  rfl
theorem used_yes (p : SL) (k : Nat) (i : Int) (hk : k < p.length) {m : Int} (hf : p.getD k (0, 0) = (i, m)) : usedB p i = true := by
  unfold usedB
  rw [decide_eq_true_eq, List.mem_map]
  refine ⟨(i, m), ?_, rfl⟩
  rw [← hf, List.getD_eq_getElem?_getD, List.getElem?_eq_getElem hk]
  exact List.getElem_mem _

set_option maxRecDepth 100000 in
set_option maxHeartbeats 1000000 in
theorem missingAtoms_any (O : Option Addr) (co : Nat) (p : SL) (H A : Option Addr) (ch c : Nat) (hs : List Int) (l : FL) (hp : p.length ≤ 1048576) (hl : l.length ≤ 1048576) (w : World) (h : RZ w O p) :
    Calls Try.prog 66 #[.slice O p.length co, .agg #[.slice H hs.length ch, .slice A l.length c]] w (ListT w (missI l.length p)) := by
  obtain ⟨i0, hi, hz0, hz1, hz2⟩ := info_parts int_info
  have hl' : (l.length : Int) ≤ 1048576 := by omega
  have hp' : (p.length : Int) ≤ 1048576 := by omega
  have HI := Lib.hid h
  have B0 := Lib.hid (below_alloc w (.cells #[.slice H hs.length ch, .slice A l.length c] 37))
  clear h
  go_enter Try.func66, Try.ntmps66
  go_wp2
  go_step3
  go_wp2
  go_step3
  go_wp2
  go_loopg [5, 12] l.length (fun gk o i wr => ∃ (k : Nat) (A2 : Option Addr) (c2 : Nat) (out : List Int), k + gk = l.length ∧ i = .int .i64 k ∧ o = .slice A2 out.length c2 ∧ Hid (out = missI k p) ∧ Hid (wr.ownsRow w.heap.size 3 1 (.slice A2 out.length c2) out.length (out.map (Value.int .i64))) ∧ Hid (Below w.heap.size w wr))
  case atStart => exact ⟨0, none, 0, [], by omega, rfl, rfl, Lib.hid rfl, Lib.hid (World.ownsRow_nil _ _ _ _), B0⟩
  case round =>
    obtain ⟨k, A2, c2, out, hk, rfl, rfl, hO, hown, hb⟩ := hrel
    have hk0 : (0 : Int) ≤ (k : Int) := by omega
    cases gk with
    | zero =>
      have hke : k = l.length := by omega
      subst hke
      clear hk
      go_wp2
      try rw [Exit.noGoto_ret]
      go_ret
      exact ⟨_, rfl, by rw [← hO.out]; exact hown.out, hb.out⟩
    | succ g =>
      have hk1 : (k : Int) < (l.length : Int) := by omega
      go_wp2
      go_loopg [17] p.length (fun g2 i wr2 => ∃ j : Nat, j + g2 = p.length ∧ i = .int .i64 j ∧ Hid (usedB (p.take j) (k : Int) = false) ∧ Hid (wr2.ownsRow w.heap.size 3 1 (.slice A2 out.length c2) out.length (out.map (Value.int .i64))) ∧ Hid (Below w.heap.size w wr2))
      case atStart => exact ⟨0, by omega, rfl, Lib.hid rfl, hown, hb⟩
      case round =>
        obtain ⟨j, hj, rfl, hU, hown2, hb2⟩ := hrel
        have hj0 : (0 : Int) ≤ (j : Int) := by omega
        cases gk with
        | zero =>
          have hje : j = p.length := by omega
          subst hje
          clear hj
          have UF := Lib.hid (show usedB p (k : Int) = false by have := hU.out; rwa [take_all] at this)
          have OL := Lib.hid (show out.length ≤ k by rw [hO.out]; exact missI_len k p)
          have OL2 := OL.out
          obtain ⟨out2, ho2⟩ : ∃ o, o = out ++ [(k : Int)] := ⟨_, rfl⟩
          have E2 := Lib.hid (show out2 = missI (k + 1) p by rw [missI_yes UF.out, ← hO.out, ho2])
          have EL := Lib.hid (show out2.length = out.length + 1 by rw [ho2]; simp)
          have EM := Lib.hid (show out2.map (Value.int .i64) = out.map (Value.int .i64) ++ [.int .i64 (k : Int)] by rw [ho2]; simp)
          have SZ := hb2.out.size
          clear ho2
          go_wp2_with (at_builtin; refine wpList_push rfl _ _ _ 3 rfl i0 Try.underlying22 hi (.int .i64 0) 8 hz0 hz1 hz2 rfl (by omega) rfl rfl rfl hown2.out hb2.out SZ (by omega) ?_; intro v' w' hown' hb' hsz'; obtain ⟨A', c', rfl⟩ := ownsRow_form hown')
          go_roundg g
          case measure => omega
          case rel =>
            refine ⟨k + 1, A', c', out2, by omega, by go_num, by rw [EL.out], E2, Lib.hid ?_, Lib.hid hb'⟩
            rw [EL.out, EM.out]
            exact hown'
        | succ g2 =>
          have hjt : j < p.length := by omega
          have hj1 : (j : Int) < (p.length : Int) := by omega
          generalize hf : p.getD j (0, 0) = f
          obtain ⟨a, m⟩ := f
          have HF := Lib.hid hf
          obtain ⟨b, off, rfl, n1, e0, e1⟩ := (HI.out.step hb2.out).at_ hjt hf
          clear hf
          have O3 := Lib.hid (hown2.out.alloc (.cells #[.int .i64 a, .int .i64 m] 68))
          have B3 := Lib.hid (step hb2.out (below_alloc wr (.cells #[.int .i64 a, .int .i64 m] 68)))
          by_cases he : a = (k : Int)
          · have d1 : (a == (k : Int)) = true := by simpa using he
            have UY := Lib.hid (used_yes p j (k : Int) hjt (by rw [HF.out, he]))
            have E2 := Lib.hid (show out = missI (k + 1) p by rw [missI_no UY.out, ← hO.out])
            clear he
            go_wp2
            go_roundg g
            case measure => omega
            case rel => exact ⟨k + 1, A2, c2, out, by omega, by go_num, rfl, E2, O3, B3⟩
          · have d1 : (a == (k : Int)) = false := by simpa using he
            have UN := Lib.hid (used_not p j (k : Int) hjt HF.out hU.out he)
            clear he
            go_wp2
            go_roundg g2
            case measure => omega
            case rel => exact ⟨j + 1, by omega, by go_num, UN, O3, B3⟩
end Go.Proofs.Ytighalbnpgmdfaa
