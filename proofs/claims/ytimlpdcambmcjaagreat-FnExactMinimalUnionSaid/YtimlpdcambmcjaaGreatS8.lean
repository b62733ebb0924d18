/- Rows that grow by append, one element or a list of numbers; boxes that are written. Conditions: none beyond each theorem's own. What the two functions ValueOf answer. Conditions: none beyond each theorem's own. What the law of AddFact carries from call to call. Conditions: none beyond each theorem's own. Trees of numbers in memory: what adding a number does. Conditions: none beyond each theorem's own. Trees of numbers in memory: their list. Conditions: none beyond each theorem's own. -/
import Derived.Test.YtimlpdcambmcjaaGreatS5
import Derived.Deep.RegionLaw
import Derived.Test.YtimlpdcambmcjaaGreatS3
import Derived.Test.YtimlpdcambmcjaaGreatS6
import Derived.Test.YtimlpdcambmcjaaGreatS2
import Derived.Deep.Trees
import Derived.Deep.RegionHeld3

namespace Go.Proofs.YtimlpdcambmcjaaGreat
open Go.ChangeShapes Go.WideShapes Go.ChangeAt Go.RowKit Go.Sort
set_option linter.unusedVariables false
set_option linter.unusedSimpArgs false

/-- append(v, y) of one element, in a new block. -/
theorem wpList_push {P : Program} {W w0 : World} {ops : Array Oper} {rest : List Oper} {o : Oper} {a : Act} {Q : Exit → Act → World → Prop} (hgd : o.guard = none) (s x : Operand) (t e : TypeId)
    (ho : o.op = .call { callee := .builtin .append, args := #[s, x], argTypes := #[t, t] })
    (i : TypeInfo) (ht : P.underlying t = some (.slice e)) (hi : P.info? e = some i) (z : Value) (bytes : Nat) (hz : i.zero = some z) (hz1 : i.size = 1) (hz2 : i.bytes = bytes) (hzs : z.cells.size = 1) (hby : bytes ≤ 32)
    {base n : Nat} {v : Value} {cs : List Value} {y : Value} (hs : a.eval s = v) (hx : a.eval x = .slice (some ⟨W.heap.size, 0, none⟩) 1 1) (hy : y.oneCell' = true)
    (hown : W.ownsRow base e 1 v n cs) (hb : Below base w0 W) (hbase : base ≤ W.heap.size) (hn : n + 1 ≤ 1048580)
    (h : ∀ v' w', w'.ownsRow base e 1 v' (n + 1) (cs ++ [y]) → Below base w0 w' → w'.heap.size > base → wpList P ops Q rest (a.put o.dst v') w') :
    wpList P ops Q (o :: rest) a (W.alloc (.cells #[y] e)) := by
  refine wpList_append_own (P := P) _ hgd s x t ho base e i z 1 bytes ht hi hz hz1 hz2 hzs (by omega) v n _ hs (hown.alloc _) ⟨W.heap.size, 0, none⟩ 1 1 [y] hx rfl (cell_one_new _ _ _) (by intro u hu; simp at hu; subst hu; exact hy)
    (by unfold maxLen; omega) (by have : (n + 1) * bytes ≤ 1048580 * 32 := Nat.mul_le_mul hn hby; omega) (by simp; omega) ?_
  intro v' w' hown' hg _
  refine h v' w' hown' ((hb.alloc hbase _).grown hg (by simp; omega) fun k hk => ?_) (by have := hg.size; simp at this; omega)
  exact (hown.lt k hk).1

theorem ownsRow_form {w : World} {base : Nat} {e : TypeId} {size : Nat} {v : Value} {n : Nat} {cs : List Value} (h : w.ownsRow base e size v n cs) : ∃ A c, v = .slice A n c := by
  rcases h.2 with ⟨rfl, h0⟩ | ⟨g, cap, _, rfl, _⟩
  · exact ⟨none, 0, by rw [h0]⟩
  · exact ⟨_, _, rfl⟩
theorem ownsRow_step {w w' : World} {base : Nat} {e : TypeId} {size : Nat} {v : Value} {n : Nat} {cs : List Value} (h : w.ownsRow base e size v n cs) (d : Below w.heap.size w w') : w'.ownsRow base e size v n cs :=
  h.kept (own_none d) (by rcases hv : v.ownBlock with _ | g <;> simp)

theorem box_set1 {w : World} {g : Nat} {t : TypeId} {a b v : Value} (h : Box w g #[a, b] t) : Box (w.setCell ⟨g, 1, none⟩ v) g #[a, v] t := by
  have hlt := h.lt
  unfold Box at h ⊢
  have h' : w.heap[g] = .cells #[a, b] t (0, 0) := by simpa [Array.getElem?_eq_getElem hlt] using h
  show (w.heap.modify g _)[g]? = _
  rw [Array.getElem?_eq_getElem (by simpa using hlt), Array.getElem_modify_self, h']
  rfl
theorem ownsRow_set {w : World} {base : Nat} {e : TypeId} {size : Nat} {v u : Value} {n : Nat} {cs : List Value} (h : w.ownsRow base e size v n cs) {p : Addr} (hp : p.block < base) : (w.setCell p u).ownsRow base e size v n cs := by
  refine ⟨h.1, ?_⟩
  rcases h.2 with h0 | ⟨g, cap, cur, hv, hb, hg, r⟩
  · exact .inl h0
  · exact .inr ⟨g, cap, cur, hv, hb, by rw [Below.heap_setCell _ _ _ _ (by omega)]; exact hg, r⟩

theorem step_callB {P : Program} {ops : Array Oper} {o : Oper} {a : Act} {w : World} {K : Act → World → Prop} {Q : Exit → Act → World → Prop} {E : Prop}
    (hgd : o.guard = none) (g : FuncId) (x : Operand) (t : TypeId) (ho : o.op = .call { callee := .value (.func g), args := #[x], argTypes := #[t] })
    (vx v : Value) (hx : a.eval x = vx) (hcf : (callFunc g #[vx]).run P w = .ok (.enter g #[vx]) w) (hc : Calls P g #[vx] w fun e w' => e = .returned v ∧ Below w.heap.size w w') (hK : ∀ w', Below w.heap.size w w' → K (a.put o.dst v) w') :
    if Region.wanted o (yielded ops a.tmps) = true then Oper.wp P o a w K Q else E := by
  have hw : Region.wanted o (yielded ops a.tmps) = true := by simp [Region.wanted, hgd]
  rw [if_pos hw]
  unfold Oper.wp
  have hf : a.eval (.func g) = Value.func (.func g) #[] #[] := rfl
  have e : (execOp a.eval o).run P w = .ok (.enter g #[vx]) w := by
    rw [← hx] at hcf ⊢
    simpa [go_sem, execOp, ho, resolve, invoke] using hcf
  rw [e, Oper.upon_enter]
  refine hc.mono ?_
  rintro _ w' ⟨rfl, d⟩
  exact hK w' d

theorem step_pushR {P : Program} {w w0 : World} {ops : Array Oper} {o : Oper} {a : Act} {K : Act → World → Prop} {Q : Exit → Act → World → Prop} {E : Prop} (hgd : o.guard = none) (s x : Operand) (t e : TypeId)
    (ho : o.op = .call { callee := .builtin .append, args := #[s, x], argTypes := #[t, t] })
    (i : TypeInfo) (ht : P.underlying t = some (.slice e)) (hi : P.info? e = some i) (z : Value) (bytes : Nat) (hz : i.zero = some z) (hz1 : i.size = 1) (hz2 : i.bytes = bytes) (hzs : z.cells.size = 1) (hby : bytes ≤ 32)
    (base n : Nat) (v : Value) (cs : List Value) (ad : Addr) (c : Nat) (y : Value) (hs : a.eval s = v) (hx : a.eval x = .slice (some ad) 1 c) (hy : y.oneCell' = true)
    (hown : w.ownsRow base e 1 v n cs) (hb : Below base w0 w) (hbase : base ≤ w.heap.size) (hn : n + 1 ≤ 1048580)
    (hc0 : w.cell? (ad.add 0) = some y)
    (h : ∀ v' w', w'.ownsRow base e 1 v' (n + 1) (cs ++ [y]) → Below base w0 w' → w.heap.size ≤ w'.heap.size → K (a.put o.dst v') w') :
    if Region.wanted o (yielded ops a.tmps) = true then Oper.wp P o a w K Q else E := by
  have hw : Region.wanted o (yielded ops a.tmps) = true := by simp [Region.wanted, hgd]
  rw [if_pos hw]
  refine wp_append_own (P := P) _ s x t ho base e i z 1 bytes ht hi hz hz1 hz2 hzs (by omega) v n _ hs hown ad 1 c [y] hx rfl
    (fun j u hj => by
      rcases j with _ | j
      · simp at hj; subst hj; exact hc0
      · simp at hj) (by intro u hu; simp at hu; subst hu; exact hy)
    (by unfold maxLen; omega) (by have : (n + 1) * bytes ≤ 1048580 * 32 := Nat.mul_le_mul hn hby; omega) hbase ?_
  intro v' w' hown' hg _
  refine h v' w' hown' (hb.grown hg hbase fun k hk => ?_) hg.size
  exact (hown.lt k hk).1


/-- append(v, s...) as one step of a region that draws: v a row of the call's own, s a list of numbers that is read, nil or not. -/
theorem step_appendR {P : Program} {w w0 : World} {ops : Array Oper} {o : Oper} {a : Act} {K : Act → World → Prop} {Q : Exit → Act → World → Prop} {E : Prop} (hgd : o.guard = none) (s x : Operand) (t e : TypeId)
    (ho : o.op = .call { callee := .builtin .append, args := #[s, x], argTypes := #[t, t] })
    (i : TypeInfo) (ht : P.underlying t = some (.slice e)) (hi : P.info? e = some i) (hz : i.zero = some (.int .i64 0)) (hz1 : i.size = 1) (hz2 : i.bytes = 8)
    (base n : Nat) (v : Value) (cs : List Value) (hs : a.eval s = v) (lo hi' : Nat) (A : Option Addr) (c : Nat) (xs : List Int) (hx : a.eval x = .slice A xs.length c)
    (hown : w.ownsRow base e 1 v n cs) (hr : Ints w lo hi' A xs) (hb : Below base w0 w) (hbase : base ≤ w.heap.size) (hn : n + xs.length ≤ 17592186044416)
    (h : ∀ v' w', w'.ownsRow base e 1 v' (n + xs.length) (cs ++ xs.map (Value.int .i64)) → Below base w0 w' → w.heap.size ≤ w'.heap.size → K (a.put o.dst v') w') :
    if Region.wanted o (yielded ops a.tmps) = true then Oper.wp P o a w K Q else E := by
  have hw : Region.wanted o (yielded ops a.tmps) = true := by simp [Region.wanted, hgd]
  rw [if_pos hw]
  rcases A with _ | ad
  · have hx0 : xs = [] := by
      rcases xs with _ | ⟨y, ys⟩
      · rfl
      · obtain ⟨b, off, h1, _⟩ := hr (by simp)
        cases h1
    subst hx0
    have hrun : (Builtin.append_ #[t, t] o.type #[v, .slice none 0 c]).run P w = .ok v w := by
      rcases hown.2 with ⟨rfl, rfl⟩ | ⟨g, cap, cur, rfl, _, _, hnc, _⟩
      · simp [Builtin.append_, run_underlying ht, sizeOf, typeInfo, hi, Builtin.lenOf, Builtin.firstCells]
      · simp [Builtin.append_, run_underlying ht, sizeOf, typeInfo, hi, Builtin.lenOf, Builtin.firstCells, hnc, storeCells]
    unfold Oper.wp execOp
    simp only [List.length_nil] at hx
    simp only [ho, resolve, invoke, builtin, Sem.run_bind, Sem.run_pure, Result.andThen_ok, List.map_toArray, List.map_cons, List.map_nil, hs, hx, hrun]
    exact h v w (by simpa using hown) hb (Nat.le_refl _)
  · refine wp_append_own (P := P) _ s x t ho base e i (.int .i64 0) 1 8 ht hi hz hz1 hz2 rfl (by omega) v n _ hs hown ad xs.length c (xs.map (Value.int .i64)) hx (by simp) (fun j u hj => ?_) (fun u hu => ?_) (by unfold maxLen; omega) (by omega) hbase ?_
    · have hj' : j < xs.length := by have := (List.getElem?_eq_some_iff.1 hj).1; simpa using this
      obtain ⟨b, off, h1, _, _, h4⟩ := hr (by rintro rfl; simp at hj')
      injection h1 with h1
      subst h1
      rw [add_eq, h4 j hj']
      rw [List.getElem?_map, List.getElem?_eq_getElem hj'] at hj
      injection hj with hj
      subst hj
      simp [List.getD_eq_getElem?_getD, hj']
    · simp only [List.mem_map] at hu
      obtain ⟨y, _, rfl⟩ := hu
      rfl
    · intro v' w' hown' hg _
      exact h v' w' hown' (hb.grown hg hbase fun k hk => (hown.lt k hk).1) hg.size
end Go.Proofs.YtimlpdcambmcjaaGreat

namespace Go.Proofs.YtimlpdcambmcjaaGreat
open Go.ChangeShapes Go.WideShapes Go.ChangeAt Go.RowKit Go.Sort
set_option linter.unusedVariables false
set_option linter.unusedSimpArgs false

set_option maxRecDepth 100000 in
set_option maxHeartbeats 1000000 in
theorem spec_ValueOf (H A : Option Addr) (ch c : Nat) (hs l : List Int) (t : Int) (hh : hs.length ≤ 1048576) (hl : l.length ≤ 1048576) (w : World) (h : RI w H hs) (h' : RI w A l) :
    Calls Tryz.prog 122 #[.agg #[.slice H hs.length ch, .slice A l.length c], .int .i64 t] w fun e w' => e = .returned (.int .i64 (bval hs l t)) ∧ Below w.heap.size w w' := by
  have hh' : (hs.length : Int) ≤ 1048576 := by omega
  have hl' : (l.length : Int) ≤ 1048576 := by omega
  have B0 := Lib.hid (below_alloc w (.cells #[.slice H hs.length ch, .slice A l.length c] 100))
  have X0 := Lib.hid (Box.new w #[.slice H hs.length ch, .slice A l.length c] 100)
  have HI := Lib.hid (h.step B0.out)
  have HJ := Lib.hid (h'.step B0.out)
  clear h h'
  by_cases ht : inB t 10 17 = true
  · have HT := Lib.hid ht
    clear ht
    go_enter Tryz.func122, Tryz.ntmps122
    go_wp2_with fail
    refine (spec_IsVar t _).mono ?_
    rintro e w1 ⟨he, rfl⟩
    rw [HT.out] at he
    subst he
    go_wp2
    go_loop [5] (fun i => ∃ k : Nat, k ≤ hs.length ∧ i = .int .i64 k ∧ Hid (t ∉ hs.take k)) (fun i => hs.length - (intOf i).toNat)
    case atStart => exact ⟨0, by omega, rfl, Lib.hid (by simp)⟩
    case round =>
      obtain ⟨k, hk, rfl, ha⟩ := hrel
      have hk0 : (0 : Int) ≤ (k : Int) := by omega
      by_cases h1 : k < hs.length
      · have hk1 : (k : Int) < (hs.length : Int) := by omega
        have d1 : decide (k < hs.length) = true := by simpa using h1
        by_cases h2 : k < l.length
        · have hk2 : (k : Int) < (l.length : Int) := by omega
          have d2 : decide (k < l.length) = true := by simpa using h2
          obtain ⟨b, off, rfl, n1, e1⟩ := HI.out.at_ h1
          obtain ⟨b', off', rfl, n2, e2⟩ := HJ.out.at_ h2
          generalize hx : hs.getD k 0 = x at e1
          generalize hy : l.getD k 0 = y at e2
          have HX := Lib.hid hx
          have HY := Lib.hid hy
          clear hx hy
          by_cases he : x = t
          · have d3 : (x == t) = true := by simpa using he
            have HE := Lib.hid he
            clear he
            go_wp2
            go_ret
            exact ⟨ret_int (by rw [bval_at HT.out h1 h2 ha.out (by rw [HX.out]; exact HE.out), HY.out]), B0.out⟩
          · have d3 : (x == t) = false := by simpa using he
            have HE := Lib.hid he
            clear he
            go_wp2
            go_round
            case rel => exact ⟨k + 1, by omega, by go_num, Lib.hid (notMem_snoc h1 ha.out HX.out HE.out)⟩
            case measure => simp [intOf]; omega
        · have hk2 : ¬ (k : Int) < (l.length : Int) := by omega
          have d2 : decide (k < l.length) = false := by simpa using h2
          go_wp2
          go_ret
          exact ⟨ret_int (by rw [bval_none HT.out hk ha.out (.inr (by omega))]), B0.out⟩
      · have hk1 : ¬ (k : Int) < (hs.length : Int) := by omega
        have d1 : decide (k < hs.length) = false := by simpa using h1
        go_wp2
        go_ret
        exact ⟨ret_int (by rw [bval_none HT.out hk ha.out (.inl (by omega))]), B0.out⟩
  · have ht' : inB t 10 17 = false := by simpa using ht
    have HT := Lib.hid ht'
    rw [bval_no ht']
    clear ht ht'
    go_enter Tryz.func122, Tryz.ntmps122
    go_wp2_with fail
    refine (spec_IsVar t _).mono ?_
    rintro e w1 ⟨he, rfl⟩
    rw [HT.out] at he
    subst he
    go_wp2
    go_ret
    exact ⟨rfl, B0.out⟩

set_option maxRecDepth 100000 in
set_option maxHeartbeats 1000000 in
theorem impl_ValueOf (H A : Option Addr) (ch c : Nat) (hs l : List Int) (t : Int) (hh : hs.length ≤ 1048576) (hl : l.length ≤ 1048576) (w : World) (h : RI w H hs) (h' : RI w A l) :
    Calls Tryz.prog 157 #[.agg #[.slice H hs.length ch, .slice A l.length c], .int .i64 t] w fun e w' => e = .returned (.int .i64 (bval hs l t)) ∧ Below w.heap.size w w' := by
  have hh' : (hs.length : Int) ≤ 1048576 := by omega
  have hl' : (l.length : Int) ≤ 1048576 := by omega
  have B0 := Lib.hid (below_alloc w (.cells #[.slice H hs.length ch, .slice A l.length c] 100))
  have XI := Lib.hid (index_at _ _ H ch hs t hh _ (h.step B0.out))
  have HJ := Lib.hid (h'.step B0.out)
  clear h h'
  by_cases ht : inB t 10 17 = true
  · have HT := Lib.hid ht
    clear ht
    by_cases h1 : hs.idxOf t < hs.length
    · have E1 := Lib.hid (show idxI hs t = (hs.idxOf t : Int) from if_pos h1)
      by_cases h2 : hs.idxOf t < l.length
      · have E := Lib.hid (show bval hs l t = l.getD (hs.idxOf t) 0 by simp [bval, HT.out, h1, h2])
        rw [E.out]
        generalize hs.idxOf t = k at h1 h2 E1
        obtain ⟨b', off', rfl, n2, e2⟩ := HJ.out.at_ h2
        generalize hy : l.getD k 0 = y at e2
        clear hy E
        have hk0 : (0 : Int) ≤ (k : Int) := by omega
        have hk2 : ¬ ((l.length : Int) ≤ (k : Int)) := by omega
        have hk3 : (k : Int) < (l.length : Int) := by omega
        have d2 : decide (l.length ≤ k) = false := by simp; omega
        have d0 : decide ((k : Int) < 0) = false := by simp
        go_enter Tryz.func157, Tryz.ntmps157
        go_wp2_with fail
        refine (impl_IsVar t _).mono ?_
        rintro e w1 ⟨he, rfl⟩
        rw [HT.out] at he
        subst he
        go_wp2_with fail
        refine XI.out.mono ?_
        rintro e w1 ⟨he, rfl⟩
        rw [E1.out] at he
        subst he
        go_wp2
        go_ret
        exact ⟨rfl, B0.out⟩
      · have E := Lib.hid (show bval hs l t = -1 by simp [bval, HT.out, h2])
        rw [E.out]
        generalize hs.idxOf t = k at h1 h2 E1
        clear E
        have hk0 : (0 : Int) ≤ (k : Int) := by omega
        have hk2 : ((l.length : Int) ≤ (k : Int)) := by omega
        have d2 : decide (l.length ≤ k) = true := by simp; omega
        have d0 : decide ((k : Int) < 0) = false := by simp
        go_enter Tryz.func157, Tryz.ntmps157
        go_wp2_with fail
        refine (impl_IsVar t _).mono ?_
        rintro e w1 ⟨he, rfl⟩
        rw [HT.out] at he
        subst he
        go_wp2_with fail
        refine XI.out.mono ?_
        rintro e w1 ⟨he, rfl⟩
        rw [E1.out] at he
        subst he
        go_wp2
        go_ret
        exact ⟨rfl, B0.out⟩
    · have E1 := Lib.hid (show idxI hs t = -1 from if_neg h1)
      have E := Lib.hid (show bval hs l t = -1 by simp [bval, HT.out, h1])
      rw [E.out]
      clear E h1
      go_enter Tryz.func157, Tryz.ntmps157
      go_wp2_with fail
      refine (impl_IsVar t _).mono ?_
      rintro e w1 ⟨he, rfl⟩
      rw [HT.out] at he
      subst he
      go_wp2_with fail
      refine XI.out.mono ?_
      rintro e w1 ⟨he, rfl⟩
      rw [E1.out] at he
      subst he
      go_wp2
      go_ret
      exact ⟨rfl, B0.out⟩
  · have ht' : inB t 10 17 = false := by simpa using ht
    have HT := Lib.hid ht'
    rw [bval_no ht']
    clear ht ht'
    go_enter Tryz.func157, Tryz.ntmps157
    go_wp2_with fail
    refine (impl_IsVar t _).mono ?_
    rintro e w1 ⟨he, rfl⟩
    rw [HT.out] at he
    subst he
    go_wp2
    go_ret
    exact ⟨rfl, B0.out⟩
end Go.Proofs.YtimlpdcambmcjaaGreat

namespace Go.Proofs.YtimlpdcambmcjaaGreat
open Go.ChangeShapes Go.WideShapes Go.ChangeAt Go.RowKit Go.Sort
set_option linter.unusedVariables false
set_option linter.unusedSimpArgs false

theorem OwnP.keep {w w' : World} {lo hi g m k : Nat} {fs : FL} (h : OwnP w lo hi g m k fs) (hk : ∀ b, lo ≤ b → b < hi → w'.heap[b]? = w.heap[b]?) : OwnP w' lo hi g m k fs := by
  obtain ⟨h1, h2, F, bs, hr, he, hd⟩ := h
  refine ⟨h1, h2, F, bs, World.rowIs.of_block hr (hk g h1 h2), fun j hj => ?_, hd⟩
  obtain ⟨e0, e1⟩ := he j hj
  exact ⟨e0, e1.keep fun a b _ => hk _ a b⟩
/-- A list of the call's own that lies below block hi, whatever is made later. -/
def PX (w : World) (lo hi g m : Nat) (fs : FL) : Prop := OwnP w lo hi g m fs.length fs ∧ hi ≤ w.heap.size ∧ fs.length * 2 ≤ m
theorem PX.step {w w' : World} {lo hi g m : Nat} {fs : FL} (h : PX w lo hi g m fs) (b : Below w.heap.size w w') : PX w' lo hi g m fs :=
  ⟨h.1.keep fun q _ hq => b.block q (by have := h.2.1; omega), Nat.le_trans h.2.1 b.size, h.2.2⟩
theorem PX.keep {w w' : World} {lo hi g m : Nat} {fs : FL} (h : PX w lo hi g m fs) (hk : ∀ b, lo ≤ b → b < hi → w'.heap[b]? = w.heap[b]?) (hs : w.heap.size ≤ w'.heap.size) : PX w' lo hi g m fs :=
  ⟨h.1.keep hk, Nat.le_trans h.2.1 hs, h.2.2⟩
theorem PX.rf {w : World} {lo hi g m : Nat} {fs : FL} (h : PX w lo hi g m fs) : RF w (some ⟨g, 0, none⟩) fs := (h.1.facts h.2.2).mono (Nat.zero_le _) h.2.1
theorem Row.step {w w' : World} {g : Nat} {xs : List Int} (h : Row w g xs) (b : Below w.heap.size w w') : Row w' g xs := h.of_block (b.block _ (World.rowIs.lt h))

theorem addF_pos (l : FL) (r : Int) (xs : List Int) : 0 < (addF l r xs).length := by
  unfold addF
  split
  · rename_i h
    rcases l with _ | ⟨g, t⟩
    · cases h
    · simp
  · cases l with
    | nil => simp [addI]
    | cons g t => rw [addI]; split <;> simp
def AddP (w : World) (res : FL) (e : Ending) (w' : World) : Prop :=
  ∃ g cap, e = .returned (.slice (some ⟨g, 0, none⟩) res.length cap) ∧ PX w' w.heap.size w'.heap.size g (cap * 2) res ∧ Below w.heap.size w w'
theorem AddOut.toP {w : World} {l : FL} {r : Int} {xs : List Int} {e : Ending} {w' : World} (h : AddOut w (addF l r xs) e w') : AddP w (addF l r xs) e w' := by
  obtain ⟨A, c, cs, bs, he, ho, hb⟩ := h
  obtain ⟨g, cap, hv, _, _⟩ := ho.1.form (addF_pos l r xs)
  injection hv with e1 e2 e3
  subst e1 e3
  obtain ⟨_, hc, hp⟩ := ho.to_P
  exact ⟨g, c, he, ⟨hp, Nat.le_refl _, by omega⟩, hb⟩
theorem toFactS_p (A : Option Addr) (c : Nat) (fs : FL) (hz : szF fs ≤ 1048576) (w : World) (h : RF w A fs) :
    Calls Tryz.prog 21 #[.slice A fs.length c] w fun e w' => e = .returned (.slice (some ⟨w.heap.size, 0, none⟩) fs.length fs.length) ∧ PX w' w.heap.size w'.heap.size w.heap.size (fs.length * 2) fs ∧ Below w.heap.size w w' ∧ w.heap.size < w'.heap.size :=
  (toFactS_any A c fs hz w h).mono fun _ _ ⟨a, b, c, d⟩ => ⟨a, ⟨b, Nat.le_refl _, Nat.le_refl _⟩, c, d⟩

theorem eqFact_b (r : Int) (xs : List Int) (A A' : Option Addr) (c c' : Nat) (hl : xs.length ≤ 2097152) (w : World) (h : RI w A xs) (h' : RI w A' xs) :
    Calls Tryz.prog 61 #[.agg #[.int .i64 r, .slice A xs.length c], .agg #[.int .i64 r, .slice A' xs.length c']] w fun e w' => e = .returned (.bool true) ∧ Below w.heap.size w w' := by
  have := eqFact_any _ _ _ _ r r xs xs A A' c c' (by omega) (by omega) w (Nat.le_refl _) (Nat.le_refl _) h h'
  rwa [decide_eq_true rfl, decide_eq_true rfl] at this
theorem szF_elem_b {l : FL} (h : szF l ≤ 1048577) {k : Nat} (hk : k < l.length) : (l.getD k (0, [])).2.length ≤ 2097152 := by
  have h1 := sumN_take l k hk
  have h2 := sumN_le l (k + 1)
  unfold szF at h
  omega
set_option maxRecDepth 100000 in
set_option maxHeartbeats 1000000 in
theorem eqFactS_b (A A' : Option Addr) (c c' : Nat) (fs : FL) (hz : szF fs ≤ 1048577) (w : World) (h : RF w A fs) (h' : RF w A' fs) :
    Calls Tryz.prog 25 #[.slice A fs.length c, .slice A' fs.length c'] w fun e w' => e = .returned (.bool true) ∧ Below w.heap.size w w' := by
  have hl : fs.length ≤ 1048577 := by unfold szF at hz; omega
  have hl' : (fs.length : Int) ≤ 1048577 := by omega
  have HI := Lib.hid h
  have HJ := Lib.hid h'
  clear h h'
  go_enter Tryz.func25, Tryz.ntmps25
  go_wp2
  go_loopw [5] (fun i wr => ∃ k : Nat, k ≤ fs.length ∧ i = .int .i64 k ∧ Below w.heap.size w wr) (fun i _ => fs.length - (intOf i).toNat)
  case atStart => exact ⟨0, by omega, rfl, Below.refl _ _⟩
  case round =>
    obtain ⟨k, hk, rfl, hb⟩ := hrel
    by_cases hlt : k < fs.length
    · generalize hf : fs.getD k (0, []) = f
      obtain ⟨r, xs⟩ := f
      have hxl : xs.length ≤ 2097152 := by have := szF_elem_b hz hlt; rw [hf] at this; exact this
      obtain ⟨b, off, B, c2, rfl, n1, e0, e1, _, _, hI⟩ := (HI.out.step hb).at_ hlt hf
      obtain ⟨b', off', B', c2', rfl, n2, e0', e1', _, _, hI'⟩ := (HJ.out.step hb).at_ hlt hf
      have k0 := cell_regrown e0
      have k1 := cell_regrown e1
      have k2 := cell_regrown e0'
      have k3 := cell_regrown e1'
      have HX := Lib.hid hI
      have HX' := Lib.hid hI'
      clear hf hI hI' e0 e1 e0' e1'
      have hk0 : (0 : Int) ≤ (k : Int) := by omega
      have hk1 : (k : Int) < (fs.length : Int) := by omega
      have X1 := Lib.hid fun (W : World) (hW : Below wr.heap.size wr W) => eqFact_b r xs B B' c2 c2' hxl W (HX.out.step hW) (HX'.out.step hW)
      go_wp2
      refine wp_region_quiet_below (by kernel_rfl) (by kernel_rfl) ?_
      repeat (go_big_quiet_step (first | (go_at_call 61; with_reducible exact Calls.regrown_of (X1.out _ (below_regrown _ _ _)))))
      refine wpQuiet_nil ?_
      intro u hw'
      have hb2 : Below w.heap.size w u := by obtain ⟨⟨dq, osq⟩, rfl⟩ := hw'; exact step hb (below_regrown _ _ _)
      clear hw' k0 k1 k2 k3
      go_wp2
      go_roundw
      case rel => exact ⟨k + 1, by omega, by go_num, hb2⟩
      case measure => simp [intOf]; omega
    · obtain rfl : k = fs.length := by omega
      go_wp2
      go_ret
      exact ⟨rfl, hb⟩
end Go.Proofs.YtimlpdcambmcjaaGreat

namespace Go.Proofs.YtimlpdcambmcjaaGreat
open Go.ChangeShapes Go.WideShapes Go.ChangeAt Go.RowKit Go.Sort
open Go.Deep (BT)
set_option linter.unusedVariables false
set_option linter.unusedSimpArgs false

/-- The numbers of a tree in their order. -/
def tl : BT Int → List Int
  | .nil => []
  | .node _ _ x l r => tl l ++ x :: tl r
/-- The blocks of its nodes. -/
def tb : BT Int → List Nat
  | .nil => []
  | .node a _ _ l r => a :: (tb l ++ tb r)
/-- The nodes lie in memory, each in a block of its own from lo on. -/
def At (w : World) (lo : Nat) : BT Int → Prop
  | .nil => True
  | .node a o x l r => o = 0 ∧ lo ≤ a ∧ Box w a #[.int .i64 x, l.ptr, r.ptr] 190 ∧ At w lo l ∧ At w lo r
theorem At.rng {w : World} {lo : Nat} : ∀ {t : BT Int}, At w lo t → ∀ b, b ∈ tb t → lo ≤ b ∧ b < w.heap.size
  | .nil, _, b, hb => by simp [tb] at hb
  | .node a o x l r, h, b, hb => by
    obtain ⟨_, h1, h2, h3, h4⟩ := h
    simp only [tb, List.mem_cons, List.mem_append] at hb
    rcases hb with rfl | hb | hb
    · exact ⟨h1, h2.lt⟩
    · exact At.rng h3 b hb
    · exact At.rng h4 b hb
theorem At.keep {w w' : World} {lo : Nat} : ∀ {t : BT Int}, At w lo t → (∀ b, b ∈ tb t → w'.heap[b]? = w.heap[b]?) → At w' lo t
  | .nil, _, _ => trivial
  | .node a o x l r, h, hk => by
    obtain ⟨h0, h1, h2, h3, h4⟩ := h
    exact ⟨h0, h1, (hk a (by simp [tb])).trans h2, At.keep h3 fun b hb => hk b (by simp [tb, hb]), At.keep h4 fun b hb => hk b (by simp [tb, hb])⟩
theorem At.step {w w' : World} {lo : Nat} {t : BT Int} (h : At w lo t) (d : Below w.heap.size w w') : At w' lo t := h.keep fun b hb => d.block b (h.rng b hb).2

theorem ptr_form (t : BT Int) : ∃ p, t.ptr = .pointer p := by cases t <;> exact ⟨_, rfl⟩

/-- The numbers behind an addition. -/
def putT : BT Int → Int → List Int
  | .nil, x => [x]
  | .node _ _ y l r, x => if x < y then putT l x ++ y :: tl r else if y < x then tl l ++ y :: putT r x else tl l ++ y :: tl r

/-- The tree t has become t', which holds the numbers s. -/
structure Added (w w' : World) (lo : Nat) (t t' : BT Int) (s : List Int) : Prop where
  at_ : At w' lo t'
  nodup : (tb t').Nodup
  list : tl t' = s
  below : Below lo w w'
  keep : ∀ b, b < w.heap.size → b ∉ tb t → w'.heap[b]? = w.heap[b]?
  sub : ∀ b, b ∈ tb t' → b ∈ tb t ∨ w.heap.size ≤ b
def AddT (w : World) (lo : Nat) (t : BT Int) (s : List Int) (e : Ending) (w' : World) : Prop := ∃ t' : BT Int, e = .returned t'.ptr ∧ Added w w' lo t t' s

theorem nodup_node {a o : Nat} {x : Int} {l r : BT Int} (h : (tb (.node a o x l r)).Nodup) : a ∉ tb l ∧ a ∉ tb r ∧ (tb l).Nodup ∧ (tb r).Nodup ∧ ∀ b, b ∈ tb l → b ∉ tb r := by
  simp only [tb, List.nodup_cons, List.mem_append, List.nodup_append, not_or] at h
  obtain ⟨⟨h1, h2⟩, h3, h4, h5⟩ := h
  exact ⟨h1, h2, h3, h4, fun b hb hb' => h5 b hb b hb' rfl⟩
theorem node_nodup {a o : Nat} {x : Int} {l r : BT Int} (h1 : a ∉ tb l) (h2 : a ∉ tb r) (h3 : (tb l).Nodup) (h4 : (tb r).Nodup) (h5 : ∀ b, b ∈ tb l → b ∉ tb r) : (tb (.node a o x l r)).Nodup := by
  simp only [tb, List.nodup_cons, List.mem_append, List.nodup_append, not_or]
  exact ⟨⟨h1, h2⟩, h3, h4, fun b hb b' hb' e => h5 b hb (e ▸ hb')⟩

/-- The left branch is another one now. -/
theorem added_left {w w1 : World} {lo a : Nat} {y : Int} {l r l' : BT Int} {s : List Int} (h : At w lo (.node a 0 y l r)) (hn : (tb (.node a 0 y l r)).Nodup) (hA : Added w w1 lo l l' s) :
    Added w (w1.setCell ⟨a, 1, none⟩ l'.ptr) lo (.node a 0 y l r) (.node a 0 y l' r) (s ++ y :: tl r) := by
  obtain ⟨_, ha, hb, hl, hr⟩ := id h
  obtain ⟨n1, n2, n3, n4, n5⟩ := nodup_node hn
  have hrng := h.rng
  have hs := hA.below.size
  have a' : a ∉ tb l' := fun hc => by
    rcases hA.sub a hc with hc | hc
    · exact n1 hc
    · have := hb.lt; omega
  have far : ∀ b, b ≠ a → (w1.setCell ⟨a, 1, none⟩ l'.ptr).heap[b]? = w1.heap[b]? := fun b hba => Below.heap_setCell _ ⟨a, 1, none⟩ _ b hba
  have hb1 : Box w1 a #[.int .i64 y, l.ptr, r.ptr] 190 := (hA.keep a hb.lt n1).trans hb
  have hr1 : ∀ b, b ∈ tb r → w1.heap[b]? = w.heap[b]? := fun b hbr => hA.keep b (hr.rng b hbr).2 fun hc => n5 b hc hbr
  refine ⟨⟨rfl, ha, hb1.set 1 l'.ptr, hA.at_.keep fun b hbl => far b fun e => a' (e ▸ hbl), (hr.keep hr1).keep fun b hbr => far b fun e => n2 (e ▸ hbr)⟩,
    node_nodup a' n2 hA.nodup n4 fun b hbl hbr => ?_, by simp only [tl, hA.list], hA.below.setCell ha _, fun b hbw hbn => ?_, fun b hbt => ?_⟩
  · rcases hA.sub b hbl with hc | hc
    · exact n5 b hc hbr
    · have := (hr.rng b hbr).2; omega
  · simp only [tb, List.mem_cons, List.mem_append, not_or] at hbn
    exact (far b hbn.1).trans (hA.keep b hbw hbn.2.1)
  · simp only [tb, List.mem_cons, List.mem_append] at hbt ⊢
    rcases hbt with hbt | hbt | hbt
    · exact .inl (.inl hbt)
    · rcases hA.sub b hbt with hc | hc
      · exact .inl (.inr (.inl hc))
      · exact .inr hc
    · exact .inl (.inr (.inr hbt))
theorem added_right {w w1 : World} {lo a : Nat} {y : Int} {l r r' : BT Int} {s : List Int} (h : At w lo (.node a 0 y l r)) (hn : (tb (.node a 0 y l r)).Nodup) (hA : Added w w1 lo r r' s) :
    Added w (w1.setCell ⟨a, 2, none⟩ r'.ptr) lo (.node a 0 y l r) (.node a 0 y l r') (tl l ++ y :: s) := by
  obtain ⟨_, ha, hb, hl, hr⟩ := id h
  obtain ⟨n1, n2, n3, n4, n5⟩ := nodup_node hn
  have hs := hA.below.size
  have a' : a ∉ tb r' := fun hc => by
    rcases hA.sub a hc with hc | hc
    · exact n2 hc
    · have := hb.lt; omega
  have far : ∀ b, b ≠ a → (w1.setCell ⟨a, 2, none⟩ r'.ptr).heap[b]? = w1.heap[b]? := fun b hba => Below.heap_setCell _ ⟨a, 2, none⟩ _ b hba
  have hb1 : Box w1 a #[.int .i64 y, l.ptr, r.ptr] 190 := (hA.keep a hb.lt n2).trans hb
  have hl1 : ∀ b, b ∈ tb l → w1.heap[b]? = w.heap[b]? := fun b hbl => hA.keep b (hl.rng b hbl).2 fun hc => n5 b hbl hc
  refine ⟨⟨rfl, ha, hb1.set 2 r'.ptr, (hl.keep hl1).keep fun b hbl => far b fun e => n1 (e ▸ hbl), hA.at_.keep fun b hbr => far b fun e => a' (e ▸ hbr)⟩,
    node_nodup n1 a' n3 hA.nodup fun b hbl hbr => ?_, by simp only [tl, hA.list], hA.below.setCell ha _, fun b hbw hbn => ?_, fun b hbt => ?_⟩
  · rcases hA.sub b hbr with hc | hc
    · exact n5 b hbl hc
    · have := (hl.rng b hbl).2; omega
  · simp only [tb, List.mem_cons, List.mem_append, not_or] at hbn
    exact (far b hbn.1).trans (hA.keep b hbw hbn.2.2)
  · simp only [tb, List.mem_cons, List.mem_append] at hbt ⊢
    rcases hbt with hbt | hbt | hbt
    · exact .inl (.inl hbt)
    · exact .inl (.inr (.inl hbt))
    · rcases hA.sub b hbt with hc | hc
      · exact .inl (.inr (.inr hc))
      · exact .inr hc

set_option maxHeartbeats 1000000 in
set_option maxRecDepth 100000 in
theorem addTerm_any (lo : Nat) (x : Int) : ∀ (t : BT Int) (w : World), lo ≤ w.heap.size → At w lo t → (tb t).Nodup → Calls Tryz.prog 155 #[t.ptr, .int .i64 x] w (AddT w lo t (putT t x)) := by
  intro t
  induction t with
  | nil =>
    intro w hlo h hn
    have HT : Added w (w.alloc (.cells #[.int .i64 x, .pointer none, .pointer none] 190)) lo .nil (.node w.heap.size 0 x .nil .nil) [x] :=
      ⟨⟨rfl, hlo, Box.new w _ _, trivial, trivial⟩, by simp [tb], rfl, (below_alloc w _).mono hlo, fun b hb _ => Below.heap_alloc _ _ _ hb, fun b hb => by simp [tb] at hb; exact .inr (by omega)⟩
    have HH := Lib.hid HT
    clear hlo h hn HT
    show Calls Tryz.prog 155 #[.pointer none, .int .i64 x] w _
    go_enter Tryz.func155, Tryz.ntmps155
    go_wp2
    go_ret
    exact ⟨_, rfl, HH.out⟩
  | node a o y l r ihl ihr =>
    intro w hlo h hn
    obtain ⟨rfl, ha, hbx, hl, hr⟩ := id h
    obtain ⟨_, _, n3, n4, _⟩ := nodup_node hn
    have HL := Lib.hid (ihl w hlo hl n3)
    have HR := Lib.hid (ihr w hlo hr n4)
    have HAL := Lib.hid fun (w1 : World) (l' : BT Int) (s : List Int) (hA : Added w w1 lo l l' s) => added_left h hn hA
    have HAR := Lib.hid fun (w1 : World) (r' : BT Int) (s : List Int) (hA : Added w w1 lo r r' s) => added_right h hn hA
    have HBX := Lib.hid hbx
    have HN := Lib.hid (nodup_node hn)
    have HS := Lib.hid (show Added w w lo (.node a 0 y l r) (.node a 0 y l r) (tl (.node a 0 y l r)) from ⟨h, hn, rfl, Below.refl _ _, fun _ _ _ => rfl, fun b hb => .inl hb⟩)
    have g0 := hbx.cell 0
    have g1 := hbx.cell 1
    have g2 := hbx.cell 2
    simp only [List.getElem?_toArray, List.getElem?_cons_zero, List.getElem?_cons_succ] at g0 g1 g2
    clear ihl ihr hl hr n3 n4 h hn hbx
    show Calls Tryz.prog 155 #[.pointer (some ⟨a, 0, none⟩), .int .i64 x] w _
    rcases (by omega : x < y ∨ (¬ x < y ∧ y < x) ∨ (¬ x < y ∧ ¬ y < x)) with c1 | ⟨c1, c2⟩ | ⟨c1, c2⟩
    · have E := Lib.hid (show putT (.node a 0 y l r) x = putT l x ++ y :: tl r from if_pos c1)
      have C := Lib.hid (show cmpI x y = -1 by simp [cmpI, c1])
      clear c1
      go_enter Tryz.func155, Tryz.ntmps155
      go_wp2_with fail
      refine (cmpCompare_any x y _).mono ?_
      rintro e w1 ⟨he, rfl⟩
      rw [C.out] at he
      subst he
      go_wp2_with fail
      refine HL.out.mono ?_
      rintro e w1 ⟨l', rfl, hA⟩
      have b1 : Box w1 a #[.int .i64 y, l.ptr, r.ptr] 190 := (hA.keep a HBX.out.lt HN.out.1).trans HBX.out
      have q1 := b1.cell 1
      have q2 := b1.frozen 1
      simp only [List.getElem?_toArray, List.getElem?_cons_zero, List.getElem?_cons_succ] at q1
      have hA2 := HAL.out w1 l' _ hA
      obtain ⟨pp, hpp⟩ := ptr_form l'
      rw [hpp] at hA2 ⊢
      have HA := Lib.hid hA2
      clear hA hA2 b1 g0 g1 g2 hpp
      go_wp2
      go_ret
      exact ⟨.node a 0 y l' r, rfl, by rw [E.out]; exact HA.out⟩
    · have E := Lib.hid (show putT (.node a 0 y l r) x = tl l ++ y :: putT r x from (if_neg c1).trans (if_pos c2))
      have C := Lib.hid (show cmpI x y = 1 by simp [cmpI, c1, c2])
      clear c1 c2
      go_enter Tryz.func155, Tryz.ntmps155
      go_wp2_with fail
      refine (cmpCompare_any x y _).mono ?_
      rintro e w1 ⟨he, rfl⟩
      rw [C.out] at he
      subst he
      go_wp2_with fail
      refine HR.out.mono ?_
      rintro e w1 ⟨r', rfl, hA⟩
      have b1 : Box w1 a #[.int .i64 y, l.ptr, r.ptr] 190 := (hA.keep a HBX.out.lt HN.out.2.1).trans HBX.out
      have q1 := b1.cell 2
      have q2 := b1.frozen 2
      simp only [List.getElem?_toArray, List.getElem?_cons_zero, List.getElem?_cons_succ] at q1
      have hA2 := HAR.out w1 r' _ hA
      obtain ⟨pp, hpp⟩ := ptr_form r'
      rw [hpp] at hA2 ⊢
      have HA := Lib.hid hA2
      clear hA hA2 b1 g0 g1 g2 hpp
      go_wp2
      go_ret
      exact ⟨.node a 0 y l r', rfl, by rw [E.out]; exact HA.out⟩
    · have E := Lib.hid (show putT (.node a 0 y l r) x = tl (.node a 0 y l r) from (if_neg c1).trans (if_neg c2))
      have C := Lib.hid (show cmpI x y = 0 by simp [cmpI, c1, c2])
      clear c1 c2
      go_enter Tryz.func155, Tryz.ntmps155
      go_wp2_with fail
      refine (cmpCompare_any x y _).mono ?_
      rintro e w1 ⟨he, rfl⟩
      rw [C.out] at he
      subst he
      go_wp2
      go_ret
      exact ⟨.node a 0 y l r, rfl, by rw [E.out]; exact HS.out⟩
end Go.Proofs.YtimlpdcambmcjaaGreat

namespace Go.Proofs.YtimlpdcambmcjaaGreat
open Go.ChangeShapes Go.WideShapes Go.ChangeAt Go.RowKit Go.Sort
open Go.Deep (BT)
set_option linter.unusedVariables false
set_option linter.unusedSimpArgs false

theorem ownsRow_lo {w : World} {base base' : Nat} {e : TypeId} {size : Nat} {v : Value} {n : Nat} {cs : List Value} (h : w.ownsRow base e size v n cs) (hb : base' ≤ base) : w.ownsRow base' e size v n cs := by
  refine ⟨h.1, ?_⟩
  rcases h.2 with h2 | ⟨g, cap, cur, hv, hg, hr⟩
  · exact .inl h2
  · exact .inr ⟨g, cap, cur, hv, Nat.le_trans hb hg, hr⟩

/-- append(v, y) of one element as one step of a region that draws. -/
theorem step_pushG {P : Program} {w : World} {ops : Array Oper} {o : Oper} {a : Act} {K : Act → World → Prop} {Q : Exit → Act → World → Prop} {E : Prop} (hgd : o.guard = none) (s x : Operand) (t e : TypeId)
    (ho : o.op = .call { callee := .builtin .append, args := #[s, x], argTypes := #[t, t] })
    (i : TypeInfo) (ht : P.underlying t = some (.slice e)) (hi : P.info? e = some i) (hz : i.zero = some (.int .i64 0)) (hz1 : i.size = 1) (hz2 : i.bytes = 8)
    (base n : Nat) (v : Value) (cs : List Value) (ad : Addr) (c : Nat) (y : Value) (hs : a.eval s = v) (hx : a.eval x = .slice (some ad) 1 c) (hy : y.oneCell' = true)
    (hown : w.ownsRow base e 1 v n cs) (hbase : base ≤ w.heap.size) (hn : n + 1 ≤ 1048580)
    (hc0 : w.cell? (ad.add 0) = some y)
    (h : ∀ v' w', w'.ownsRow base e 1 v' (n + 1) (cs ++ [y]) → w.grownBy w' v.ownBlock → K (a.put o.dst v') w') :
    if Region.wanted o (yielded ops a.tmps) = true then Oper.wp P o a w K Q else E := by
  have hw : Region.wanted o (yielded ops a.tmps) = true := by simp [Region.wanted, hgd]
  rw [if_pos hw]
  refine wp_append_own (P := P) _ s x t ho base e i _ 1 8 ht hi hz hz1 hz2 rfl (by omega) v n _ hs hown ad 1 c [y] hx rfl
    (fun j u hj => by
      rcases j with _ | j
      · simp at hj; subst hj; exact hc0
      · simp at hj) (by intro u hu; simp at hu; subst hu; exact hy)
    (by unfold maxLen; omega) (by omega) hbase ?_
  intro v' w' hown' hg _
  exact h v' w' hown' hg

def ListT (w : World) (xs : List Int) (e : Ending) (w' : World) : Prop := ∃ v, e = .returned v ∧ w'.ownsRow w.heap.size 3 1 v xs.length (xs.map (Value.int .i64)) ∧ Below w.heap.size w w'

set_option maxHeartbeats 4000000 in
set_option maxRecDepth 100000 in
theorem listTerms_any (lo : Nat) : ∀ (t : BT Int) (w : World), At w lo t → (tl t).length ≤ 1048576 → Calls Tryz.prog 156 #[t.ptr] w (ListT w (tl t)) := by
  intro t
  induction t with
  | nil =>
    intro w h hn
    show Calls Tryz.prog 156 #[.pointer none] w _
    clear h hn
    go_enter Tryz.func156, Tryz.ntmps156
    go_wp2
    go_ret
    exact ⟨_, rfl, ⟨rfl, .inl ⟨rfl, rfl⟩⟩, Below.refl _ _⟩
  | node a o y l r ihl ihr =>
    intro w h hn
    obtain ⟨i0, hi, hz0, hz1, hz2⟩ := info_parts int_info
    obtain ⟨rfl, ha, hbx, hl, hr⟩ := id h
    have hlen : (tl l).length + 1 + (tl r).length ≤ 1048576 := by simp [tl] at hn; omega
    have HL := Lib.hid fun (W : World) (N : Below w.heap.size w W) => ihl W (hl.step N) (by omega)
    have HR := Lib.hid fun (W : World) (N : Below w.heap.size w W) => ihr W (hr.step N) (by omega)
    have g0 := hbx.cell 0
    have g1 := hbx.cell 1
    have g2 := hbx.cell 2
    simp only [List.getElem?_toArray, List.getElem?_cons_zero, List.getElem?_cons_succ] at g0 g1 g2
    have HT := Lib.hid fun (W : World) (N : Below w.heap.size w W) => (show W.cell? ⟨a, 0, none⟩ = some (.int .i64 y) ∧ W.cell? ⟨a, 1, none⟩ = some l.ptr ∧ W.cell? ⟨a, 2, none⟩ = some r.ptr from
      ⟨(N.cell (p := ⟨a, 0, none⟩) hbx.lt).trans g0, (N.cell (p := ⟨a, 1, none⟩) hbx.lt).trans g1, (N.cell (p := ⟨a, 2, none⟩) hbx.lt).trans g2⟩)
    have N := below_drew w
    have TL : tl (.node a 0 y l r) = (tl l ++ [y]) ++ tl r := by simp [tl]
    have HTL := Lib.hid TL
    clear ihl ihr hl hr h hn hbx TL
    obtain ⟨pl, hpl⟩ := ptr_form l
    obtain ⟨pr, hpr⟩ := ptr_form r
    rw [hpl] at HL HT g1
    rw [hpr] at HR HT g2
    generalize tl l = xl at HL HTL hlen
    generalize tl r = xr at HR HTL hlen
    rw [HTL.out]
    clear HTL hpl hpr
    show Calls Tryz.prog 156 #[.pointer (some ⟨a, 0, none⟩)] w _
    go_enter Tryz.func156, Tryz.ntmps156
    go_wp2
    go_region_held3 (fun w' => w'.cell? ⟨a, 0, none⟩ = some (.int .i64 y) ∧ w'.cell? ⟨a, 1, none⟩ = some (.pointer pl) ∧ w'.cell? ⟨a, 2, none⟩ = some (.pointer pr))
      (first
        | exact HT.out _ N
        | exact HT.out _ (N.alloc N.size _))
      (first
        | (refine step_pushG rfl _ _ _ 3 rfl i0 Tryz.underlying22 hi hz0 hz1 hz2 w.heap.size xl.length (.slice AL xl.length cL) (xl.map (Value.int .i64)) _ 1 (.int .i64 y) rfl rfl rfl (by first | exact FL.out | exact FL.out.alloc _) (by first | exact N.size | exact (N.alloc N.size _).size) (by omega) (by first | (simp [Addr.add]; done) | exact (KD.out ⟨w.heap.size, 0, none⟩ (by show w.heap.size < (w.alloc (.cells #[.int .i64 y] 3)).heap.size; simp)).trans (by show (w.alloc (.cells #[.int .i64 y] 3)).cell? ⟨w.heap.size, 0, none⟩ = _; simp)) ?_
           intro vA uA hownA hgA
           obtain ⟨AA, cA, rfl⟩ := ownsRow_form hownA
           have NN : Below w.heap.size w uA := by first | exact N.grown hgA N.size (fun k hk => (FL.out.lt k hk).1) | exact (N.alloc N.size _).grown hgA (N.alloc N.size _).size (fun k hk => (FL.out.lt k hk).1)
           have FA := Lib.hid hownA
           clear N hownA hgA
           have N := NN
           clear NN)
        | (refine step_appendR rfl _ _ _ 3 rfl i0 Tryz.underlying22 hi hz0 hz1 hz2 w.heap.size (xl.length + 1) (.slice AA (xl.length + 1) cA) (xl.map (Value.int .i64) ++ [.int .i64 y]) rfl 0 _ A2 c2 xr rfl (by exact FA.out) (by exact FG.out) N N.size (by omega) ?_
           intro vR uR hownR NR _
           have FR := Lib.hid hownR
           clear N hownR
           have N := NR
           clear NR)
        | (have FA0 := FA.out
           clear FA0
           go_at_call 156; refine (HR.out _ N).mono ?_; rintro e uG ⟨vG, rfl, hown, d⟩
           obtain ⟨A2, c2, rfl⟩ := ownsRow_form hown
           have NN : Below w.heap.size w uG := N.trans (d.mono N.size)
           obtain ⟨qG, hv⟩ := ownV_of_row hown
           have FA2 := Lib.hid (ownsRow_step FA.out d)
           clear FA
           have FA := FA2
           have FG := Lib.hid (show RI uG A2 xr from (hv.ints).2.2.2.mono (Nat.zero_le _) (Nat.le_refl _))
           clear hv FA2 N hown d
           have N := NN
           clear NN)
        | (go_at_call 156; refine (HL.out _ (by first | exact N | exact N.alloc N.size _)).mono ?_; rintro e uL ⟨vL, rfl, hown, d⟩
           obtain ⟨AL, cL, rfl⟩ := ownsRow_form hown
           have NN : Below w.heap.size w uL := by first | exact N.trans (d.mono N.size) | exact (N.alloc N.size _).trans (d.mono (N.alloc N.size _).size)
           have KD := Lib.hid fun (p : Addr) h => d.cell (p := p) h
           have FL := Lib.hid (ownsRow_lo hown (by first | exact N.size | exact (N.alloc N.size _).size))
           clear N hown d
           have N := NN
           clear NN))
    all_goals
      have FR2 : uR.ownsRow w.heap.size 3 1 vR (xl ++ [y] ++ xr).length ((xl ++ [y] ++ xr).map (Value.int .i64)) := by
        have := FR.out
        simpa [Nat.add_assoc, Nat.add_comm 1] using this
      have HR2 := Lib.hid FR2
      clear FR2
      go_wp2
      go_ret
      exact ⟨_, rfl, HR2.out, N⟩
end Go.Proofs.YtimlpdcambmcjaaGreat
