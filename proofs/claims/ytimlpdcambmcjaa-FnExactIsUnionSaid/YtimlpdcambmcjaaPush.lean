/- Rows that grow by append, one element or a list of numbers; boxes that are written. Conditions: none beyond each theorem's own. -/
import Derived.Test.YtimlpdcambmcjaaAddL
import Derived.Deep.RegionLaw
namespace Go.Proofs.Ytimlpdcambmcjaa
open Go.ChangeShapes Go.WideShapes Go.ChangeAt Go.RowKit Go.Sort
set_option linter.unusedVariables false
set_option linter.unusedSimpArgs false

/-- append(v, y) of one element, in a new block. -/
theorem wpList_push {P : Program} {W w0 : World} {ops : Array Oper} {rest : List Oper} {o : Oper} {a : Act} {Q : Exit → Act → World → Prop} (hgd : o.guard = none) (s x : Operand) (t e : TypeId)
    (ho : o.op = .call { callee := .builtin .append, args := #[s, x], argTypes := #[t, t] })
    (i : TypeInfo) (ht : P.underlying t = some (.slice e)) (hi : P.info? e = some i) (z : Value) (bytes : Nat) (hz : i.zero = some z) (hz1 : i.size = 1) (hz2 : i.bytes = bytes) (hzs : z.cells.size = 1) (hby : bytes ≤ 32)
    {base n : Nat} {v : Value} {cs : List Value} {y : Value} (hs : a.eval s = v) (hx : a.eval x = .slice (some ⟨W.heap.size, 0, none⟩) 1 1) (hy : y.oneCell' = true)
    (hown : W.ownsRow base e 1 v n cs) (hb : Below base w0 W) (hbase : base ≤ W.heap.size) (hn : n + 1 ≤ 1048580)
    (h : ∀ v' w', w'.ownsRow base e 1 v' (n + 1) (cs ++ [y]) → Below base w0 w' → w'.heap.size > base → wpList P ops Q rest (a.put o.dst v') w') :
    wpList P ops Q (o :: rest) a (W.alloc (.cells #[y] e)) := by
  refine wpList_append_own (P := P) _ hgd s x t ho base e i z 1 bytes ht hi hz hz1 hz2 hzs (by omega) v n _ hs (hown.alloc _) ⟨W.heap.size, 0, none⟩ 1 1 [y] hx rfl (cell_one_new _ _ _) (by intro u hu; simp at hu; subst hu; exact hy)
    (by unfold maxLen; omega) (by have : (n + 1) * bytes ≤ 1048580 * 32 := Nat.mul_le_mul hn hby; omega) (by simp; omega) ?_
  intro v' w' hown' hg _
  refine h v' w' hown' ((hb.alloc hbase _).grown hg (by simp; omega) fun k hk => ?_) (by have := hg.size; simp at this; omega)
  exact (hown.lt k hk).1

theorem ownsRow_form {w : World} {base : Nat} {e : TypeId} {size : Nat} {v : Value} {n : Nat} {cs : List Value} (h : w.ownsRow base e size v n cs) : ∃ A c, v = .slice A n c := by
  rcases h.2 with ⟨rfl, h0⟩ | ⟨g, cap, _, rfl, _⟩
  · exact ⟨none, 0, by rw [h0]⟩
  · exact ⟨_, _, rfl⟩
theorem ownsRow_step {w w' : World} {base : Nat} {e : TypeId} {size : Nat} {v : Value} {n : Nat} {cs : List Value} (h : w.ownsRow base e size v n cs) (d : Below w.heap.size w w') : w'.ownsRow base e size v n cs :=
  h.kept (own_none d) (by rcases hv : v.ownBlock with _ | g <;> simp)

theorem box_set1 {w : World} {g : Nat} {t : TypeId} {a b v : Value} (h : Box w g #[a, b] t) : Box (w.setCell ⟨g, 1, none⟩ v) g #[a, v] t := by
  have hlt := h.lt
  unfold Box at h ⊢
  have h' : w.heap[g] = .cells #[a, b] t (0, 0) := by simpa [Array.getElem?_eq_getElem hlt] using h
  show (w.heap.modify g _)[g]? = _
  rw [Array.getElem?_eq_getElem (by simpa using hlt), Array.getElem_modify_self, h']
  rfl
theorem ownsRow_set {w : World} {base : Nat} {e : TypeId} {size : Nat} {v u : Value} {n : Nat} {cs : List Value} (h : w.ownsRow base e size v n cs) {p : Addr} (hp : p.block < base) : (w.setCell p u).ownsRow base e size v n cs := by
  refine ⟨h.1, ?_⟩
  rcases h.2 with h0 | ⟨g, cap, cur, hv, hb, hg, r⟩
  · exact .inl h0
  · exact .inr ⟨g, cap, cur, hv, hb, by rw [Below.heap_setCell _ _ _ _ (by omega)]; exact hg, r⟩

theorem step_callB {P : Program} {ops : Array Oper} {o : Oper} {a : Act} {w : World} {K : Act → World → Prop} {Q : Exit → Act → World → Prop} {E : Prop}
    (hgd : o.guard = none) (g : FuncId) (x : Operand) (t : TypeId) (ho : o.op = .call { callee := .value (.func g), args := #[x], argTypes := #[t] })
    (vx v : Value) (hx : a.eval x = vx) (hcf : (callFunc g #[vx]).run P w = .ok (.enter g #[vx]) w) (hc : Calls P g #[vx] w fun e w' => e = .returned v ∧ Below w.heap.size w w') (hK : ∀ w', Below w.heap.size w w' → K (a.put o.dst v) w') :
    if Region.wanted o (yielded ops a.tmps) = true then Oper.wp P o a w K Q else E := by
  have hw : Region.wanted o (yielded ops a.tmps) = true := by simp [Region.wanted, hgd]
  rw [if_pos hw]
  unfold Oper.wp
  have hf : a.eval (.func g) = Value.func (.func g) #[] #[] := rfl
  have e : (execOp a.eval o).run P w = .ok (.enter g #[vx]) w := by
    rw [← hx] at hcf ⊢
    simpa [go_sem, execOp, ho, resolve, invoke] using hcf
  rw [e, Oper.upon_enter]
  refine hc.mono ?_
  rintro _ w' ⟨rfl, d⟩
  exact hK w' d

theorem step_pushR {P : Program} {w w0 : World} {ops : Array Oper} {o : Oper} {a : Act} {K : Act → World → Prop} {Q : Exit → Act → World → Prop} {E : Prop} (hgd : o.guard = none) (s x : Operand) (t e : TypeId)
    (ho : o.op = .call { callee := .builtin .append, args := #[s, x], argTypes := #[t, t] })
    (i : TypeInfo) (ht : P.underlying t = some (.slice e)) (hi : P.info? e = some i) (z : Value) (bytes : Nat) (hz : i.zero = some z) (hz1 : i.size = 1) (hz2 : i.bytes = bytes) (hzs : z.cells.size = 1) (hby : bytes ≤ 32)
    (base n : Nat) (v : Value) (cs : List Value) (ad : Addr) (c : Nat) (y : Value) (hs : a.eval s = v) (hx : a.eval x = .slice (some ad) 1 c) (hy : y.oneCell' = true)
    (hown : w.ownsRow base e 1 v n cs) (hb : Below base w0 w) (hbase : base ≤ w.heap.size) (hn : n + 1 ≤ 1048580)
    (hc0 : w.cell? (ad.add 0) = some y)
    (h : ∀ v' w', w'.ownsRow base e 1 v' (n + 1) (cs ++ [y]) → Below base w0 w' → w.heap.size ≤ w'.heap.size → K (a.put o.dst v') w') :
    if Region.wanted o (yielded ops a.tmps) = true then Oper.wp P o a w K Q else E := by
  have hw : Region.wanted o (yielded ops a.tmps) = true := by simp [Region.wanted, hgd]
  rw [if_pos hw]
  refine wp_append_own (P := P) _ s x t ho base e i z 1 bytes ht hi hz hz1 hz2 hzs (by omega) v n _ hs hown ad 1 c [y] hx rfl
    (fun j u hj => by
      rcases j with _ | j
      · simp at hj; subst hj; exact hc0
      · simp at hj) (by intro u hu; simp at hu; subst hu; exact hy)
    (by unfold maxLen; omega) (by have : (n + 1) * bytes ≤ 1048580 * 32 := Nat.mul_le_mul hn hby; omega) hbase ?_
  intro v' w' hown' hg _
  refine h v' w' hown' (hb.grown hg hbase fun k hk => ?_) hg.size
  exact (hown.lt k hk).1


/-- append(v, s...) as one step of a region that draws: v a row of the call's own, s a list of numbers that is read, nil or not. -/
theorem step_appendR {P : Program} {w w0 : World} {ops : Array Oper} {o : Oper} {a : Act} {K : Act → World → Prop} {Q : Exit → Act → World → Prop} {E : Prop} (hgd : o.guard = none) (s x : Operand) (t e : TypeId)
    (ho : o.op = .call { callee := .builtin .append, args := #[s, x], argTypes := #[t, t] })
    (i : TypeInfo) (ht : P.underlying t = some (.slice e)) (hi : P.info? e = some i) (hz : i.zero = some (.int .i64 0)) (hz1 : i.size = 1) (hz2 : i.bytes = 8)
    (base n : Nat) (v : Value) (cs : List Value) (hs : a.eval s = v) (lo hi' : Nat) (A : Option Addr) (c : Nat) (xs : List Int) (hx : a.eval x = .slice A xs.length c)
    (hown : w.ownsRow base e 1 v n cs) (hr : Ints w lo hi' A xs) (hb : Below base w0 w) (hbase : base ≤ w.heap.size) (hn : n + xs.length ≤ 17592186044416)
    (h : ∀ v' w', w'.ownsRow base e 1 v' (n + xs.length) (cs ++ xs.map (Value.int .i64)) → Below base w0 w' → w.heap.size ≤ w'.heap.size → K (a.put o.dst v') w') :
    if Region.wanted o (yielded ops a.tmps) = true then Oper.wp P o a w K Q else E := by
  have hw : Region.wanted o (yielded ops a.tmps) = true := by simp [Region.wanted, hgd]
  rw [if_pos hw]
  rcases A with _ | ad
  · have hx0 : xs = [] := by
      rcases xs with _ | ⟨y, ys⟩
      · rfl
      · obtain ⟨b, off, h1, _⟩ := hr (by simp)
        cases h1
    subst hx0
    have hrun : (Builtin.append_ #[t, t] o.type #[v, .slice none 0 c]).run P w = .ok v w := by
      rcases hown.2 with ⟨rfl, rfl⟩ | ⟨g, cap, cur, rfl, _, _, hnc, _⟩
      · simp [Builtin.append_, run_underlying ht, sizeOf, typeInfo, hi, Builtin.lenOf, Builtin.firstCells]
      · simp [Builtin.append_, run_underlying ht, sizeOf, typeInfo, hi, Builtin.lenOf, Builtin.firstCells, hnc, storeCells]
    unfold Oper.wp execOp
    simp only [List.length_nil] at hx
    simp only [ho, resolve, invoke, builtin, Sem.run_bind, Sem.run_pure, Result.andThen_ok, List.map_toArray, List.map_cons, List.map_nil, hs, hx, hrun]
    exact h v w (by simpa using hown) hb (Nat.le_refl _)
  · refine wp_append_own (P := P) _ s x t ho base e i (.int .i64 0) 1 8 ht hi hz hz1 hz2 rfl (by omega) v n _ hs hown ad xs.length c (xs.map (Value.int .i64)) hx (by simp) (fun j u hj => ?_) (fun u hu => ?_) (by unfold maxLen; omega) (by omega) hbase ?_
    · have hj' : j < xs.length := by have := (List.getElem?_eq_some_iff.1 hj).1; simpa using this
      obtain ⟨b, off, h1, _, _, h4⟩ := hr (by rintro rfl; simp at hj')
      injection h1 with h1
      subst h1
      rw [add_eq, h4 j hj']
      rw [List.getElem?_map, List.getElem?_eq_getElem hj'] at hj
      injection hj with hj
      subst hj
      simp [List.getD_eq_getElem?_getD, hj']
    · simp only [List.mem_map] at hu
      obtain ⟨y, _, rfl⟩ := hu
      rfl
    · intro v' w' hown' hg _
      exact h v' w' hown' (hb.grown hg hbase fun k hk => (hown.lt k hk).1) hg.size
end Go.Proofs.Ytimlpdcambmcjaa
