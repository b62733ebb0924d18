/- Rows that grow by append, one element or a list of numbers; boxes that are written. Conditions: none beyond each theorem's own. Queries in memory: their size, their copy, their comparison by the law. Conditions: none beyond each theorem's own. Marks on queries. Conditions: none beyond each theorem's own. -/
import Derived.Test.YtighalbnpgmdfaaGreatAddL
import Derived.Deep.RegionLaw
import Derived.Test.YtighalbnpgmdfaaGreatAtom

namespace Go.Proofs.YtighalbnpgmdfaaGreat
open Go.ChangeShapes Go.WideShapes Go.ChangeAt Go.RowKit Go.Sort
set_option linter.unusedVariables false
set_option linter.unusedSimpArgs false

/-- append(v, y) of one element, in a new block. -/
theorem wpList_push {P : Program} {W w0 : World} {ops : Array Oper} {rest : List Oper} {o : Oper} {a : Act} {Q : Exit → Act → World → Prop} (hgd : o.guard = none) (s x : Operand) (t e : TypeId)
    (ho : o.op = .call { callee := .builtin .append, args := #[s, x], argTypes := #[t, t] })
    (i : TypeInfo) (ht : P.underlying t = some (.slice e)) (hi : P.info? e = some i) (z : Value) (bytes : Nat) (hz : i.zero = some z) (hz1 : i.size = 1) (hz2 : i.bytes = bytes) (hzs : z.cells.size = 1) (hby : bytes ≤ 32)
    {base n : Nat} {v : Value} {cs : List Value} {y : Value} (hs : a.eval s = v) (hx : a.eval x = .slice (some ⟨W.heap.size, 0, none⟩) 1 1) (hy : y.oneCell' = true)
    (hown : W.ownsRow base e 1 v n cs) (hb : Below base w0 W) (hbase : base ≤ W.heap.size) (hn : n + 1 ≤ 1048580)
    (h : ∀ v' w', w'.ownsRow base e 1 v' (n + 1) (cs ++ [y]) → Below base w0 w' → w'.heap.size > base → wpList P ops Q rest (a.put o.dst v') w') :
    wpList P ops Q (o :: rest) a (W.alloc (.cells #[y] e)) := by
  refine wpList_append_own (P := P) _ hgd s x t ho base e i z 1 bytes ht hi hz hz1 hz2 hzs (by omega) v n _ hs (hown.alloc _) ⟨W.heap.size, 0, none⟩ 1 1 [y] hx rfl (cell_one_new _ _ _) (by intro u hu; simp at hu; subst hu; exact hy)
    (by unfold maxLen; omega) (by have : (n + 1) * bytes ≤ 1048580 * 32 := Nat.mul_le_mul hn hby; omega) (by simp; omega) ?_
  intro v' w' hown' hg _
  refine h v' w' hown' ((hb.alloc hbase _).grown hg (by simp; omega) fun k hk => ?_) (by have := hg.size; simp at this; omega)
  exact (hown.lt k hk).1

theorem ownsRow_form {w : World} {base : Nat} {e : TypeId} {size : Nat} {v : Value} {n : Nat} {cs : List Value} (h : w.ownsRow base e size v n cs) : ∃ A c, v = .slice A n c := by
  rcases h.2 with ⟨rfl, h0⟩ | ⟨g, cap, _, rfl, _⟩
  · exact ⟨none, 0, by rw [h0]⟩
  · exact ⟨_, _, rfl⟩
theorem ownsRow_step {w w' : World} {base : Nat} {e : TypeId} {size : Nat} {v : Value} {n : Nat} {cs : List Value} (h : w.ownsRow base e size v n cs) (d : Below w.heap.size w w') : w'.ownsRow base e size v n cs :=
  h.kept (own_none d) (by rcases hv : v.ownBlock with _ | g <;> simp)

theorem box_set1 {w : World} {g : Nat} {t : TypeId} {a b v : Value} (h : Box w g #[a, b] t) : Box (w.setCell ⟨g, 1, none⟩ v) g #[a, v] t := by
  have hlt := h.lt
  unfold Box at h ⊢
  have h' : w.heap[g] = .cells #[a, b] t (0, 0) := by simpa [Array.getElem?_eq_getElem hlt] using h
  show (w.heap.modify g _)[g]? = _
  rw [Array.getElem?_eq_getElem (by simpa using hlt), Array.getElem_modify_self, h']
  rfl
theorem ownsRow_set {w : World} {base : Nat} {e : TypeId} {size : Nat} {v u : Value} {n : Nat} {cs : List Value} (h : w.ownsRow base e size v n cs) {p : Addr} (hp : p.block < base) : (w.setCell p u).ownsRow base e size v n cs := by
  refine ⟨h.1, ?_⟩
  rcases h.2 with h0 | ⟨g, cap, cur, hv, hb, hg, r⟩
  · exact .inl h0
  · exact .inr ⟨g, cap, cur, hv, hb, by rw [Below.heap_setCell _ _ _ _ (by omega)]; exact hg, r⟩

theorem step_callB {P : Program} {ops : Array Oper} {o : Oper} {a : Act} {w : World} {K : Act → World → Prop} {Q : Exit → Act → World → Prop} {E : Prop}
    (hgd : o.guard = none) (g : FuncId) (x : Operand) (t : TypeId) (ho : o.op = .call { callee := .value (.func g), args := #[x], argTypes := #[t] })
    (vx v : Value) (hx : a.eval x = vx) (hcf : (callFunc g #[vx]).run P w = .ok (.enter g #[vx]) w) (hc : Calls P g #[vx] w fun e w' => e = .returned v ∧ Below w.heap.size w w') (hK : ∀ w', Below w.heap.size w w' → K (a.put o.dst v) w') :
    if Region.wanted o (yielded ops a.tmps) = true then Oper.wp P o a w K Q else E := by
  have hw : Region.wanted o (yielded ops a.tmps) = true := by simp [Region.wanted, hgd]
  rw [if_pos hw]
  unfold Oper.wp
  have hf : a.eval (.func g) = Value.func (.func g) #[] #[] := rfl
  have e : (execOp a.eval o).run P w = .ok (.enter g #[vx]) w := by
    rw [← hx] at hcf ⊢
    simpa [go_sem, execOp, ho, resolve, invoke] using hcf
  rw [e, Oper.upon_enter]
  refine hc.mono ?_
  rintro _ w' ⟨rfl, d⟩
  exact hK w' d

theorem step_pushR {P : Program} {w w0 : World} {ops : Array Oper} {o : Oper} {a : Act} {K : Act → World → Prop} {Q : Exit → Act → World → Prop} {E : Prop} (hgd : o.guard = none) (s x : Operand) (t e : TypeId)
    (ho : o.op = .call { callee := .builtin .append, args := #[s, x], argTypes := #[t, t] })
    (i : TypeInfo) (ht : P.underlying t = some (.slice e)) (hi : P.info? e = some i) (z : Value) (bytes : Nat) (hz : i.zero = some z) (hz1 : i.size = 1) (hz2 : i.bytes = bytes) (hzs : z.cells.size = 1) (hby : bytes ≤ 32)
    (base n : Nat) (v : Value) (cs : List Value) (ad : Addr) (c : Nat) (y : Value) (hs : a.eval s = v) (hx : a.eval x = .slice (some ad) 1 c) (hy : y.oneCell' = true)
    (hown : w.ownsRow base e 1 v n cs) (hb : Below base w0 w) (hbase : base ≤ w.heap.size) (hn : n + 1 ≤ 1048580)
    (hc0 : w.cell? (ad.add 0) = some y)
    (h : ∀ v' w', w'.ownsRow base e 1 v' (n + 1) (cs ++ [y]) → Below base w0 w' → w.heap.size ≤ w'.heap.size → K (a.put o.dst v') w') :
    if Region.wanted o (yielded ops a.tmps) = true then Oper.wp P o a w K Q else E := by
  have hw : Region.wanted o (yielded ops a.tmps) = true := by simp [Region.wanted, hgd]
  rw [if_pos hw]
  refine wp_append_own (P := P) _ s x t ho base e i z 1 bytes ht hi hz hz1 hz2 hzs (by omega) v n _ hs hown ad 1 c [y] hx rfl
    (fun j u hj => by
      rcases j with _ | j
      · simp at hj; subst hj; exact hc0
      · simp at hj) (by intro u hu; simp at hu; subst hu; exact hy)
    (by unfold maxLen; omega) (by have : (n + 1) * bytes ≤ 1048580 * 32 := Nat.mul_le_mul hn hby; omega) hbase ?_
  intro v' w' hown' hg _
  refine h v' w' hown' (hb.grown hg hbase fun k hk => ?_) hg.size
  exact (hown.lt k hk).1


/-- append(v, s...) as one step of a region that draws: v a row of the call's own, s a list of numbers that is read, nil or not. -/
theorem step_appendR {P : Program} {w w0 : World} {ops : Array Oper} {o : Oper} {a : Act} {K : Act → World → Prop} {Q : Exit → Act → World → Prop} {E : Prop} (hgd : o.guard = none) (s x : Operand) (t e : TypeId)
    (ho : o.op = .call { callee := .builtin .append, args := #[s, x], argTypes := #[t, t] })
    (i : TypeInfo) (ht : P.underlying t = some (.slice e)) (hi : P.info? e = some i) (hz : i.zero = some (.int .i64 0)) (hz1 : i.size = 1) (hz2 : i.bytes = 8)
    (base n : Nat) (v : Value) (cs : List Value) (hs : a.eval s = v) (lo hi' : Nat) (A : Option Addr) (c : Nat) (xs : List Int) (hx : a.eval x = .slice A xs.length c)
    (hown : w.ownsRow base e 1 v n cs) (hr : Ints w lo hi' A xs) (hb : Below base w0 w) (hbase : base ≤ w.heap.size) (hn : n + xs.length ≤ 17592186044416)
    (h : ∀ v' w', w'.ownsRow base e 1 v' (n + xs.length) (cs ++ xs.map (Value.int .i64)) → Below base w0 w' → w.heap.size ≤ w'.heap.size → K (a.put o.dst v') w') :
    if Region.wanted o (yielded ops a.tmps) = true then Oper.wp P o a w K Q else E := by
  have hw : Region.wanted o (yielded ops a.tmps) = true := by simp [Region.wanted, hgd]
  rw [if_pos hw]
  rcases A with _ | ad
  · have hx0 : xs = [] := by
      rcases xs with _ | ⟨y, ys⟩
      · rfl
      · obtain ⟨b, off, h1, _⟩ := hr (by simp)
        cases h1
    subst hx0
    have hrun : (Builtin.append_ #[t, t] o.type #[v, .slice none 0 c]).run P w = .ok v w := by
      rcases hown.2 with ⟨rfl, rfl⟩ | ⟨g, cap, cur, rfl, _, _, hnc, _⟩
      · simp [Builtin.append_, run_underlying ht, sizeOf, typeInfo, hi, Builtin.lenOf, Builtin.firstCells]
      · simp [Builtin.append_, run_underlying ht, sizeOf, typeInfo, hi, Builtin.lenOf, Builtin.firstCells, hnc, storeCells]
    unfold Oper.wp execOp
    simp only [List.length_nil] at hx
    simp only [ho, resolve, invoke, builtin, Sem.run_bind, Sem.run_pure, Result.andThen_ok, List.map_toArray, List.map_cons, List.map_nil, hs, hx, hrun]
    exact h v w (by simpa using hown) hb (Nat.le_refl _)
  · refine wp_append_own (P := P) _ s x t ho base e i (.int .i64 0) 1 8 ht hi hz hz1 hz2 rfl (by omega) v n _ hs hown ad xs.length c (xs.map (Value.int .i64)) hx (by simp) (fun j u hj => ?_) (fun u hu => ?_) (by unfold maxLen; omega) (by omega) hbase ?_
    · have hj' : j < xs.length := by have := (List.getElem?_eq_some_iff.1 hj).1; simpa using this
      obtain ⟨b, off, h1, _, _, h4⟩ := hr (by rintro rfl; simp at hj')
      injection h1 with h1
      subst h1
      rw [add_eq, h4 j hj']
      rw [List.getElem?_map, List.getElem?_eq_getElem hj'] at hj
      injection hj with hj
      subst hj
      simp [List.getD_eq_getElem?_getD, hj']
    · simp only [List.mem_map] at hu
      obtain ⟨y, _, rfl⟩ := hu
      rfl
    · intro v' w' hown' hg _
      exact h v' w' hown' (hb.grown hg hbase fun k hk => (hown.lt k hk).1) hg.size
end Go.Proofs.YtighalbnpgmdfaaGreat

namespace Go.Proofs.YtighalbnpgmdfaaGreat
open Go.ChangeShapes Go.WideShapes Go.ChangeAt Go.RowKit Go.Sort
open Go.Proofs.YtighalbnpgmdfaaGreat.atom
set_option linter.unusedVariables false
set_option linter.unusedSimpArgs false

section
variable {H : Type} {enc : TypeId × Value → H} {w : World}
set_option maxRecDepth 100000 in
theorem open_queryT {r : Reach} {base : Nat} {v : Value} {d : DataW H} {p : List MemPlace} (hv : Value.okWide Tryz.prog w r base 25 v) (h : DataW.Trod enc Tryz.prog w 0 (fun _ => true) true 25 v d p) :
    ∃ (H A : Option Addr) (ch c : Nat) (hs : List Int) (l : FL), v = .agg #[.slice H hs.length ch, .slice A l.length c] ∧ hs.length ≤ ch ∧ ch ≤ maxLen ∧ l.length ≤ c ∧ c ≤ maxLen ∧ (Ints w 0 w.heap.size H hs ∧ Facts w 0 w.heap.size A l) := by
  have hok : Value.okWide Tryz.prog w r base 25 v := hv
  obtain ⟨v0, v1, y0, y1, n, rfl, _, _, h0, h1⟩ := Go.Joins.open_agg2 Tryz.underlying25 (by kernel_rfl) (by kernel_rfl) hv h
  obtain ⟨A, c, xs, hv1, hl, hm, hi⟩ := open_nums (v := v0) Tryz.underlying22 Tryz.underlying3 (by kernel_rfl) h0
  subst hv1
  have h2 := atom.open_atoms_at (v := v1) h1
  obtain ⟨B, c2, l, rfl, hl2, hm2, hf⟩ := h2
  exact ⟨A, B, c, c2, xs, l, rfl, hl, hm, hl2, hm2, hi, hf⟩
end

/-- How many values a query holds. -/
def szQ (hs : List Int) (l : FL) : Int := (hs.length : Int) + szF l

set_option maxRecDepth 100000 in
theorem szQuery_any (H A : Option Addr) (ch c : Nat) (hs : List Int) (l : FL) (left : Int) (hh : hs.length ≤ 9223372036854775807) (hl : l.length ≤ 9223372036854775807) (h0 : 0 ≤ left) (h1 : left ≤ 1048576) (w : World) (h : RF w A l) :
    Calls Tryz.prog 5 #[.agg #[.slice H hs.length ch, .slice A l.length c], .int .i64 left] w fun e w' => e = .returned (.int .i64 (szR left (szQ hs l))) ∧ Below w.heap.size w w' := by
  have hn := szF_nonneg l
  have HI := Lib.hid (h.step (below_alloc w (.cells #[.slice H hs.length ch, .slice A l.length c] 25)))
  clear h
  by_cases hb : left - (hs.length : Int) < 0
  · have E := Lib.hid (szR_neg (left := left) (z := szQ hs l) (by unfold szQ; omega))
    rw [E.out]
    go_enter Tryz.func5, Tryz.ntmps5
    go_wp2_with fail
    refine (szIntS_any H ch hs.length left hh h0 h1 _).mono ?_
    rintro e w1 ⟨rfl, rfl⟩
    rw [if_pos hb]
    go_wp2
    go_ret
    exact ⟨rfl, below_alloc _ _⟩
  · have hb' : (hs.length : Int) ≤ left := by omega
    have hb2 : 0 ≤ left - (hs.length : Int) := by omega
    have XS := Lib.hid fun (W : World) (hW : RF W A l) => szAtomS_w A c l (left - hs.length) hl (by omega) (by omega) W hW
    by_cases hz : left - (hs.length : Int) - szF l < 0
    · have E := Lib.hid (szR_neg (left := left) (z := szQ hs l) (by unfold szQ; omega))
      have E2 := Lib.hid (szR_neg hz)
      rw [E.out]
      go_enter Tryz.func5, Tryz.ntmps5
      go_wp2_with fail
      refine (szIntS_any H ch hs.length left hh h0 h1 _).mono ?_
      rintro e w1 ⟨rfl, rfl⟩
      rw [if_neg (show ¬ (left - (hs.length : Int) < 0) by omega)]
      go_wp2_with fail
      refine (XS.out _ HI.out).mono ?_
      rintro e w1 ⟨he, d⟩
      rw [E2.out] at he
      subst he
      have D := Lib.hid (below_new d)
      clear d
      go_wp2
      go_ret
      exact ⟨rfl, D.out⟩
    · have hz2 : 0 ≤ left - (hs.length : Int) - szF l := by omega
      have E := Lib.hid (show szR left (szQ hs l) = left - hs.length - szF l by rw [szR_pos (by unfold szQ; omega)]; unfold szQ; omega)
      have E2 := Lib.hid (szR_pos hz)
      rw [E.out]
      go_enter Tryz.func5, Tryz.ntmps5
      go_wp2_with fail
      refine (szIntS_any H ch hs.length left hh h0 h1 _).mono ?_
      rintro e w1 ⟨rfl, rfl⟩
      rw [if_neg (show ¬ (left - (hs.length : Int) < 0) by omega)]
      go_wp2_with fail
      refine (XS.out _ HI.out).mono ?_
      rintro e w1 ⟨he, d⟩
      rw [E2.out] at he
      subst he
      have D := Lib.hid (below_new d)
      clear d
      go_wp2
      go_ret
      exact ⟨rfl, D.out⟩

/-- A query of the call's own: its head in block g, its atoms from block g + 1 on. -/
def QX (w : World) (g hi : Nat) (hs : List Int) (l : FL) : Prop := Row w g hs ∧ atom.PX w (g + 1) hi (g + 1) (l.length * 2) l
theorem QX.step {w w' : World} {g hi : Nat} {hs : List Int} {l : FL} (h : QX w g hi hs l) (b : Below w.heap.size w w') : QX w' g hi hs l := ⟨h.1.step b, h.2.step b⟩
theorem QX.keep {w w' : World} {g hi : Nat} {hs : List Int} {l : FL} (h : QX w g hi hs l) (hk : ∀ b, g ≤ b → b < hi → w'.heap[b]? = w.heap[b]?) (hs' : w.heap.size ≤ w'.heap.size) : QX w' g hi hs l :=
  ⟨h.1.of_block (hk g (Nat.le_refl _) (by have := h.2.1.2.1; omega)), h.2.keep (fun b h1 h2 => hk b (by omega) h2) hs'⟩
theorem QX.ri {w : World} {g hi : Nat} {hs : List Int} {l : FL} (h : QX w g hi hs l) : RI w (some ⟨g, 0, none⟩) hs := h.1.ri
theorem QX.rf {w : World} {g hi : Nat} {hs : List Int} {l : FL} (h : QX w g hi hs l) : RF w (some ⟨g + 1, 0, none⟩) l := h.2.rf
theorem QX.lt {w : World} {g hi : Nat} {hs : List Int} {l : FL} (h : QX w g hi hs l) : g + 1 < hi ∧ hi ≤ w.heap.size := ⟨h.2.1.2.1, h.2.2.1⟩

set_option maxHeartbeats 1000000 in
set_option maxRecDepth 100000 in
theorem toQuery_r (H A : Option Addr) (ch c : Nat) (hs : List Int) (l : FL) (hh : hs.length ≤ 1048576) (hz : szF l ≤ 1048576) (w : World) (h : RI w H hs) (h' : RF w A l) :
    Calls Tryz.prog 9 #[.agg #[.slice H hs.length ch, .slice A l.length c]] w fun e w' =>
      e = .returned (.agg #[.slice (some ⟨w.heap.size + 3, 0, none⟩) hs.length hs.length, .slice (some ⟨w.heap.size + 3 + 1, 0, none⟩) l.length l.length]) ∧ QX w' (w.heap.size + 3) w'.heap.size hs l ∧ Below w.heap.size w w' ∧ w.heap.size + 4 < w'.heap.size := by
  obtain ⟨W, hW⟩ : ∃ W, W = ((w.alloc (.cells #[.slice H hs.length ch, .slice A l.length c] 25)).alloc (.cells #[.slice none 0 0, .slice none 0 0] 34)).alloc (.cells #[.slice none 0 0, .slice none 0 0] 34) := ⟨_, rfl⟩
  have BW := Lib.hid (show Below w.heap.size w W by rw [hW]; exact step (step (below_alloc _ _) (below_alloc _ _)) (below_alloc _ _))
  have ZW := Lib.hid (show W.heap.size = w.heap.size + 3 by rw [hW]; simp)
  have X0 : Box W w.heap.size #[.slice H hs.length ch, .slice A l.length c] 25 := by rw [hW]; exact ((Box.new w _ _).step (below_alloc _ _)).step (below_alloc _ _)
  have X1 : Box W (w.heap.size + 1) #[.slice none 0 0, .slice none 0 0] 34 := by
    have h1 := (Box.new (w.alloc (.cells #[.slice H hs.length ch, .slice A l.length c] 25)) #[.slice none 0 0, .slice none 0 0] 34).step (below_alloc _ (.cells #[.slice none 0 0, .slice none 0 0] 34))
    rw [hW]; simpa using h1
  have X2 : Box W (w.heap.size + 2) #[.slice none 0 0, .slice none 0 0] 34 := by
    have h1 := Box.new ((w.alloc (.cells #[.slice H hs.length ch, .slice A l.length c] 25)).alloc (.cells #[.slice none 0 0, .slice none 0 0] 34)) #[.slice none 0 0, .slice none 0 0] 34
    rw [hW]; simpa using h1
  have HX0 := Lib.hid X0
  have HX1 := Lib.hid X1
  have HX2 := Lib.hid X2
  have HI := Lib.hid h
  have HF := Lib.hid h'
  have EW := Lib.hid hW
  clear h h' X0 X1 X2 hW
  go_enter Tryz.func9, Tryz.ntmps9
  go_wp2_with fail
  rw [← EW.out]
  refine (toIntS_r H ch hs hh _ (HI.out.step BW.out)).mono ?_
  rintro e w1 ⟨rfl, hr, hb, hz1⟩
  have HR := Lib.hid hr
  have HB := Lib.hid hb
  have HZ := Lib.hid hz1
  have Y0 := Lib.hid (HX0.out.step hb)
  have Y1 := Lib.hid (HX1.out.step hb)
  have Y2 := Lib.hid (HX2.out.step hb)
  have a0 := Y0.out.cell 1
  have a2 := Y2.out.cell 0
  have a3 := Y2.out.frozen 0
  simp only [List.getElem?_toArray, List.getElem?_cons_zero, List.getElem?_cons_succ] at a0 a2
  obtain ⟨g, hg⟩ : ∃ g, g = W.heap.size := ⟨_, rfl⟩
  rw [← hg]
  have G := Lib.hid hg
  have L1 : w.heap.size + 2 < w1.heap.size := Y2.out.lt
  have BX := Lib.hid (show Below w.heap.size w (w1.setCell ⟨w.heap.size + 2, 0, none⟩ (.slice (some ⟨g, 0, none⟩) hs.length hs.length)) from (step BW.out hb).setCell (by simp) _)
  clear hr hb hz1 hg
  go_wp2_with fail
  refine (toAtomS_p A c l hz _ (HF.out.step BX.out)).mono ?_
  rintro e w2 ⟨rfl, hp, d, hz2⟩
  have Z0 := Lib.hid (((Y2.out.set 0 (.slice (some ⟨g, 0, none⟩) hs.length hs.length))).step d)
  have Z1 := Lib.hid ((Y1.out.set_other (p := ⟨w.heap.size + 2, 0, none⟩) (u := .slice (some ⟨g, 0, none⟩) hs.length hs.length) (by simp)).step d)
  have HP := Lib.hid hp
  have HD := Lib.hid (step BX.out d)
  have HR2 := Lib.hid ((HR.out.set_other (p := ⟨w.heap.size + 2, 0, none⟩) (u := .slice (some ⟨g, 0, none⟩) hs.length hs.length) (by have := ZW.out; (try simp); omega)).step d)
  have z0 := Z0.out.cell 0
  have z1 := Z0.out.cell 1
  have z2 := Z0.out.frozen 0
  have z3 := Z0.out.frozen 1
  have z4 := Z1.out.cell 0
  have z5 := Z1.out.cell 1
  have z6 := Z1.out.frozen 0
  have z7 := Z1.out.frozen 1
  simp only [List.setIfInBounds_toArray, List.set_cons_zero, List.getElem?_toArray, List.getElem?_cons_zero, List.getElem?_cons_succ] at z0 z1 z4 z5
  have L2 : w.heap.size + 2 < w2.heap.size := Z0.out.lt
  obtain ⟨g2, hg2⟩ : ∃ g2, g2 = (w1.setCell ⟨w.heap.size + 2, 0, none⟩ (.slice (some ⟨g, 0, none⟩) hs.length hs.length)).heap.size := ⟨_, rfl⟩
  rw [← hg2] at HP ⊢
  have E2 := Lib.hid (show g2 = w.heap.size + 3 + 1 by rw [hg2, set_size, HZ.out, ZW.out])
  have E1 := Lib.hid (show g = w.heap.size + 3 by rw [G.out, ZW.out])
  have LZ := Lib.hid (show w.heap.size + 4 < w2.heap.size by rw [set_size, HZ.out, ZW.out] at hz2; omega)
  have ER := Lib.hid (show Row w2 g hs by rw [G.out]; exact HR2.out)
  clear hp d hz2 hg2 a0 a2 a3 Z0 Z1 Y0 Y1 Y2
  go_wp2
  refine bodyPost_ret (v := .agg #[.slice (some ⟨g, 0, none⟩) hs.length hs.length, .slice (some ⟨g2, 0, none⟩) l.length l.length]) (by simp [results, Tryz.results9, go_sem, z0, z1, z2, z3, z4, z5, z6, z7]) rfl ?_
  refine ⟨by rw [E1.out, E2.out], ?_, ?_, ?_⟩
  · refine (show QX w2 (w.heap.size + 3) _ hs l from ⟨by have := ER.out; rwa [E1.out] at this, by have := HP.out; rw [E2.out] at this; simpa [set_size] using this⟩).keep (fun b h1 h2 => ?_) (by simp [set_size])
    exact ((Below.heap_setCell _ ⟨w.heap.size + 1, 1, none⟩ _ b (by (try simp); omega)).trans (Below.heap_setCell _ ⟨w.heap.size + 1, 0, none⟩ _ b (by (try simp); omega))).trans (Below.heap_setCell _ ⟨w.heap.size + 2, 1, none⟩ _ b (by (try simp); omega))
  · exact Below.setCell (Below.setCell (Below.setCell HD.out (by (try simp) <;> omega) _) (by (try simp) <;> omega) _) (by (try simp) <;> omega) _
  · rw [set_size, set_size, set_size]; exact LZ.out

set_option maxHeartbeats 1000000 in
set_option maxRecDepth 100000 in
theorem eqQuery_b (H A H' A' : Option Addr) (ch c ch' c' : Nat) (hs : List Int) (l : FL) (hh : hs.length ≤ 1048576) (hz : szF l ≤ 1048577) (w : World) (h1 : RI w H hs) (h2 : RF w A l) (h3 : RI w H' hs) (h4 : RF w A' l) :
    Calls Tryz.prog 14 #[.agg #[.slice H hs.length ch, .slice A l.length c], .agg #[.slice H' hs.length ch', .slice A' l.length c']] w fun e w' => e = .returned (.bool true) ∧ Below w.heap.size w w' := by
  have B0 := step (below_alloc w (.cells #[.slice H hs.length ch, .slice A l.length c] 34)) (below_alloc _ (.cells #[.slice H' hs.length ch', .slice A' l.length c'] 34))
  have H1 := Lib.hid (h1.step B0)
  have H2 := Lib.hid (h2.step B0)
  have H3 := Lib.hid (h3.step B0)
  have H4 := Lib.hid (h4.step B0)
  have HB0 := Lib.hid B0
  clear h1 h2 h3 h4 B0
  go_enter Tryz.func14, Tryz.ntmps14
  go_wp2_with fail
  refine (eqIntS_r H H' ch ch' hs hh _ H1.out H3.out).mono ?_
  rintro e w1 ⟨rfl, d⟩
  have X := Box.of_new2 d
  have x1 := X.1.cell 1
  have x2 := X.2.cell 1
  simp only [List.getElem?_toArray, List.getElem?_cons_zero, List.getElem?_cons_succ] at x1 x2
  have F2 := Lib.hid (H2.out.step d)
  have F4 := Lib.hid (H4.out.step d)
  have D1 := Lib.hid (step HB0.out d)
  clear X d
  go_wp2_with fail
  refine (eqAtomS_b A A' c c' l hz _ F2.out F4.out).mono ?_
  rintro e w2 ⟨rfl, d⟩
  have D2 := Lib.hid (step D1.out d)
  clear d x1 x2
  go_wp2
  go_ret
  exact ⟨rfl, D2.out⟩
end Go.Proofs.YtighalbnpgmdfaaGreat

namespace Go.Proofs.YtighalbnpgmdfaaGreat
open Go.ChangeShapes Go.WideShapes Go.ChangeAt Go.RowKit Go.Sort
open Go.Proofs.YtighalbnpgmdfaaGreat.atom
set_option linter.unusedVariables false
set_option linter.unusedSimpArgs false

/-- Of the memory that was there only the blocks from lo to below hi have turned. -/
structure Mk (lo hi : Nat) (w w' : World) : Prop where
  below : Below lo w w'
  above : ∀ b, hi ≤ b → b < w.heap.size → w'.heap[b]? = w.heap[b]?
theorem Mk.keep {lo hi : Nat} {w w' : World} (h : Mk lo hi w w') {b : Nat} (hb : b < lo ∨ hi ≤ b) (hlt : b < w.heap.size) : w'.heap[b]? = w.heap[b]? := by
  rcases hb with hb | hb
  · exact h.below.block b hb
  · exact h.above b hb hlt

/-- A query of the call's own: its head from block lo to below mid, its atoms from there to below hi. -/
def QO (w : World) (lo mid hi : Nat) (H A : Option Addr) (ch c : Nat) (hs : List Int) (l : FL) : Prop :=
  (∃ q, OwnV w lo mid (.slice H hs.length ch) q hs) ∧ (l = [] ∨ ∃ g m, A = some ⟨g, 0, none⟩ ∧ atom.OwnP w mid hi g m l.length l ∧ l.length * 2 ≤ m) ∧ lo ≤ mid ∧ mid ≤ hi ∧ hi ≤ w.heap.size
theorem QO.keep {w w' : World} {lo mid hi : Nat} {H A : Option Addr} {ch c : Nat} {hs : List Int} {l : FL} (h : QO w lo mid hi H A ch c hs l) (hk : ∀ b, lo ≤ b → b < hi → w'.heap[b]? = w.heap[b]?) (hz : w.heap.size ≤ w'.heap.size) : QO w' lo mid hi H A ch c hs l := by
  obtain ⟨⟨q, h1⟩, h2, h3, h4, h5⟩ := h
  refine ⟨⟨q, h1.keep fun a b _ => hk _ a (by omega)⟩, ?_, h3, h4, by omega⟩
  rcases h2 with h2 | ⟨g, m, e, h2, h6⟩
  · exact .inl h2
  · exact .inr ⟨g, m, e, h2.keep fun b a c => hk b (by omega) c, h6⟩
theorem QO.step {w w' : World} {lo mid hi : Nat} {H A : Option Addr} {ch c : Nat} {hs : List Int} {l : FL} (h : QO w lo mid hi H A ch c hs l) (d : Below w.heap.size w w') : QO w' lo mid hi H A ch c hs l :=
  h.keep (fun b _ hb => d.block b (by have := h.2.2.2.2; omega)) d.size
theorem QO.ri {w : World} {lo mid hi : Nat} {H A : Option Addr} {ch c : Nat} {hs : List Int} {l : FL} (h : QO w lo mid hi H A ch c hs l) : RI w H hs := by
  obtain ⟨⟨q, h1⟩, _, h3, h4, h5⟩ := h
  exact (h1.ints).2.2.2.mono (Nat.zero_le _) (by omega)
theorem QO.rf {w : World} {lo mid hi : Nat} {H A : Option Addr} {ch c : Nat} {hs : List Int} {l : FL} (h : QO w lo mid hi H A ch c hs l) : RF w A l := by
  obtain ⟨_, h2, h3, h4, h5⟩ := h
  rcases h2 with rfl | ⟨g, m, rfl, h2, h6⟩
  · exact fun hne => absurd rfl hne
  · exact (h2.facts h6).mono (Nat.zero_le _) h5
theorem QX.qo {w : World} {g hi : Nat} {hs : List Int} {l : FL} (h : QX w g hi hs l) (hh : hs.length ≤ 1048576) : QO w g (g + 1) hi (some ⟨g, 0, none⟩) (some ⟨g + 1, 0, none⟩) hs.length l.length hs l :=
  ⟨⟨g, OwnV.of_row h.1 (Nat.le_refl _) (Nat.lt_succ_self _) (Nat.le_refl _) (by unfold maxLen; omega)⟩, .inr ⟨g + 1, l.length * 2, rfl, h.2.1, Nat.le_refl _⟩, Nat.le_succ _, Nat.le_of_lt h.lt.1, h.lt.2⟩

set_option maxRecDepth 100000 in
theorem markAtomS_zero (A : Option Addr) (c : Nat) (q : Int) (w : World) (h0 : 0 ≤ q) (h1 : q ≤ 1099511627776) :
    Calls Tryz.prog 40 #[.slice A 0 c, .int .i64 q] w fun e w' => e = .returned (.int .i64 q) ∧ w = w' := by
  go_enter Tryz.func40, Tryz.ntmps40
  go_wp2
  refine wp_loop_rounds 1 ?_
  rw [rounds_succ]
  go_wp2
  go_ret
  exact ⟨rfl, rfl⟩

theorem mkK_nil (q : Int) (n : Nat) : mkK q [] n = [] := by simp [mkK]

/-- The marks of a list of numbers of the call's own. -/
theorem markIntS_own (lo hi q : Nat) (A : Option Addr) (c : Nat) (k : Int) (xs : List Int) (hl : xs.length ≤ 1048576) (h0 : 0 ≤ k) (h1 : k ≤ 33554432) (w : World) (hlt : hi ≤ w.heap.size) (hlo : lo ≤ hi) (h : OwnV w lo hi (.slice A xs.length c) q xs) :
    Calls Tryz.prog 16 #[.slice A xs.length c, .int .i64 k] w fun e w' => e = .returned (.int .i64 (k + xs.length)) ∧ Within lo hi w w' ∧ Ints w' lo hi A (marks k xs.length) := by
  obtain ⟨A', c', he, _, _, hx⟩ := h
  injection he with e1 e2 e3
  subst e1 e3
  by_cases hp : 0 < xs.length
  · obtain ⟨rfl, a, b, m, F, hm, hr, _⟩ := hx hp
    refine (markIntS_any _ q c xs.length m k w hl h0 (by omega) F (fun _ => rfl) hm (fun _ => hr)).mono ?_
    rintro e w' ⟨rfl, hw, hr'⟩
    refine ⟨rfl, hw.mono a (by omega), fun _ => ⟨q, 0, rfl, a, b, fun j hj => ?_⟩⟩
    rw [marks_length] at hj
    rw [Nat.zero_add, World.rowIs.cell (hr' hp) (show j < m by omega), marks_getD _ _ _ hj, if_pos hj]
  · have hz : xs.length = 0 := by omega
    rw [hz]
    refine (markIntS_zero A c k w h0 (by omega)).mono ?_
    rintro e w' ⟨rfl, rfl⟩
    exact ⟨by simp, Within.refl _ _ _, fun h => absurd rfl h⟩

/-- The marks of a list of atoms of the call's own. -/
theorem markAtomS_own (lo hi : Nat) (A : Option Addr) (c : Nat) (k : Int) (l : FL) (hz : szF l ≤ 1048576) (h0 : 0 ≤ k) (h1 : k ≤ 16777216) (w : World)
    (h : l = [] ∨ ∃ g m, A = some ⟨g, 0, none⟩ ∧ atom.OwnP w lo hi g m l.length l ∧ l.length * 2 ≤ m) :
    Calls Tryz.prog 40 #[.slice A l.length c, .int .i64 k] w fun e w' => e = .returned (.int .i64 (k + szF l)) ∧ Within lo hi w w' ∧ Facts w' lo hi A (mkK k l l.length) := by
  rcases h with rfl | ⟨g, m, rfl, hO, hm⟩
  · refine (markAtomS_zero A c k w h0 (by omega)).mono ?_
    rintro e w' ⟨rfl, rfl⟩
    exact ⟨by simp [szF, sumN], Within.refl _ _ _, by rw [mkK_nil]; exact fun h => absurd rfl h⟩
  · refine (markAtomS_any lo hi g m c k l (by omega) h0 (by omega) hm w hO).mono ?_
    rintro e w' ⟨rfl, hO', hw⟩
    exact ⟨rfl, hw, atom.OwnP.facts (by rw [mkK_length]; exact hO') (by rw [mkK_length]; exact hm)⟩

set_option maxRecDepth 100000 in
theorem markQuery_o (lo mid hi : Nat) (H A : Option Addr) (ch c : Nat) (hs : List Int) (l : FL) (k : Int) (h0 : 0 ≤ k) (h1 : k ≤ 8388608) (hz : szQ hs l ≤ 1048576) (w : World) (h : QO w lo mid hi H A ch c hs l) :
    Calls Tryz.prog 17 #[.agg #[.slice H hs.length ch, .slice A l.length c], .int .i64 k] w fun e w' =>
      e = .returned (.int .i64 (k + szQ hs l)) ∧ Mk lo hi w w' ∧ (Ints w' lo mid H (marks k hs.length) ∧ Facts w' mid hi A (mkK (k + hs.length) l l.length)) := by
  have hn := szF_nonneg l
  have hzh : (hs.length : Int) + szF l ≤ 1048576 := hz
  have hq := h.step (below_alloc w (.cells #[.slice H hs.length ch, .slice A l.length c] 34))
  obtain ⟨⟨q, hO⟩, hA, e1, e2, e3⟩ := hq
  have e4 := h.2.2.2.2
  have XM := Lib.hid (markIntS_own lo mid q H ch k hs (by omega) h0 (by omega) _ (by omega) e1 hO)
  have XB := Lib.hid (Box.new w #[.slice H hs.length ch, .slice A l.length c] 34)
  have HA := Lib.hid hA
  clear h hO hA
  go_enter Tryz.func17, Tryz.ntmps17
  go_wp2_with fail
  refine XM.out.mono ?_
  rintro e w1 ⟨rfl, hw, hi1⟩
  have X1 : Box w1 w.heap.size #[.slice H hs.length ch, .slice A l.length c] 34 := (hw.block _ (.inr (by omega))).trans XB.out
  have x1 := X1.cell 1
  simp only [List.getElem?_toArray, List.getElem?_cons_zero, List.getElem?_cons_succ] at x1
  have HW := Lib.hid hw
  have HI := Lib.hid hi1
  have XA := Lib.hid (markAtomS_own mid hi A c (k + hs.length) l (by omega) (by omega) (by omega) w1 (by
    rcases HA.out with h | ⟨g, m, e, h, hm⟩
    · exact .inl h
    · exact .inr ⟨g, m, e, h.keep fun b a _ => hw.block b (.inr a), hm⟩))
  have hk2 : 0 ≤ k + (hs.length : Int) := by omega
  clear X1 hw hi1
  go_wp2_with fail
  refine XA.out.mono ?_
  rintro e w2 ⟨rfl, hw, hf⟩
  have HW2 := Lib.hid hw
  have HF := Lib.hid hf
  clear hw hf x1
  go_wp2
  go_ret
  refine ⟨ret_int (by unfold szQ; omega), ⟨?_, fun b hb hlt => ?_⟩, HI.out.keep fun b _ hb => HW2.out.block b (.inl hb), HF.out⟩
  · exact ((below_alloc w _).mono (by omega)).trans (HW.out.below.trans (HW2.out.below.mono e1))
  · exact (HW2.out.block b (.inr hb)).trans ((HW.out.block b (.inr (by omega))).trans (Below.heap_alloc _ _ _ hlt))

set_option maxRecDepth 100000 in
theorem heldQuery_o (H A : Option Addr) (ch c : Nat) (hs : List Int) (l : FL) (k : Int) (h0 : 0 ≤ k) (h1 : k ≤ 1) (hz : szQ hs l ≤ 1048576) (w : World) (h : RI w H (marks k hs.length)) (h' : RF w A (mkK (k + hs.length) l l.length)) :
    Calls Tryz.prog 23 #[.agg #[.slice H hs.length ch, .slice A l.length c], .int .i64 k] w fun e w' => e = .returned (.int .i64 (k + szQ hs l)) ∧ Below w.heap.size w w' := by
  have hn := szF_nonneg l
  have hzh : (hs.length : Int) + szF l ≤ 1048576 := hz
  have HI := Lib.hid (h.step (below_alloc w (.cells #[.slice H hs.length ch, .slice A l.length c] 34)))
  have HF := Lib.hid (h'.step (below_alloc w (.cells #[.slice H hs.length ch, .slice A l.length c] 34)))
  have hk2 : 0 ≤ k + (hs.length : Int) := by omega
  have hk3 : 0 ≤ k + (hs.length : Int) + szF l := by omega
  clear h h'
  go_enter Tryz.func23, Tryz.ntmps23
  go_wp2_with fail
  refine (heldIntS_any _ _ H ch hs.length k _ (by omega) h0 (by omega) HI.out).mono ?_
  rintro e w1 ⟨rfl, rfl⟩
  go_wp2_with fail
  refine (heldAtomS_any A c (k + hs.length) l (by omega) (by omega) (by omega) _ HF.out).mono ?_
  rintro e w1 ⟨rfl, rfl⟩
  go_wp2
  go_ret
  exact ⟨ret_int (by unfold szQ; omega), below_alloc _ _⟩
end Go.Proofs.YtighalbnpgmdfaaGreat
