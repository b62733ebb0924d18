/- Atoms in memory, read, copied, compared and marked. Conditions: none beyond each theorem's own. Rows that grow by append, one element or a list of numbers; boxes that are written. Conditions: none beyond each theorem's own. Queries in memory: their size, their copy, their comparison by the law. Conditions: none beyond each theorem's own. Marks on queries. Conditions: none beyond each theorem's own. Marks on accesses and on states of what is reached. Conditions: none beyond each theorem's own. -/
import Derived.Test.YtnmhppiccganoaaDoorMark2
import Derived.Test.YtnmhppiccganoaaDoorAddL
import Derived.Deep.RegionLaw
import Derived.Test.YtnmhppiccganoaaDoorRch

namespace Go.Proofs.YtnmhppiccganoaaDoor.atom
open Go.ChangeShapes Go.WideShapes Go.ChangeAt Go.RowKit Go.Sort
set_option linter.unusedVariables false
set_option linter.unusedSimpArgs false

section
variable {H : Type} {enc : TypeId × Value → H} {w : World}
end
/-- Is (r, xs) a fact of the schema s? -/
def factB (s : List Int) (r : Int) (xs : List Int) : Bool := schB s && inB r 0 ((s.length : Int) - 1) && decide ((xs.length : Int) = s.getD r.toNat 0) && allB 0 17 xs

end Go.Proofs.YtnmhppiccganoaaDoor.atom

namespace Go.Proofs.YtnmhppiccganoaaDoor
open Go.ChangeShapes Go.WideShapes Go.ChangeAt Go.RowKit Go.Sort
set_option linter.unusedVariables false
set_option linter.unusedSimpArgs false

/-- append(v, y) of one element, in a new block. -/
theorem wpList_push {P : Program} {W w0 : World} {ops : Array Oper} {rest : List Oper} {o : Oper} {a : Act} {Q : Exit → Act → World → Prop} (hgd : o.guard = none) (s x : Operand) (t e : TypeId)
    (ho : o.op = .call { callee := .builtin .append, args := #[s, x], argTypes := #[t, t] })
    (i : TypeInfo) (ht : P.underlying t = some (.slice e)) (hi : P.info? e = some i) (z : Value) (bytes : Nat) (hz : i.zero = some z) (hz1 : i.size = 1) (hz2 : i.bytes = bytes) (hzs : z.cells.size = 1) (hby : bytes ≤ 32)
    {base n : Nat} {v : Value} {cs : List Value} {y : Value} (hs : a.eval s = v) (hx : a.eval x = .slice (some ⟨W.heap.size, 0, none⟩) 1 1) (hy : y.oneCell' = true)
    (hown : W.ownsRow base e 1 v n cs) (hb : Below base w0 W) (hbase : base ≤ W.heap.size) (hn : n + 1 ≤ 1048580)
    (h : ∀ v' w', w'.ownsRow base e 1 v' (n + 1) (cs ++ [y]) → Below base w0 w' → w'.heap.size > base → wpList P ops Q rest (a.put o.dst v') w') :
    wpList P ops Q (o :: rest) a (W.alloc (.cells #[y] e)) := by
  refine wpList_append_own (P := P) _ hgd s x t ho base e i z 1 bytes ht hi hz hz1 hz2 hzs (by omega) v n _ hs (hown.alloc _) ⟨W.heap.size, 0, none⟩ 1 1 [y] hx rfl (cell_one_new _ _ _) (by intro u hu; simp at hu; subst hu; exact hy)
    (by unfold maxLen; omega) (by have : (n + 1) * bytes ≤ 1048580 * 32 := Nat.mul_le_mul hn hby; omega) (by simp; omega) ?_
  intro v' w' hown' hg _
  refine h v' w' hown' ((hb.alloc hbase _).grown hg (by simp; omega) fun k hk => ?_) (by have := hg.size; simp at this; omega)
  exact (hown.lt k hk).1

theorem ownsRow_form {w : World} {base : Nat} {e : TypeId} {size : Nat} {v : Value} {n : Nat} {cs : List Value} (h : w.ownsRow base e size v n cs) : ∃ A c, v = .slice A n c := by
  rcases h.2 with ⟨rfl, h0⟩ | ⟨g, cap, _, rfl, _⟩
  · exact ⟨none, 0, by rw [h0]⟩
  · exact ⟨_, _, rfl⟩
theorem ownsRow_step {w w' : World} {base : Nat} {e : TypeId} {size : Nat} {v : Value} {n : Nat} {cs : List Value} (h : w.ownsRow base e size v n cs) (d : Below w.heap.size w w') : w'.ownsRow base e size v n cs :=
  h.kept (own_none d) (by rcases hv : v.ownBlock with _ | g <;> simp)

theorem box_set1 {w : World} {g : Nat} {t : TypeId} {a b v : Value} (h : Box w g #[a, b] t) : Box (w.setCell ⟨g, 1, none⟩ v) g #[a, v] t := by
  have hlt := h.lt
  unfold Box at h ⊢
  have h' : w.heap[g] = .cells #[a, b] t (0, 0) := by simpa [Array.getElem?_eq_getElem hlt] using h
  show (w.heap.modify g _)[g]? = _
  rw [Array.getElem?_eq_getElem (by simpa using hlt), Array.getElem_modify_self, h']
  rfl
theorem ownsRow_set {w : World} {base : Nat} {e : TypeId} {size : Nat} {v u : Value} {n : Nat} {cs : List Value} (h : w.ownsRow base e size v n cs) {p : Addr} (hp : p.block < base) : (w.setCell p u).ownsRow base e size v n cs := by
  refine ⟨h.1, ?_⟩
  rcases h.2 with h0 | ⟨g, cap, cur, hv, hb, hg, r⟩
  · exact .inl h0
  · exact .inr ⟨g, cap, cur, hv, hb, by rw [Below.heap_setCell _ _ _ _ (by omega)]; exact hg, r⟩

theorem step_callB {P : Program} {ops : Array Oper} {o : Oper} {a : Act} {w : World} {K : Act → World → Prop} {Q : Exit → Act → World → Prop} {E : Prop}
    (hgd : o.guard = none) (g : FuncId) (x : Operand) (t : TypeId) (ho : o.op = .call { callee := .value (.func g), args := #[x], argTypes := #[t] })
    (vx v : Value) (hx : a.eval x = vx) (hcf : (callFunc g #[vx]).run P w = .ok (.enter g #[vx]) w) (hc : Calls P g #[vx] w fun e w' => e = .returned v ∧ Below w.heap.size w w') (hK : ∀ w', Below w.heap.size w w' → K (a.put o.dst v) w') :
    if Region.wanted o (yielded ops a.tmps) = true then Oper.wp P o a w K Q else E := by
  have hw : Region.wanted o (yielded ops a.tmps) = true := by simp [Region.wanted, hgd]
  rw [if_pos hw]
  unfold Oper.wp
  have hf : a.eval (.func g) = Value.func (.func g) #[] #[] := rfl
  have e : (execOp a.eval o).run P w = .ok (.enter g #[vx]) w := by
    rw [← hx] at hcf ⊢
    simpa [go_sem, execOp, ho, resolve, invoke] using hcf
  rw [e, Oper.upon_enter]
  refine hc.mono ?_
  rintro _ w' ⟨rfl, d⟩
  exact hK w' d

theorem step_pushR {P : Program} {w w0 : World} {ops : Array Oper} {o : Oper} {a : Act} {K : Act → World → Prop} {Q : Exit → Act → World → Prop} {E : Prop} (hgd : o.guard = none) (s x : Operand) (t e : TypeId)
    (ho : o.op = .call { callee := .builtin .append, args := #[s, x], argTypes := #[t, t] })
    (i : TypeInfo) (ht : P.underlying t = some (.slice e)) (hi : P.info? e = some i) (z : Value) (bytes : Nat) (hz : i.zero = some z) (hz1 : i.size = 1) (hz2 : i.bytes = bytes) (hzs : z.cells.size = 1) (hby : bytes ≤ 32)
    (base n : Nat) (v : Value) (cs : List Value) (ad : Addr) (c : Nat) (y : Value) (hs : a.eval s = v) (hx : a.eval x = .slice (some ad) 1 c) (hy : y.oneCell' = true)
    (hown : w.ownsRow base e 1 v n cs) (hb : Below base w0 w) (hbase : base ≤ w.heap.size) (hn : n + 1 ≤ 1048580)
    (hc0 : w.cell? (ad.add 0) = some y)
    (h : ∀ v' w', w'.ownsRow base e 1 v' (n + 1) (cs ++ [y]) → Below base w0 w' → w.heap.size ≤ w'.heap.size → K (a.put o.dst v') w') :
    if Region.wanted o (yielded ops a.tmps) = true then Oper.wp P o a w K Q else E := by
  have hw : Region.wanted o (yielded ops a.tmps) = true := by simp [Region.wanted, hgd]
  rw [if_pos hw]
  refine wp_append_own (P := P) _ s x t ho base e i z 1 bytes ht hi hz hz1 hz2 hzs (by omega) v n _ hs hown ad 1 c [y] hx rfl
    (fun j u hj => by
      rcases j with _ | j
      · simp at hj; subst hj; exact hc0
      · simp at hj) (by intro u hu; simp at hu; subst hu; exact hy)
    (by unfold maxLen; omega) (by have : (n + 1) * bytes ≤ 1048580 * 32 := Nat.mul_le_mul hn hby; omega) hbase ?_
  intro v' w' hown' hg _
  refine h v' w' hown' (hb.grown hg hbase fun k hk => ?_) hg.size
  exact (hown.lt k hk).1


/-- append(v, s...) as one step of a region that draws: v a row of the call's own, s a list of numbers that is read, nil or not. -/
theorem step_appendR {P : Program} {w w0 : World} {ops : Array Oper} {o : Oper} {a : Act} {K : Act → World → Prop} {Q : Exit → Act → World → Prop} {E : Prop} (hgd : o.guard = none) (s x : Operand) (t e : TypeId)
    (ho : o.op = .call { callee := .builtin .append, args := #[s, x], argTypes := #[t, t] })
    (i : TypeInfo) (ht : P.underlying t = some (.slice e)) (hi : P.info? e = some i) (hz : i.zero = some (.int .i64 0)) (hz1 : i.size = 1) (hz2 : i.bytes = 8)
    (base n : Nat) (v : Value) (cs : List Value) (hs : a.eval s = v) (lo hi' : Nat) (A : Option Addr) (c : Nat) (xs : List Int) (hx : a.eval x = .slice A xs.length c)
    (hown : w.ownsRow base e 1 v n cs) (hr : Ints w lo hi' A xs) (hb : Below base w0 w) (hbase : base ≤ w.heap.size) (hn : n + xs.length ≤ 17592186044416)
    (h : ∀ v' w', w'.ownsRow base e 1 v' (n + xs.length) (cs ++ xs.map (Value.int .i64)) → Below base w0 w' → w.heap.size ≤ w'.heap.size → K (a.put o.dst v') w') :
    if Region.wanted o (yielded ops a.tmps) = true then Oper.wp P o a w K Q else E := by
  have hw : Region.wanted o (yielded ops a.tmps) = true := by simp [Region.wanted, hgd]
  rw [if_pos hw]
  rcases A with _ | ad
  · have hx0 : xs = [] := by
      rcases xs with _ | ⟨y, ys⟩
      · rfl
      · obtain ⟨b, off, h1, _⟩ := hr (by simp)
        cases h1
    subst hx0
    have hrun : (Builtin.append_ #[t, t] o.type #[v, .slice none 0 c]).run P w = .ok v w := by
      rcases hown.2 with ⟨rfl, rfl⟩ | ⟨g, cap, cur, rfl, _, _, hnc, _⟩
      · simp [Builtin.append_, run_underlying ht, sizeOf, typeInfo, hi, Builtin.lenOf, Builtin.firstCells]
      · simp [Builtin.append_, run_underlying ht, sizeOf, typeInfo, hi, Builtin.lenOf, Builtin.firstCells, hnc, storeCells]
    unfold Oper.wp execOp
    simp only [List.length_nil] at hx
    simp only [ho, resolve, invoke, builtin, Sem.run_bind, Sem.run_pure, Result.andThen_ok, List.map_toArray, List.map_cons, List.map_nil, hs, hx, hrun]
    exact h v w (by simpa using hown) hb (Nat.le_refl _)
  · refine wp_append_own (P := P) _ s x t ho base e i (.int .i64 0) 1 8 ht hi hz hz1 hz2 rfl (by omega) v n _ hs hown ad xs.length c (xs.map (Value.int .i64)) hx (by simp) (fun j u hj => ?_) (fun u hu => ?_) (by unfold maxLen; omega) (by omega) hbase ?_
    · have hj' : j < xs.length := by have := (List.getElem?_eq_some_iff.1 hj).1; simpa using this
      obtain ⟨b, off, h1, _, _, h4⟩ := hr (by rintro rfl; simp at hj')
      injection h1 with h1
      subst h1
      rw [add_eq, h4 j hj']
      rw [List.getElem?_map, List.getElem?_eq_getElem hj'] at hj
      injection hj with hj
      subst hj
      simp [List.getD_eq_getElem?_getD, hj']
    · simp only [List.mem_map] at hu
      obtain ⟨y, _, rfl⟩ := hu
      rfl
    · intro v' w' hown' hg _
      exact h v' w' hown' (hb.grown hg hbase fun k hk => (hown.lt k hk).1) hg.size
end Go.Proofs.YtnmhppiccganoaaDoor

namespace Go.Proofs.YtnmhppiccganoaaDoor
open Go.ChangeShapes Go.WideShapes Go.ChangeAt Go.RowKit Go.Sort
open Go.Proofs.YtnmhppiccganoaaDoor.atom
set_option linter.unusedVariables false
set_option linter.unusedSimpArgs false

section
variable {H : Type} {enc : TypeId × Value → H} {w : World}
end

/-- How many values a query holds. -/
def szQ (hs : List Int) (l : FL) : Int := (hs.length : Int) + szF l

end Go.Proofs.YtnmhppiccganoaaDoor

namespace Go.Proofs.YtnmhppiccganoaaDoor
open Go.ChangeShapes Go.WideShapes Go.ChangeAt Go.RowKit Go.Sort
open Go.Proofs.YtnmhppiccganoaaDoor.atom
set_option linter.unusedVariables false
set_option linter.unusedSimpArgs false

/-- Of the memory that was there only the blocks from lo to below hi have turned. -/
structure Mk (lo hi : Nat) (w w' : World) : Prop where
  below : Below lo w w'
  above : ∀ b, hi ≤ b → b < w.heap.size → w'.heap[b]? = w.heap[b]?
theorem Mk.keep {lo hi : Nat} {w w' : World} (h : Mk lo hi w w') {b : Nat} (hb : b < lo ∨ hi ≤ b) (hlt : b < w.heap.size) : w'.heap[b]? = w.heap[b]? := by
  rcases hb with hb | hb
  · exact h.below.block b hb
  · exact h.above b hb hlt

theorem mkK_nil (q : Int) (n : Nat) : mkK q [] n = [] := by simp [mkK]

/-- The marks of a list of numbers of the call's own. -/
theorem markIntS_own (lo hi q : Nat) (A : Option Addr) (c : Nat) (k : Int) (xs : List Int) (hl : xs.length ≤ 1048576) (h0 : 0 ≤ k) (h1 : k ≤ 33554432) (w : World) (hlt : hi ≤ w.heap.size) (hlo : lo ≤ hi) (h : OwnV w lo hi (.slice A xs.length c) q xs) :
    Calls Tryd.prog 15 #[.slice A xs.length c, .int .i64 k] w fun e w' => e = .returned (.int .i64 (k + xs.length)) ∧ Within lo hi w w' ∧ Ints w' lo hi A (marks k xs.length) := by
  obtain ⟨A', c', he, _, _, hx⟩ := h
  injection he with e1 e2 e3
  subst e1 e3
  by_cases hp : 0 < xs.length
  · obtain ⟨rfl, a, b, m, F, hm, hr, _⟩ := hx hp
    refine (markIntS_any _ q c xs.length m k w hl h0 (by omega) F (fun _ => rfl) hm (fun _ => hr)).mono ?_
    rintro e w' ⟨rfl, hw, hr'⟩
    refine ⟨rfl, hw.mono a (by omega), fun _ => ⟨q, 0, rfl, a, b, fun j hj => ?_⟩⟩
    rw [marks_length] at hj
    rw [Nat.zero_add, World.rowIs.cell (hr' hp) (show j < m by omega), marks_getD _ _ _ hj, if_pos hj]
  · have hz : xs.length = 0 := by omega
    rw [hz]
    refine (markIntS_zero A c k w h0 (by omega)).mono ?_
    rintro e w' ⟨rfl, rfl⟩
    exact ⟨by simp, Within.refl _ _ _, fun h => absurd rfl h⟩

end Go.Proofs.YtnmhppiccganoaaDoor

namespace Go.Proofs.YtnmhppiccganoaaDoor
open Go.ChangeShapes Go.WideShapes Go.ChangeAt Go.RowKit Go.Sort
set_option linter.unusedVariables false
set_option linter.unusedSimpArgs false

theorem OwnPa.congr {w : World} {lo hi g m k : Nat} {fs gs : FL} (h : OwnPa w lo hi g m k fs) (e : ∀ j, j < k → gs.getD j (0, []) = fs.getD j (0, [])) : OwnPa w lo hi g m k gs := by
  obtain ⟨h1, h2, F, bs, hr, he, hd⟩ := h
  refine ⟨h1, h2, F, bs, hr, fun j hj => by rw [e j hj]; exact he j hj, fun i j hij hj => ?_⟩
  rw [e i (by omega), e j hj]
  exact hd i j hij hj

/-- Access k is marked: its number first, then its values. -/
theorem markA_step {w w2 : World} {lo hi g m k : Nat} {q : Int} {fs : FL} {F : Nat → Value} {bs : Nat → Nat} (h1 : lo ≤ g) (h2 : g < hi) (hr : w.rowIs g 66 m F)
    (he : ∀ j, j < fs.length → F (j * 2) = .int .i64 ((mkK q fs k).getD j (0, [])).1 ∧ OwnV w lo hi (F (j * 2 + 1)) (bs j) ((mkK q fs k).getD j (0, [])).2)
    (hd : ∀ i j, i < j → j < fs.length → 0 < ((mkK q fs k).getD i (0, [])).2.length → 0 < ((mkK q fs k).getD j (0, [])).2.length → bs i ≠ bs j)
    (hk : k < fs.length) (hm : fs.length * 2 ≤ m)
    (hw : (0 < (fs.getD k (0, [])).2.length ∧ Within (bs k) (bs k + 1) (w.setCell ⟨g, k * 2, none⟩ (.int .i64 (offs q fs k))) w2 ∧
        ∃ (mk : Nat) (Fk : Nat → Value), (fs.getD k (0, [])).2.length ≤ mk ∧ w2.rowIs (bs k) 3 mk (fun i => if i < (fs.getD k (0, [])).2.length then .int .i64 (offs q fs k + 1 + i) else Fk i)) ∨
      ((fs.getD k (0, [])).2.length = 0 ∧ w2 = w.setCell ⟨g, k * 2, none⟩ (.int .i64 (offs q fs k)))) :
    OwnPa w2 lo hi g m fs.length (mkK q fs (k + 1)) ∧ Within lo hi w w2 := by
  have hk0 := he k hk
  rw [mkK_getD q fs k k hk, if_neg (by omega)] at hk0
  have lens : ∀ j, j < fs.length → ∀ k', ((mkK q fs k').getD j (0, [])).2.length = (fs.getD j (0, [])).2.length := fun j hj k' => by
    rw [mkK_getD q fs k' j hj]
    split
    · rw [mkE, marks_length]
    · rfl
  have hwithin : Within lo hi w w2 := by
    have h0 : Within lo hi w (w.setCell ⟨g, k * 2, none⟩ (.int .i64 (offs q fs k))) := (Within.refl _ _ _).set h1 h2 _
    rcases hw with ⟨hp, hwi, _⟩ | ⟨_, rfl⟩
    · obtain ⟨a, b⟩ := hk0.2.rng hp
      exact h0.trans (hwi.mono a (by omega))
    · exact h0
  have hne : ∀ j, j < fs.length → 0 < (fs.getD j (0, [])).2.length → bs j ≠ g := fun j hj hp e => by
    obtain ⟨_, A, c, _, _, _, hx⟩ := he j hj
    obtain ⟨_, _, _, mm, FF, _, hrow, _⟩ := hx (by rw [lens j hj]; exact hp)
    obtain ⟨c1, hc1, _⟩ := hrow
    obtain ⟨c2, hc2, _⟩ := hr
    rw [e] at hc1
    rw [hc1] at hc2
    injection hc2 with hc2
    injection hc2 with _ ht
    exact absurd ht (by decide)
  have hrow1 := hr.set (k * 2) (.int .i64 (offs q fs k))
  have hg2 : w2.rowIs g 66 m (fun j => if j = k * 2 then .int .i64 (offs q fs k) else F j) := by
    rcases hw with ⟨hp, hwi, _⟩ | ⟨_, rfl⟩
    · have hn := hne k hk hp
      exact World.rowIs.of_block hrow1 (hwi.block g (by omega))
    · exact hrow1
  refine ⟨⟨h1, h2, _, bs, hg2, fun j hj => ?_, fun i j hij hj hi0 hj0 => ?_⟩, hwithin⟩
  · have t1 : ¬ (j * 2 + 1 = k * 2) := by omega
    simp only [t1, if_false]
    by_cases e : j = k
    · subst e
      rw [show (mkK q fs (j + 1)).getD j (0, []) = mkE q fs j from (mkK_getD q fs (j + 1) j hj).trans (if_pos (by omega))]
      refine ⟨if_pos rfl, ?_⟩
      obtain ⟨A, c, hv, hc, hcm, hx⟩ := hk0.2
      refine ⟨A, c, by rw [hv, mkE, marks_length], by rw [mkE, marks_length]; exact hc, hcm, fun hp => ?_⟩
      rw [mkE, marks_length] at hp
      rcases hw with ⟨_, hwi, mk, Fk, hmk, hrk⟩ | ⟨h0, _⟩
      · obtain ⟨a1, a2, a3, _⟩ := hx hp
        refine ⟨a1, a2, a3, mk, _, by rw [mkE, marks_length]; exact hmk, hrk, fun i hi => ?_⟩
        rw [mkE, marks_length] at hi
        rw [mkE, marks_getD _ _ _ hi, if_pos hi]
      · omega
    · have t2 : ¬ (j * 2 = k * 2) := by omega
      simp only [t2, if_false]
      rw [mkK_getD q fs (k + 1) j hj]
      have hj1 := he j hj
      rw [mkK_getD q fs k j hj] at hj1
      have e2 : (if j < k + 1 then mkE q fs j else fs.getD j (0, [])) = (if j < k then mkE q fs j else fs.getD j (0, [])) := by
        by_cases h : j < k
        · rw [if_pos h, if_pos (by omega)]
        · rw [if_neg h, if_neg (by omega)]
      rw [e2]
      refine ⟨hj1.1, hj1.2.keep_len fun hp _ _ => ?_⟩
      have hp2 : 0 < (fs.getD j (0, [])).2.length := by
        have := lens j hj k
        rw [mkK_getD q fs k j hj] at this
        omega
      have hjg := hne j hj hp2
      have hs := Below.heap_setCell w ⟨g, k * 2, none⟩ (.int .i64 (offs q fs k)) (bs j) hjg
      rcases hw with ⟨hpk, hwi, _⟩ | ⟨_, rfl⟩
      · have hjk : bs j ≠ bs k := by
          rcases Nat.lt_or_gt_of_ne e with h | h
          · exact hd j k h hk (by rw [lens j hj]; exact hp2) (by rw [lens k hk]; exact hpk)
          · exact fun x => hd k j h hj (by rw [lens k hk]; exact hpk) (by rw [lens j hj]; exact hp2) x.symm
        exact (hwi.block (bs j) (by omega)).trans hs
      · exact hs
  · rw [lens i (by omega)] at hi0
    rw [lens j hj] at hj0
    exact hd i j hij hj (by rw [lens i (by omega)]; exact hi0) (by rw [lens j hj]; exact hj0)

set_option maxRecDepth 100000 in
set_option maxHeartbeats 1000000 in
theorem markAccessS_any (lo hi g m c : Nat) (q : Int) (fs : FL) (hz : szF fs ≤ 1048577) (h0 : 0 ≤ q) (h1 : q ≤ 16777216) (hm : fs.length * 2 ≤ m) (w : World) (h : OwnPa w lo hi g m fs.length fs) :
    Calls Tryd.prog 18 #[.slice (some ⟨g, 0, none⟩) fs.length c, .int .i64 q] w fun e w' => e = .returned (.int .i64 (q + szF fs)) ∧ OwnPa w' lo hi g m fs.length (mkK q fs fs.length) ∧ Within lo hi w w' := by
  have hl : fs.length ≤ 1048577 := by unfold szF at hz; omega
  have hl' : (fs.length : Int) ≤ 1048577 := by omega
  have HI := Lib.hid (h.congr fun j hj => (mkK_getD q fs 0 j hj).trans (if_neg (by omega)))
  clear h
  go_enter Tryd.func18, Tryd.ntmps18
  go_wp2
  go_loopw [1, 5] (fun z i wr => ∃ k : Nat, k ≤ fs.length ∧ i = .int .i64 k ∧ z = .int .i64 (offs q fs k) ∧ OwnPa wr lo hi g m fs.length (mkK q fs k) ∧ Within lo hi w wr) (fun _ i _ => fs.length - (intOf i).toNat)
  case atStart => exact ⟨0, by omega, rfl, by simp [offs, sumN], HI.out, Within.refl _ _ _⟩
  case round =>
    obtain ⟨k, hk, rfl, rfl, ho, hw⟩ := hrel
    have OR := offs_rng q fs k hk
    by_cases hlt : k < fs.length
    · obtain ⟨hlo, hhi, F, bs, hr, he, hd⟩ := ho
      have hk1 := he k hlt
      rw [mkK_getD q fs k k hlt, if_neg (by omega)] at hk1
      have OS := offs_succ q fs k hlt
      have OR2 := offs_rng q fs (k + 1) (by omega)
      obtain ⟨A, cc, hv, hxc, hxm, hx⟩ := hk1.2
      have MS := Lib.hid fun (w2 : World) => markA_step (w := wr) (w2 := w2) hlo hhi hr he hd hlt hm
      have q0 := hr.cell (show k * 2 < m by omega)
      have q1 := hr.cell (show k * 2 + 1 < m by omega)
      rw [hv] at q1
      have q2 := hr.frozen (k * 2)
      have HW := Lib.hid hw
      have NG := Lib.hid (fun hp => (hx hp).1)
      have NR := Lib.hid (fun hp => (hx hp).2.2.2)
      have NE := Lib.hid (show 0 < (fs.getD k (0, [])).2.length → bs k ≠ g from fun hp e => by
        obtain ⟨_, _, _, mm, FF, _, hrow, _⟩ := hx hp
        obtain ⟨c1, hc1, _⟩ := hrow
        obtain ⟨c2, hc2, _⟩ := hr
        rw [e] at hc1
        rw [hc1] at hc2
        injection hc2 with hc2
        injection hc2 with _ ht
        exact absurd ht (by decide))
      have hxl : (fs.getD k (0, [])).2.length ≤ 1048576 := by
        have h1 := sumN_take fs k hlt
        have h2 := sumN_le fs (k + 1)
        unfold szF at hz
        omega
      generalize hxs : (fs.getD k (0, [])).2 = xs at MS NG NR NE OS q1 hxl
      generalize ho : offs q fs k = o at OR OS MS ⊢
      have HS := Lib.hid OS
      have o1 := OR.1
      have o2 : o ≤ 33554432 := by omega
      have o3 : (xs.length : Int) ≤ 1048576 := by omega
      clear hv hx hr he hd hw hk1 hxs ho OS OR OR2
      by_cases hx0 : xs.length = 0
      · have hx1 : xs = [] := List.eq_nil_of_length_eq_zero hx0
        subst hx1
        go_wp2_with fail
        refine (markIntS_zero A cc (o + 1) _ (by omega) (by omega)).mono ?_
        rintro e u ⟨rfl, rfl⟩
        have M := MS.out (wr.setCell ⟨g, k * 2, none⟩ (.int .i64 o)) (.inr ⟨rfl, rfl⟩)
        have HM := Lib.hid M
        clear M
        go_wp2
        go_roundw
        case rel => exact ⟨k + 1, by omega, by go_num, by rw [HS.out]; simp, HM.out.1, HW.out.trans HM.out.2⟩
        case measure => simp [intOf]; omega
      · have hxp : 0 < xs.length := by omega
        obtain ⟨mk, Fk, hmk, hrow, _⟩ := NR.out hxp
        have nA := NG.out hxp
        subst nA
        have hne := NE.out hxp
        have HROW := Lib.hid hrow
        have HR1 := Lib.hid (World.rowIs.of_block hrow (Below.heap_setCell wr ⟨g, k * 2, none⟩ (.int .i64 o) (bs k) hne))
        clear hrow hx0
        go_wp2_with fail
        refine (markIntS_any (some ⟨bs k, 0, none⟩) (bs k) cc xs.length mk (o + 1) _ hxl (by omega) (by omega) Fk (fun _ => rfl) hmk (fun _ => HR1.out)).mono ?_
        rintro e u ⟨rfl, hwi, hru⟩
        have HM := Lib.hid (MS.out u (.inl ⟨hxp, hwi, mk, Fk, hmk, hru hxp⟩))
        clear hwi hru
        go_wp2
        go_roundw
        case rel => exact ⟨k + 1, by omega, by go_num, by rw [HS.out], HM.out.1, HW.out.trans HM.out.2⟩
        case measure => simp [intOf]; omega
    · obtain rfl : k = fs.length := by omega
      go_wp2
      go_ret
      exact ⟨ret_int (offs_end q fs), ho, hw⟩

set_option maxRecDepth 100000 in
set_option maxHeartbeats 1000000 in
theorem heldAccessS_any (A : Option Addr) (c : Nat) (q : Int) (fs : FL) (hz : szF fs ≤ 1048577) (h0 : 0 ≤ q) (h1 : q ≤ 1048577) (w : World) (h : RF w A (mkK q fs fs.length)) :
    Calls Tryd.prog 19 #[.slice A fs.length c, .int .i64 q] w fun e w' => e = .returned (.int .i64 (q + szF fs)) ∧ w = w' := by
  have hl : fs.length ≤ 1048577 := by unfold szF at hz; omega
  have hl' : (fs.length : Int) ≤ 1048577 := by omega
  have HI := Lib.hid h
  clear h
  go_enter Tryd.func19, Tryd.ntmps19
  go_wp2
  go_loop [1, 5] (fun z i => ∃ k : Nat, k ≤ fs.length ∧ i = .int .i64 k ∧ z = .int .i64 (offs q fs k)) (fun _ i => fs.length - (intOf i).toNat)
  case atStart => exact ⟨0, by omega, rfl, by simp [offs, sumN]⟩
  case round =>
    obtain ⟨k, hk, rfl, rfl⟩ := hrel
    have OR := offs_rng q fs k hk
    by_cases hlt : k < fs.length
    · have OS := offs_succ q fs k hlt
      have hxl : (fs.getD k (0, [])).2.length ≤ 1048576 := by
        have h1 := sumN_take fs k hlt
        have h2 := sumN_le fs (k + 1)
        unfold szF at hz
        omega
      have hf : (mkK q fs fs.length).getD k (0, []) = (offs q fs k, marks (offs q fs k + 1) (fs.getD k (0, [])).2.length) := (mkK_getD q fs fs.length k hlt).trans (if_pos hlt)
      obtain ⟨b, off, B, c2, rfl, n1, e0, e1, hxc, hcm, hI⟩ := HI.out.at_ (by rw [mkK_length]; exact hlt) hf
      rw [marks_length] at e1
      generalize (fs.getD k (0, [])).2.length = n at OS hxl e1 hI
      generalize ho : offs q fs k = o at OR OS e0 e1 hI ⊢
      have HS := Lib.hid OS
      have HH := Lib.hid hI
      have o1 := OR.1
      have o2 : o ≤ 4194304 := by omega
      have o3 : (n : Int) ≤ 1048576 := by omega
      clear hf ho OS OR hI
      go_wp2_with fail
      refine (heldIntS_any _ _ B c2 n (o + 1) _ hxl (by omega) (by omega) HH.out).mono ?_
      rintro e u ⟨rfl, rfl⟩
      have o4 : 0 ≤ o + 1 + (n : Int) := by omega
      go_wp2
      go_round
      case rel => exact ⟨k + 1, by omega, by go_num, by rw [HS.out]⟩
      case measure => simp [intOf]; omega
    · obtain rfl : k = fs.length := by omega
      go_wp2
      go_ret
      exact ⟨ret_int (offs_end q fs), rfl⟩

set_option maxRecDepth 100000 in
theorem markFactS_nil' (A : Option Addr) (c : Nat) (q : Int) (w : World) (h0 : 0 ≤ q) (h1 : q ≤ 1099511627776) :
    Calls Tryd.prog 38 #[.slice A 0 c, .int .i64 q] w fun e w' => e = .returned (.int .i64 q) ∧ w = w' := by
  go_enter Tryd.func38, Tryd.ntmps38
  go_wp2
  refine wp_loop_rounds 1 ?_
  rw [rounds_succ]
  go_wp2
  go_ret
  exact ⟨rfl, rfl⟩

set_option maxRecDepth 100000 in
theorem markAccessS_nil' (A : Option Addr) (c : Nat) (q : Int) (w : World) (h0 : 0 ≤ q) (h1 : q ≤ 1099511627776) :
    Calls Tryd.prog 18 #[.slice A 0 c, .int .i64 q] w fun e w' => e = .returned (.int .i64 q) ∧ w = w' := by
  go_enter Tryd.func18, Tryd.ntmps18
  go_wp2
  refine wp_loop_rounds 1 ?_
  rw [rounds_succ]
  go_wp2
  go_ret
  exact ⟨rfl, rfl⟩

/-- Facts of the call's own, nil or not. -/
def OF (w : World) (lo hi : Nat) (A : Option Addr) (fs : FL) : Prop := fs = [] ∨ ∃ g m, A = some ⟨g, 0, none⟩ ∧ OwnP w lo hi g m fs.length fs ∧ fs.length * 2 ≤ m
theorem OF.keep {w w' : World} {lo hi : Nat} {A : Option Addr} {fs : FL} (h : OF w lo hi A fs) (hk : ∀ b, lo ≤ b → b < hi → w'.heap[b]? = w.heap[b]?) : OF w' lo hi A fs := by
  rcases h with h | ⟨g, m, e, h, h6⟩
  · exact .inl h
  · exact .inr ⟨g, m, e, h.keep hk, h6⟩
theorem OF.facts {w : World} {lo hi : Nat} {A : Option Addr} {fs : FL} (h : OF w lo hi A fs) : Facts w lo hi A fs := by
  rcases h with rfl | ⟨g, m, rfl, h, h6⟩
  · exact fun hne => absurd rfl hne
  · exact h.facts h6
/-- Accesses of the call's own, nil or not. -/
def OL (w : World) (lo hi : Nat) (A : Option Addr) (fs : FL) : Prop := fs = [] ∨ ∃ g m, A = some ⟨g, 0, none⟩ ∧ OwnPa w lo hi g m fs.length fs ∧ fs.length * 2 ≤ m
theorem OL.keep {w w' : World} {lo hi : Nat} {A : Option Addr} {fs : FL} (h : OL w lo hi A fs) (hk : ∀ b, lo ≤ b → b < hi → w'.heap[b]? = w.heap[b]?) : OL w' lo hi A fs := by
  rcases h with h | ⟨g, m, e, h, h6⟩
  · exact .inl h
  · exact .inr ⟨g, m, e, h.keep hk, h6⟩
theorem OL.facts {w : World} {lo hi : Nat} {A : Option Addr} {fs : FL} (h : OL w lo hi A fs) : Facts w lo hi A fs := by
  rcases h with rfl | ⟨g, m, rfl, h, h6⟩
  · exact fun hne => absurd rfl hne
  · exact h.facts h6
/-- The marks of facts of the call's own. -/
theorem markFactS_own (lo hi : Nat) (A : Option Addr) (c : Nat) (q : Int) (fs : FL) (hz : szF fs ≤ 1048577) (h0 : 0 ≤ q) (h1 : q ≤ 16777216) (w : World) (h : OF w lo hi A fs) :
    Calls Tryd.prog 38 #[.slice A fs.length c, .int .i64 q] w fun e w' => e = .returned (.int .i64 (q + szF fs)) ∧ Within lo hi w w' ∧ Facts w' lo hi A (mkK q fs fs.length) := by
  rcases h with rfl | ⟨g, m, rfl, hO, hm⟩
  · refine (markFactS_nil' A c q w h0 (by omega)).mono ?_
    rintro e w' ⟨rfl, rfl⟩
    exact ⟨by simp [szF, sumN], Within.refl _ _ _, fun h => absurd (by simp [mkK]) h⟩
  · refine (markFactS_any lo hi g m c q fs hz h0 h1 hm w hO).mono ?_
    rintro e w' ⟨rfl, hO', hw⟩
    exact ⟨rfl, hw, OwnP.facts (by rw [mkK_length]; exact hO') (by rw [mkK_length]; exact hm)⟩
theorem markAccessS_own (lo hi : Nat) (A : Option Addr) (c : Nat) (q : Int) (fs : FL) (hz : szF fs ≤ 1048577) (h0 : 0 ≤ q) (h1 : q ≤ 16777216) (w : World) (h : OL w lo hi A fs) :
    Calls Tryd.prog 18 #[.slice A fs.length c, .int .i64 q] w fun e w' => e = .returned (.int .i64 (q + szF fs)) ∧ Within lo hi w w' ∧ Facts w' lo hi A (mkK q fs fs.length) := by
  rcases h with rfl | ⟨g, m, rfl, hO, hm⟩
  · refine (markAccessS_nil' A c q w h0 (by omega)).mono ?_
    rintro e w' ⟨rfl, rfl⟩
    exact ⟨by simp [szF, sumN], Within.refl _ _ _, fun h => absurd (by simp [mkK]) h⟩
  · refine (markAccessS_any lo hi g m c q fs hz h0 h1 hm w hO).mono ?_
    rintro e w' ⟨rfl, hO', hw⟩
    exact ⟨rfl, hw, OwnPa.facts (by rw [mkK_length]; exact hO') (by rw [mkK_length]; exact hm)⟩

/-- A state of the call's own: its facts from block lo to below x, its values from x to below y, its accesses from y to below hi. -/
def RO (w : World) (lo x y hi : Nat) (A V L : Option Addr) (d : Nat) (fs : FL) (vs : List Int) (ls : FL) : Prop :=
  OF w lo x A fs ∧ (∃ q, OwnV w x y (.slice V vs.length d) q vs) ∧ OL w y hi L ls ∧ lo ≤ x ∧ x ≤ y ∧ y ≤ hi ∧ hi ≤ w.heap.size
theorem RO.keep {w w' : World} {lo x y hi : Nat} {A V L : Option Addr} {d : Nat} {fs : FL} {vs : List Int} {ls : FL} (h : RO w lo x y hi A V L d fs vs ls) (hk : ∀ b, lo ≤ b → b < hi → w'.heap[b]? = w.heap[b]?) (hz : w.heap.size ≤ w'.heap.size) : RO w' lo x y hi A V L d fs vs ls := by
  obtain ⟨h1, ⟨q, h2⟩, h3, e1, e2, e3, e4⟩ := h
  exact ⟨h1.keep fun b a c => hk b a (by omega), ⟨q, h2.keep fun a b _ => hk _ (by omega) (by omega)⟩, h3.keep fun b a c => hk b (by omega) c, e1, e2, e3, by omega⟩
theorem RO.step {w w' : World} {lo x y hi : Nat} {A V L : Option Addr} {d : Nat} {fs : FL} {vs : List Int} {ls : FL} (h : RO w lo x y hi A V L d fs vs ls) (b : Below w.heap.size w w') : RO w' lo x y hi A V L d fs vs ls :=
  h.keep (fun q _ hq => b.block q (by have := h.2.2.2.2.2.2; omega)) b.size
theorem RO.rf {w : World} {lo x y hi : Nat} {A V L : Option Addr} {d : Nat} {fs : FL} {vs : List Int} {ls : FL} (h : RO w lo x y hi A V L d fs vs ls) : RF w A fs := by
  obtain ⟨h1, _, _, e1, e2, e3, e4⟩ := h
  exact h1.facts.mono (Nat.zero_le _) (by omega)
theorem RO.ri {w : World} {lo x y hi : Nat} {A V L : Option Addr} {d : Nat} {fs : FL} {vs : List Int} {ls : FL} (h : RO w lo x y hi A V L d fs vs ls) : RI w V vs := by
  obtain ⟨_, ⟨q, h2⟩, _, e1, e2, e3, e4⟩ := h
  exact (h2.ints).2.2.2.mono (Nat.zero_le _) (by omega)
theorem RO.rl {w : World} {lo x y hi : Nat} {A V L : Option Addr} {d : Nat} {fs : FL} {vs : List Int} {ls : FL} (h : RO w lo x y hi A V L d fs vs ls) : RF w L ls := by
  obtain ⟨_, _, h3, e1, e2, e3, e4⟩ := h
  exact h3.facts.mono (Nat.zero_le _) (by omega)
theorem RX.ro {w : World} {g v hi : Nat} {fs : FL} {vs : List Int} {ls : FL} (h : RX w g v hi fs vs ls) (hv : vs.length ≤ 1048576) : RO w g v (v + 1) hi (some ⟨g, 0, none⟩) (some ⟨v, 0, none⟩) (some ⟨v + 1, 0, none⟩) vs.length fs vs ls := by
  have hlt := h.lt
  exact ⟨.inr ⟨g, _, rfl, h.1.1, h.1.2.2⟩, ⟨v, OwnV.of_row h.2.1 (Nat.le_refl _) (Nat.lt_succ_self _) (Nat.le_refl _) (by unfold maxLen; omega)⟩, .inr ⟨v + 1, _, rfl, h.2.2.1, h.2.2.2.2⟩, by omega, by omega, by omega, by omega⟩
/-- Marks on a state. -/
def CM (w : World) (lo x y hi : Nat) (A V L : Option Addr) (k : Int) (fs : FL) (vs : List Int) (ls : FL) : Prop :=
  (Facts w lo x A (mkK k fs fs.length) ∧ Ints w x y V (marks (k + szF fs) vs.length) ∧ Facts w y hi L (mkK (k + szF fs + vs.length) ls ls.length)) ∧ lo ≤ x ∧ x ≤ y ∧ y ≤ hi ∧ hi ≤ w.heap.size
theorem CM.keep {w w' : World} {lo x y hi : Nat} {A V L : Option Addr} {k : Int} {fs : FL} {vs : List Int} {ls : FL} (h : CM w lo x y hi A V L k fs vs ls) (hk : ∀ b, lo ≤ b → b < hi → w'.heap[b]? = w.heap[b]?) (hz : w.heap.size ≤ w'.heap.size) : CM w' lo x y hi A V L k fs vs ls := by
  obtain ⟨⟨h1, h2, h3⟩, e1, e2, e3, e4⟩ := h
  exact ⟨⟨h1.keep fun b a c => hk b a (by omega), h2.keep fun b a c => hk b (by omega) (by omega), h3.keep fun b a c => hk b (by omega) c⟩, e1, e2, e3, by omega⟩
theorem CM.step {w w' : World} {lo x y hi : Nat} {A V L : Option Addr} {k : Int} {fs : FL} {vs : List Int} {ls : FL} (h : CM w lo x y hi A V L k fs vs ls) (b : Below w.heap.size w w') : CM w' lo x y hi A V L k fs vs ls :=
  h.keep (fun q _ hq => b.block q (by have := h.2.2.2.2; omega)) b.size

set_option maxHeartbeats 1000000 in
set_option maxRecDepth 100000 in
theorem markReached_o (lo x y hi : Nat) (A V L : Option Addr) (c d k : Nat) (fs : FL) (vs : List Int) (ls : FL) (n q : Int) (h0 : 0 ≤ q) (h1 : q ≤ 8388608) (hz : szF fs ≤ 1048577) (hv : vs.length ≤ 1048576) (hz' : szF ls ≤ 1048577) (w : World) (h : RO w lo x y hi A V L d fs vs ls) :
    Calls Tryd.prog 17 #[.agg #[.slice A fs.length c, .slice V vs.length d, .slice L ls.length k, .int .i64 n], .int .i64 q] w fun e w' =>
      e = .returned (.int .i64 (q + szC fs vs ls)) ∧ Mk lo hi w w' ∧ CM w' lo x y hi A V L q fs vs ls := by
  have hn := szF_nonneg fs
  have hn' := szF_nonneg ls
  have e4 := h.2.2.2.2.2.2
  have hs := h.step (below_alloc w (.cells #[.slice A fs.length c, .slice V vs.length d, .slice L ls.length k, .int .i64 n] 37))
  obtain ⟨hF, ⟨p, hO⟩, hL, e1, e2, e3, e5⟩ := hs
  have XM := Lib.hid (markFactS_own lo x A c q fs hz h0 (by omega) _ hF)
  have XB := Lib.hid (Box.new w #[.slice A fs.length c, .slice V vs.length d, .slice L ls.length k, .int .i64 n] 37)
  have HO := Lib.hid hO
  have HL := Lib.hid hL
  clear h hF hO hL
  go_enter Tryd.func17, Tryd.ntmps17
  go_wp2_with fail
  refine XM.out.mono ?_
  rintro e w1 ⟨rfl, hw, hf1⟩
  have X1 := Lib.hid (show Box w1 w.heap.size #[.slice A fs.length c, .slice V vs.length d, .slice L ls.length k, .int .i64 n] 37 from (hw.block _ (.inr (by omega))).trans XB.out)
  have x1 := X1.out.cell 1
  simp only [List.getElem?_toArray, List.getElem?_cons_zero, List.getElem?_cons_succ] at x1
  have HW := Lib.hid hw
  have HF := Lib.hid hf1
  have hsz1 := hw.size
  have XV := Lib.hid (markIntS_own x y p V d (q + szF fs) vs hv (by omega) (by omega) w1 (by rw [hw.size]; omega) e2 (HO.out.keep fun a b _ => hw.block _ (.inr (by omega))))
  have hk2 : 0 ≤ q + szF fs := by omega
  clear hw hf1
  go_wp2_with fail
  refine XV.out.mono ?_
  rintro e w2 ⟨rfl, hw, hi2⟩
  have x2 := (show Box w2 w.heap.size #[.slice A fs.length c, .slice V vs.length d, .slice L ls.length k, .int .i64 n] 37 from (hw.block _ (.inr (by omega))).trans X1.out).cell 2
  simp only [List.getElem?_toArray, List.getElem?_cons_zero, List.getElem?_cons_succ] at x2
  have HW2 := Lib.hid hw
  have HI := Lib.hid hi2
  have hsz2 := hw.size
  have XL := Lib.hid (markAccessS_own y hi L k (q + szF fs + vs.length) ls hz' (by omega) (by omega) w2 (HL.out.keep fun b a _ => (hw.block _ (.inr (by omega))).trans (HW.out.block _ (.inr (by omega)))))
  have hk3 : 0 ≤ q + szF fs + (vs.length : Int) := by omega
  clear hw hi2 x1
  go_wp2_with fail
  refine XL.out.mono ?_
  rintro e w3 ⟨rfl, hw, hf3⟩
  have HW3 := Lib.hid hw
  have HF3 := Lib.hid hf3
  have hsz3 := hw.size
  clear hw hf3 x2
  rw [al_size] at hsz1 e5
  go_wp2
  go_ret
  refine ⟨ret_int (by unfold szC; omega), ⟨?_, fun b hb hlt => ?_⟩, ⟨HF.out.keep fun b _ hb => (HW3.out.block b (.inl (by omega))).trans (HW2.out.block b (.inl hb)), HI.out.keep fun b _ hb => HW3.out.block b (.inl hb), HF3.out⟩, e1, e2, e3, by omega⟩
  · exact ((below_alloc w _).mono (by omega)).trans (HW.out.below.trans ((HW2.out.below.mono e1).trans (HW3.out.below.mono (by omega))))
  · exact (HW3.out.block b (.inr hb)).trans ((HW2.out.block b (.inr (by omega))).trans ((HW.out.block b (.inr (by omega))).trans (Below.heap_alloc _ _ _ hlt)))

end Go.Proofs.YtnmhppiccganoaaDoor
