/- Answers, purely: all bindings by matching atom after atom, their heads in order. Conditions: none beyond each theorem's own. Rows that grow by append, one element or a list of numbers; boxes that are written. Conditions: none beyond each theorem's own. What the two functions ValueOf answer. Conditions: none beyond each theorem's own. What the law of AddFact carries from call to call. Conditions: none beyond each theorem's own. Trees of numbers in memory: what adding a number does. Conditions: none beyond each theorem's own. -/
import Derived.Test.YtimlpdcambmcjaaM2
import Derived.Test.YtimlpdcambmcjaaM5
import Derived.Test.YtimlpdcambmcjaaM3
import Derived.Deep.RegionLaw
import Derived.Deep.Trees
import Derived.Deep.RegionHeld3

namespace Go.Proofs.Ytimlpdcambmcjaa
open Go.ChangeShapes Go.WideShapes Go.ChangeAt Go.RowKit Go.Sort
set_option linter.unusedVariables false
set_option linter.unusedSimpArgs false

/-- One atom against one fact. -/
def mtF (p : PL) (a f : Int × List Int) : Option PL := matB p a.1 a.2 f.1 f.2
/-- All that one atom makes of a binding, in the order of the facts. -/
def extA (fs : FL) (a : Int × List Int) (p : PL) : List PL := fs.filterMap (mtF p a)
def extB (fs : FL) (a : Int × List Int) (ps : List PL) : List PL := ps.flatMap (extA fs a)
def bndsF (fs : FL) (ats : FL) (ps : List PL) : List PL := ats.foldl (fun ps a => extB fs a ps) ps
def bnds (fs ats : FL) : List PL := bndsF fs ats [([], [])]
/-- The same, depth first. -/
def enum (fs : FL) : FL → PL → List PL
  | [], p => [p]
  | a :: ats, p => (extA fs a p).flatMap (enum fs ats)
theorem bndsF_enum (fs : FL) : ∀ (ats : FL) (ps : List PL), bndsF fs ats ps = ps.flatMap (enum fs ats)
  | [], ps => by
    show ps = ps.flatMap fun p => [p]
    induction ps with
    | nil => rfl
    | cons p ps ih => rw [List.flatMap_cons, ← ih]; rfl
  | a :: ats, ps => by
    show bndsF fs ats (extB fs a ps) = _
    rw [bndsF_enum fs ats]
    unfold extB
    rw [List.flatMap_assoc]
    rfl
theorem bnds_enum (fs ats : FL) : bnds fs ats = enum fs ats ([], []) := by
  unfold bnds
  rw [bndsF_enum]
  simp
theorem bndsF_take (fs ats : FL) (ps : List PL) {k : Nat} (hk : k < ats.length) {a : Int × List Int} (hf : ats.getD k (0, []) = a) : bndsF fs (ats.take (k + 1)) ps = extB fs a (bndsF fs (ats.take k) ps) := by
  have e : ats[k] = a := by rw [← hf]; simp [List.getD_eq_getElem?_getD, hk]
  unfold bndsF
  rw [List.take_succ_eq_append_getElem hk, e, List.foldl_append]
  rfl
theorem extA_len (fs : FL) (a : Int × List Int) (p : PL) : (extA fs a p).length ≤ fs.length := List.length_filterMap_le _ _
theorem extB_len (fs : FL) (a : Int × List Int) : ∀ ps : List PL, (extB fs a ps).length ≤ ps.length * fs.length
  | [] => by simp [extB]
  | p :: ps => by
    have h1 := extB_len fs a ps
    have h2 := extA_len fs a p
    have e : extB fs a (p :: ps) = extA fs a p ++ extB fs a ps := rfl
    rw [e, List.length_append, List.length_cons, Nat.add_mul, Nat.one_mul]
    omega
theorem bndsF_len (fs : FL) (m : Nat) (hm : fs.length ≤ m) : ∀ (ats : FL) (ps : List PL), (bndsF fs ats ps).length ≤ ps.length * m ^ ats.length
  | [], ps => by simp [bndsF]
  | a :: ats, ps => by
    have h1 := bndsF_len fs m hm ats (extB fs a ps)
    have h2 := extB_len fs a ps
    have h3 : ps.length * fs.length ≤ ps.length * m := Nat.mul_le_mul_left _ hm
    show (bndsF fs ats (extB fs a ps)).length ≤ _
    rw [List.length_cons, Nat.pow_succ, Nat.mul_comm (m ^ ats.length) m, ← Nat.mul_assoc]
    exact Nat.le_trans h1 (Nat.mul_le_mul_right _ (Nat.le_trans h2 h3))

/-- What holds of every binding that is found. -/
theorem mst_good {p q : PL} {t v : Int} (h : mst p t v = some q) : q = p ∨ (q = (p.1 ++ [t], p.2 ++ [v]) ∧ inB t 10 17 = true ∧ t ∉ p.1) := by
  unfold mst at h
  split at h
  · split at h
    · split at h
      · injection h with h; exact .inl h.symm
      · cases h
    · rename_i h1 h2
      injection h with h; exact .inr ⟨h.symm, h1, h2⟩
  · split at h
    · injection h with h; exact .inl h.symm
    · cases h
/-- A binding of variables, each once, to values. -/
def Gd (p : PL) : Prop := p.1.length = p.2.length ∧ p.1.Nodup ∧ allB 10 17 p.1 = true ∧ allB 0 9 p.2 = true
theorem gd_nil : Gd ([], []) := ⟨rfl, List.nodup_nil, rfl, rfl⟩
theorem allB_snoc (a b : Int) (xs : List Int) (x : Int) : allB a b (xs ++ [x]) = (allB a b xs && inB x a b) := by
  unfold allB
  rw [List.all_append]
  simp
theorem mst_gd {p q : PL} {t v : Int} (h : mst p t v = some q) (hp : Gd p) (hv : inB v 0 9 = true) : Gd q := by
  rcases mst_good h with e | ⟨e, h1, h2⟩
  · rw [e]; exact hp
  · subst e
    refine ⟨by simp [hp.1], ?_, by rw [allB_snoc, hp.2.2.1, h1]; rfl, by rw [allB_snoc, hp.2.2.2, hv]; rfl⟩
    exact List.nodup_append.2 ⟨hp.2.1, by simp, fun a ha b hb e => by
      have : b = t := by simpa using hb
      subst this; subst e; exact h2 ha⟩
theorem mgo_gd : ∀ (ts vs : List Int) (p q : PL), mgo p ts vs = some q → Gd p → allB 0 9 vs = true → Gd q
  | [], vs, p, q, h, hp, _ => by rw [mgo_nil] at h; injection h with h; rw [← h]; exact hp
  | _ :: _, [], p, q, h, hp, _ => by injection h with h; rw [← h]; exact hp
  | t :: ts, v :: vs, p, q, h, hp, hv => by
    have hv' : inB v 0 9 = true ∧ allB 0 9 vs = true := by simpa [allB] using hv
    change (mst p t v).bind _ = _ at h
    cases hm : mst p t v with
    | none => rw [hm] at h; cases h
    | some r =>
      rw [hm] at h
      exact mgo_gd ts vs r q h (mst_gd hm hp hv'.1) hv'.2
theorem mtF_gd {p q : PL} {a f : Int × List Int} (h : mtF p a f = some q) (hp : Gd p) (hv : allB 0 9 f.2 = true) : Gd q := by
  unfold mtF matB at h
  split at h
  · exact mgo_gd _ _ _ _ h hp hv
  · cases h
/-- The binding grows at its end alone. -/
def Pre (p q : PL) : Prop := ∃ u v : List Int, q = (p.1 ++ u, p.2 ++ v) ∧ u.length = v.length
theorem Pre.refl (p : PL) : Pre p p := ⟨[], [], by simp, rfl⟩
theorem Pre.trans {p q r : PL} (h : Pre p q) (k : Pre q r) : Pre p r := by
  obtain ⟨u, v, rfl, e⟩ := h
  obtain ⟨u', v', rfl, e'⟩ := k
  exact ⟨u ++ u', v ++ v', by simp, by simp [e, e']⟩
theorem mst_pre {p q : PL} {t v : Int} (h : mst p t v = some q) : Pre p q := by
  rcases mst_good h with e | ⟨e, _, _⟩
  · rw [e]; exact Pre.refl _
  · rw [e]; exact ⟨[t], [v], rfl, rfl⟩
theorem mst_has {p q : PL} {t v : Int} (h : mst p t v = some q) (ht : inB t 10 17 = true) : t ∈ q.1 := by
  unfold mst at h
  rw [if_pos ht] at h
  split at h
  · split at h
    · injection h with h; rw [← h]; assumption
    · cases h
  · injection h with h; rw [← h]; simp
theorem Pre.mem {p q : PL} (h : Pre p q) {t : Int} (ht : t ∈ p.1) : t ∈ q.1 := by
  obtain ⟨u, v, rfl, _⟩ := h
  exact List.mem_append_left _ ht
theorem mgo_pre : ∀ (ts vs : List Int) (p q : PL), mgo p ts vs = some q → Pre p q ∧ (ts.length ≤ vs.length → ∀ t ∈ ts, inB t 10 17 = true → t ∈ q.1)
  | [], vs, p, q, h => by rw [mgo_nil] at h; injection h with h; rw [← h]; exact ⟨Pre.refl _, fun _ t ht => by simp at ht⟩
  | _ :: _, [], p, q, h => by injection h with h; rw [← h]; exact ⟨Pre.refl _, fun hl => by simp at hl⟩
  | t :: ts, v :: vs, p, q, h => by
    change (mst p t v).bind _ = _ at h
    cases hm : mst p t v with
    | none => rw [hm] at h; cases h
    | some r =>
      rw [hm] at h
      have ih := mgo_pre ts vs r q h
      refine ⟨(mst_pre hm).trans ih.1, fun hl x hx hv => ?_⟩
      rcases List.mem_cons.1 hx with e | e
      · subst e; exact ih.1.mem (mst_has hm hv)
      · exact ih.2 (by simpa using hl) x e hv
theorem mtF_pre {p q : PL} {a f : Int × List Int} (h : mtF p a f = some q) : Pre p q ∧ ∀ t ∈ a.2, inB t 10 17 = true → t ∈ q.1 := by
  unfold mtF matB at h
  split at h
  · rename_i hc
    have := mgo_pre _ _ _ _ h
    exact ⟨this.1, this.2 (by omega)⟩
  · cases h
theorem enum_pre (fs : FL) : ∀ (ats : FL) (p q : PL), q ∈ enum fs ats p → Pre p q ∧ ∀ a ∈ ats, ∀ t ∈ a.2, inB t 10 17 = true → t ∈ q.1
  | [], p, q, h => by
    have : q = p := by simpa [enum] using h
    subst this
    exact ⟨Pre.refl _, fun a ha => by simp at ha⟩
  | a :: ats, p, q, h => by
    unfold enum at h
    rw [List.mem_flatMap] at h
    obtain ⟨r, hr, hq⟩ := h
    unfold extA at hr
    rw [List.mem_filterMap] at hr
    obtain ⟨f, _, hf⟩ := hr
    have h1 := mtF_pre hf
    have h2 := enum_pre fs ats r q hq
    refine ⟨h1.1.trans h2.1, fun b hb t ht hv => ?_⟩
    rcases List.mem_cons.1 hb with e | e
    · subst e; exact h2.1.mem (h1.2 t ht hv)
    · exact h2.2 b e t ht hv

/-- The heads of the bindings, in order and once each. -/
def headT (hs : List Int) (p : PL) : List Int := hs.map (bval p.1 p.2)
def tupAll (l : TL) (ts : TL) : TL := ts.foldl addT l
def tupA (hs : List Int) (ps : List PL) : TL := tupAll [] (ps.map (headT hs))
theorem tupA_snoc (hs : List Int) (ps : List PL) (p : PL) : tupA hs (ps ++ [p]) = addT (tupA hs ps) (headT hs p) := by
  unfold tupA tupAll
  rw [List.map_append, List.foldl_append]
  rfl
theorem tupA_take (hs : List Int) (ps : List PL) {k : Nat} (hk : k < ps.length) {p : PL} (hf : ps.getD k ([], []) = p) : tupA hs (ps.take (k + 1)) = addT (tupA hs (ps.take k)) (headT hs p) := by
  have e : ps[k] = p := by rw [← hf]; simp [List.getD_eq_getElem?_getD, hk]
  rw [List.take_succ_eq_append_getElem hk, e, tupA_snoc]
theorem addTI_mem : ∀ (l : TL) (t x : List Int), x ∈ addTI l t ↔ x = t ∨ x ∈ l
  | [], t, x => by simp [addTI]
  | g :: r, t, x => by
    unfold addTI
    split
    · simp
    · rw [List.mem_cons, addTI_mem r t x, List.mem_cons]
      constructor
      · rintro (h | h | h)
        · exact .inr (.inl h)
        · exact .inl h
        · exact .inr (.inr h)
      · rintro (h | h | h)
        · exact .inr (.inl h)
        · exact .inl h
        · exact .inr (.inr h)
theorem addTI_asc : ∀ (l : TL) (t : List Int), AscT l → t ∉ l → AscT (addTI l t)
  | [], t, _, _ => by simp [addTI]
  | g :: r, t, h, hn => by
    have h' := List.pairwise_cons.1 h
    unfold addTI
    split
    · rename_i hlt
      exact List.pairwise_cons.2 ⟨fun b hb => by
        rcases List.mem_cons.1 hb with e | e
        · rw [e]; exact hlt
        · exact ltL_trans hlt (h'.1 b e), h⟩
    · rename_i hge
      have hl : ltL g t := ltL_total (xs := t) (ys := g) hge fun e => hn (by rw [e]; simp)
      refine List.pairwise_cons.2 ⟨fun b hb => ?_, addTI_asc r t h'.2 fun hm => hn (List.mem_cons_of_mem _ hm)⟩
      rcases (addTI_mem r t b).1 hb with e | e
      · rw [e]; exact hl
      · exact h'.1 b e
theorem addT_asc {l : TL} {t : List Int} (h : AscT l) : AscT (addT l t) := by
  unfold addT
  split
  · exact h
  · exact addTI_asc l t h (by assumption)
theorem addT_iff (l : TL) (t x : List Int) : x ∈ addT l t ↔ x = t ∨ x ∈ l := by
  unfold addT
  split
  · rename_i hm
    exact ⟨.inr, fun h => by
      rcases h with h | h
      · rw [h]; exact hm
      · exact h⟩
  · exact addTI_mem l t x
theorem tupAll_ok : ∀ (ts l : TL), AscT l → AscT (tupAll l ts) ∧ ∀ x, x ∈ tupAll l ts ↔ x ∈ ts ∨ x ∈ l
  | [], l, h => ⟨h, fun x => by simp [tupAll]⟩
  | t :: ts, l, h => by
    have ih := tupAll_ok ts (addT l t) (addT_asc h)
    show AscT (tupAll (addT l t) ts) ∧ ∀ x, x ∈ tupAll (addT l t) ts ↔ _
    refine ⟨ih.1, fun x => ?_⟩
    rw [ih.2, addT_iff, List.mem_cons]
    constructor
    · rintro (h | h | h)
      · exact .inl (.inr h)
      · exact .inl (.inl h)
      · exact .inr h
    · rintro ((h | h) | h)
      · exact .inr (.inl h)
      · exact .inl h
      · exact .inr (.inr h)
theorem tupA_ok (hs : List Int) (ps : List PL) : AscT (tupA hs ps) ∧ ∀ x, x ∈ tupA hs ps ↔ ∃ p ∈ ps, headT hs p = x := by
  have := tupAll_ok (ps.map (headT hs)) [] List.Pairwise.nil
  refine ⟨this.1, fun x => ?_⟩
  unfold tupA
  rw [this.2, List.mem_map]
  simp
/-- An ascending list of the heads is THE list. -/
theorem tupA_is {hs : List Int} {ps : List PL} {r : TL} (h : AscT r) (hm : ∀ x, x ∈ r ↔ ∃ p ∈ ps, headT hs p = x) : tupA hs ps = r :=
  ascT_unique _ _ (tupA_ok hs ps).1 h fun x => by rw [(tupA_ok hs ps).2, hm]
end Go.Proofs.Ytimlpdcambmcjaa

namespace Go.Proofs.Ytimlpdcambmcjaa
open Go.ChangeShapes Go.WideShapes Go.ChangeAt Go.RowKit Go.Sort
set_option linter.unusedVariables false
set_option linter.unusedSimpArgs false

/-- append(v, y) of one element, in a new block. -/
theorem wpList_push {P : Program} {W w0 : World} {ops : Array Oper} {rest : List Oper} {o : Oper} {a : Act} {Q : Exit → Act → World → Prop} (hgd : o.guard = none) (s x : Operand) (t e : TypeId)
    (ho : o.op = .call { callee := .builtin .append, args := #[s, x], argTypes := #[t, t] })
    (i : TypeInfo) (ht : P.underlying t = some (.slice e)) (hi : P.info? e = some i) (z : Value) (bytes : Nat) (hz : i.zero = some z) (hz1 : i.size = 1) (hz2 : i.bytes = bytes) (hzs : z.cells.size = 1) (hby : bytes ≤ 32)
    {base n : Nat} {v : Value} {cs : List Value} {y : Value} (hs : a.eval s = v) (hx : a.eval x = .slice (some ⟨W.heap.size, 0, none⟩) 1 1) (hy : y.oneCell' = true)
    (hown : W.ownsRow base e 1 v n cs) (hb : Below base w0 W) (hbase : base ≤ W.heap.size) (hn : n + 1 ≤ 1048580)
    (h : ∀ v' w', w'.ownsRow base e 1 v' (n + 1) (cs ++ [y]) → Below base w0 w' → w'.heap.size > base → wpList P ops Q rest (a.put o.dst v') w') :
    wpList P ops Q (o :: rest) a (W.alloc (.cells #[y] e)) := by
  refine wpList_append_own (P := P) _ hgd s x t ho base e i z 1 bytes ht hi hz hz1 hz2 hzs (by omega) v n _ hs (hown.alloc _) ⟨W.heap.size, 0, none⟩ 1 1 [y] hx rfl (cell_one_new _ _ _) (by intro u hu; simp at hu; subst hu; exact hy)
    (by unfold maxLen; omega) (by have : (n + 1) * bytes ≤ 1048580 * 32 := Nat.mul_le_mul hn hby; omega) (by simp; omega) ?_
  intro v' w' hown' hg _
  refine h v' w' hown' ((hb.alloc hbase _).grown hg (by simp; omega) fun k hk => ?_) (by have := hg.size; simp at this; omega)
  exact (hown.lt k hk).1

theorem ownsRow_form {w : World} {base : Nat} {e : TypeId} {size : Nat} {v : Value} {n : Nat} {cs : List Value} (h : w.ownsRow base e size v n cs) : ∃ A c, v = .slice A n c := by
  rcases h.2 with ⟨rfl, h0⟩ | ⟨g, cap, _, rfl, _⟩
  · exact ⟨none, 0, by rw [h0]⟩
  · exact ⟨_, _, rfl⟩
theorem ownsRow_step {w w' : World} {base : Nat} {e : TypeId} {size : Nat} {v : Value} {n : Nat} {cs : List Value} (h : w.ownsRow base e size v n cs) (d : Below w.heap.size w w') : w'.ownsRow base e size v n cs :=
  h.kept (own_none d) (by rcases hv : v.ownBlock with _ | g <;> simp)

theorem box_set1 {w : World} {g : Nat} {t : TypeId} {a b v : Value} (h : Box w g #[a, b] t) : Box (w.setCell ⟨g, 1, none⟩ v) g #[a, v] t := by
  have hlt := h.lt
  unfold Box at h ⊢
  have h' : w.heap[g] = .cells #[a, b] t (0, 0) := by simpa [Array.getElem?_eq_getElem hlt] using h
  show (w.heap.modify g _)[g]? = _
  rw [Array.getElem?_eq_getElem (by simpa using hlt), Array.getElem_modify_self, h']
  rfl
theorem ownsRow_set {w : World} {base : Nat} {e : TypeId} {size : Nat} {v u : Value} {n : Nat} {cs : List Value} (h : w.ownsRow base e size v n cs) {p : Addr} (hp : p.block < base) : (w.setCell p u).ownsRow base e size v n cs := by
  refine ⟨h.1, ?_⟩
  rcases h.2 with h0 | ⟨g, cap, cur, hv, hb, hg, r⟩
  · exact .inl h0
  · exact .inr ⟨g, cap, cur, hv, hb, by rw [Below.heap_setCell _ _ _ _ (by omega)]; exact hg, r⟩

theorem step_callB {P : Program} {ops : Array Oper} {o : Oper} {a : Act} {w : World} {K : Act → World → Prop} {Q : Exit → Act → World → Prop} {E : Prop}
    (hgd : o.guard = none) (g : FuncId) (x : Operand) (t : TypeId) (ho : o.op = .call { callee := .value (.func g), args := #[x], argTypes := #[t] })
    (vx v : Value) (hx : a.eval x = vx) (hcf : (callFunc g #[vx]).run P w = .ok (.enter g #[vx]) w) (hc : Calls P g #[vx] w fun e w' => e = .returned v ∧ Below w.heap.size w w') (hK : ∀ w', Below w.heap.size w w' → K (a.put o.dst v) w') :
    if Region.wanted o (yielded ops a.tmps) = true then Oper.wp P o a w K Q else E := by
  have hw : Region.wanted o (yielded ops a.tmps) = true := by simp [Region.wanted, hgd]
  rw [if_pos hw]
  unfold Oper.wp
  have hf : a.eval (.func g) = Value.func (.func g) #[] #[] := rfl
  have e : (execOp a.eval o).run P w = .ok (.enter g #[vx]) w := by
    rw [← hx] at hcf ⊢
    simpa [go_sem, execOp, ho, resolve, invoke] using hcf
  rw [e, Oper.upon_enter]
  refine hc.mono ?_
  rintro _ w' ⟨rfl, d⟩
  exact hK w' d

theorem step_pushR {P : Program} {w w0 : World} {ops : Array Oper} {o : Oper} {a : Act} {K : Act → World → Prop} {Q : Exit → Act → World → Prop} {E : Prop} (hgd : o.guard = none) (s x : Operand) (t e : TypeId)
    (ho : o.op = .call { callee := .builtin .append, args := #[s, x], argTypes := #[t, t] })
    (i : TypeInfo) (ht : P.underlying t = some (.slice e)) (hi : P.info? e = some i) (z : Value) (bytes : Nat) (hz : i.zero = some z) (hz1 : i.size = 1) (hz2 : i.bytes = bytes) (hzs : z.cells.size = 1) (hby : bytes ≤ 32)
    (base n : Nat) (v : Value) (cs : List Value) (ad : Addr) (c : Nat) (y : Value) (hs : a.eval s = v) (hx : a.eval x = .slice (some ad) 1 c) (hy : y.oneCell' = true)
    (hown : w.ownsRow base e 1 v n cs) (hb : Below base w0 w) (hbase : base ≤ w.heap.size) (hn : n + 1 ≤ 1048580)
    (hc0 : w.cell? (ad.add 0) = some y)
    (h : ∀ v' w', w'.ownsRow base e 1 v' (n + 1) (cs ++ [y]) → Below base w0 w' → w.heap.size ≤ w'.heap.size → K (a.put o.dst v') w') :
    if Region.wanted o (yielded ops a.tmps) = true then Oper.wp P o a w K Q else E := by
  have hw : Region.wanted o (yielded ops a.tmps) = true := by simp [Region.wanted, hgd]
  rw [if_pos hw]
  refine wp_append_own (P := P) _ s x t ho base e i z 1 bytes ht hi hz hz1 hz2 hzs (by omega) v n _ hs hown ad 1 c [y] hx rfl
    (fun j u hj => by
      rcases j with _ | j
      · simp at hj; subst hj; exact hc0
      · simp at hj) (by intro u hu; simp at hu; subst hu; exact hy)
    (by unfold maxLen; omega) (by have : (n + 1) * bytes ≤ 1048580 * 32 := Nat.mul_le_mul hn hby; omega) hbase ?_
  intro v' w' hown' hg _
  refine h v' w' hown' (hb.grown hg hbase fun k hk => ?_) hg.size
  exact (hown.lt k hk).1


/-- append(v, s...) as one step of a region that draws: v a row of the call's own, s a list of numbers that is read, nil or not. -/
theorem step_appendR {P : Program} {w w0 : World} {ops : Array Oper} {o : Oper} {a : Act} {K : Act → World → Prop} {Q : Exit → Act → World → Prop} {E : Prop} (hgd : o.guard = none) (s x : Operand) (t e : TypeId)
    (ho : o.op = .call { callee := .builtin .append, args := #[s, x], argTypes := #[t, t] })
    (i : TypeInfo) (ht : P.underlying t = some (.slice e)) (hi : P.info? e = some i) (hz : i.zero = some (.int .i64 0)) (hz1 : i.size = 1) (hz2 : i.bytes = 8)
    (base n : Nat) (v : Value) (cs : List Value) (hs : a.eval s = v) (lo hi' : Nat) (A : Option Addr) (c : Nat) (xs : List Int) (hx : a.eval x = .slice A xs.length c)
    (hown : w.ownsRow base e 1 v n cs) (hr : Ints w lo hi' A xs) (hb : Below base w0 w) (hbase : base ≤ w.heap.size) (hn : n + xs.length ≤ 17592186044416)
    (h : ∀ v' w', w'.ownsRow base e 1 v' (n + xs.length) (cs ++ xs.map (Value.int .i64)) → Below base w0 w' → w.heap.size ≤ w'.heap.size → K (a.put o.dst v') w') :
    if Region.wanted o (yielded ops a.tmps) = true then Oper.wp P o a w K Q else E := by
  have hw : Region.wanted o (yielded ops a.tmps) = true := by simp [Region.wanted, hgd]
  rw [if_pos hw]
  rcases A with _ | ad
  · have hx0 : xs = [] := by
      rcases xs with _ | ⟨y, ys⟩
      · rfl
      · obtain ⟨b, off, h1, _⟩ := hr (by simp)
        cases h1
    subst hx0
    have hrun : (Builtin.append_ #[t, t] o.type #[v, .slice none 0 c]).run P w = .ok v w := by
      rcases hown.2 with ⟨rfl, rfl⟩ | ⟨g, cap, cur, rfl, _, _, hnc, _⟩
      · simp [Builtin.append_, run_underlying ht, sizeOf, typeInfo, hi, Builtin.lenOf, Builtin.firstCells]
      · simp [Builtin.append_, run_underlying ht, sizeOf, typeInfo, hi, Builtin.lenOf, Builtin.firstCells, hnc, storeCells]
    unfold Oper.wp execOp
    simp only [List.length_nil] at hx
    simp only [ho, resolve, invoke, builtin, Sem.run_bind, Sem.run_pure, Result.andThen_ok, List.map_toArray, List.map_cons, List.map_nil, hs, hx, hrun]
    exact h v w (by simpa using hown) hb (Nat.le_refl _)
  · refine wp_append_own (P := P) _ s x t ho base e i (.int .i64 0) 1 8 ht hi hz hz1 hz2 rfl (by omega) v n _ hs hown ad xs.length c (xs.map (Value.int .i64)) hx (by simp) (fun j u hj => ?_) (fun u hu => ?_) (by unfold maxLen; omega) (by omega) hbase ?_
    · have hj' : j < xs.length := by have := (List.getElem?_eq_some_iff.1 hj).1; simpa using this
      obtain ⟨b, off, h1, _, _, h4⟩ := hr (by rintro rfl; simp at hj')
      injection h1 with h1
      subst h1
      rw [add_eq, h4 j hj']
      rw [List.getElem?_map, List.getElem?_eq_getElem hj'] at hj
      injection hj with hj
      subst hj
      simp [List.getD_eq_getElem?_getD, hj']
    · simp only [List.mem_map] at hu
      obtain ⟨y, _, rfl⟩ := hu
      rfl
    · intro v' w' hown' hg _
      exact h v' w' hown' (hb.grown hg hbase fun k hk => (hown.lt k hk).1) hg.size
end Go.Proofs.Ytimlpdcambmcjaa

namespace Go.Proofs.Ytimlpdcambmcjaa
open Go.ChangeShapes Go.WideShapes Go.ChangeAt Go.RowKit Go.Sort
set_option linter.unusedVariables false
set_option linter.unusedSimpArgs false

set_option maxRecDepth 100000 in
set_option maxHeartbeats 1000000 in
theorem spec_ValueOf (H A : Option Addr) (ch c : Nat) (hs l : List Int) (t : Int) (hh : hs.length ≤ 1048576) (hl : l.length ≤ 1048576) (w : World) (h : RI w H hs) (h' : RI w A l) :
    Calls Try.prog 53 #[.agg #[.slice H hs.length ch, .slice A l.length c], .int .i64 t] w fun e w' => e = .returned (.int .i64 (bval hs l t)) ∧ Below w.heap.size w w' := by
  have hh' : (hs.length : Int) ≤ 1048576 := by omega
  have hl' : (l.length : Int) ≤ 1048576 := by omega
  have B0 := Lib.hid (below_alloc w (.cells #[.slice H hs.length ch, .slice A l.length c] 50))
  have X0 := Lib.hid (Box.new w #[.slice H hs.length ch, .slice A l.length c] 50)
  have HI := Lib.hid (h.step B0.out)
  have HJ := Lib.hid (h'.step B0.out)
  clear h h'
  by_cases ht : inB t 10 17 = true
  · have HT := Lib.hid ht
    clear ht
    go_enter Try.func53, Try.ntmps53
    go_wp2_with fail
    refine (spec_IsVar t _).mono ?_
    rintro e w1 ⟨he, rfl⟩
    rw [HT.out] at he
    subst he
    go_wp2
    go_loop [5] (fun i => ∃ k : Nat, k ≤ hs.length ∧ i = .int .i64 k ∧ Hid (t ∉ hs.take k)) (fun i => hs.length - (intOf i).toNat)
    case atStart => exact ⟨0, by omega, rfl, Lib.hid (by simp)⟩
    case round =>
      obtain ⟨k, hk, rfl, ha⟩ := hrel
      have hk0 : (0 : Int) ≤ (k : Int) := by omega
      by_cases h1 : k < hs.length
      · have hk1 : (k : Int) < (hs.length : Int) := by omega
        have d1 : decide (k < hs.length) = true := by simpa using h1
        by_cases h2 : k < l.length
        · have hk2 : (k : Int) < (l.length : Int) := by omega
          have d2 : decide (k < l.length) = true := by simpa using h2
          obtain ⟨b, off, rfl, n1, e1⟩ := HI.out.at_ h1
          obtain ⟨b', off', rfl, n2, e2⟩ := HJ.out.at_ h2
          generalize hx : hs.getD k 0 = x at e1
          generalize hy : l.getD k 0 = y at e2
          have HX := Lib.hid hx
          have HY := Lib.hid hy
          clear hx hy
          by_cases he : x = t
          · have d3 : (x == t) = true := by simpa using he
            have HE := Lib.hid he
            clear he
            go_wp2
            go_ret
            exact ⟨ret_int (by rw [bval_at HT.out h1 h2 ha.out (by rw [HX.out]; exact HE.out), HY.out]), B0.out⟩
          · have d3 : (x == t) = false := by simpa using he
            have HE := Lib.hid he
            clear he
            go_wp2
            go_round
            case rel => exact ⟨k + 1, by omega, by go_num, Lib.hid (notMem_snoc h1 ha.out HX.out HE.out)⟩
            case measure => simp [intOf]; omega
        · have hk2 : ¬ (k : Int) < (l.length : Int) := by omega
          have d2 : decide (k < l.length) = false := by simpa using h2
          go_wp2
          go_ret
          exact ⟨ret_int (by rw [bval_none HT.out hk ha.out (.inr (by omega))]), B0.out⟩
      · have hk1 : ¬ (k : Int) < (hs.length : Int) := by omega
        have d1 : decide (k < hs.length) = false := by simpa using h1
        go_wp2
        go_ret
        exact ⟨ret_int (by rw [bval_none HT.out hk ha.out (.inl (by omega))]), B0.out⟩
  · have ht' : inB t 10 17 = false := by simpa using ht
    have HT := Lib.hid ht'
    rw [bval_no ht']
    clear ht ht'
    go_enter Try.func53, Try.ntmps53
    go_wp2_with fail
    refine (spec_IsVar t _).mono ?_
    rintro e w1 ⟨he, rfl⟩
    rw [HT.out] at he
    subst he
    go_wp2
    go_ret
    exact ⟨rfl, B0.out⟩

set_option maxRecDepth 100000 in
set_option maxHeartbeats 1000000 in
theorem impl_ValueOf (H A : Option Addr) (ch c : Nat) (hs l : List Int) (t : Int) (hh : hs.length ≤ 1048576) (hl : l.length ≤ 1048576) (w : World) (h : RI w H hs) (h' : RI w A l) :
    Calls Try.prog 90 #[.agg #[.slice H hs.length ch, .slice A l.length c], .int .i64 t] w fun e w' => e = .returned (.int .i64 (bval hs l t)) ∧ Below w.heap.size w w' := by
  have hh' : (hs.length : Int) ≤ 1048576 := by omega
  have hl' : (l.length : Int) ≤ 1048576 := by omega
  have B0 := Lib.hid (below_alloc w (.cells #[.slice H hs.length ch, .slice A l.length c] 50))
  have XI := Lib.hid (index_at _ _ H ch hs t hh _ (h.step B0.out))
  have HJ := Lib.hid (h'.step B0.out)
  clear h h'
  by_cases ht : inB t 10 17 = true
  · have HT := Lib.hid ht
    clear ht
    by_cases h1 : hs.idxOf t < hs.length
    · have E1 := Lib.hid (show idxI hs t = (hs.idxOf t : Int) from if_pos h1)
      by_cases h2 : hs.idxOf t < l.length
      · have E := Lib.hid (show bval hs l t = l.getD (hs.idxOf t) 0 by simp [bval, HT.out, h1, h2])
        rw [E.out]
        generalize hs.idxOf t = k at h1 h2 E1
        obtain ⟨b', off', rfl, n2, e2⟩ := HJ.out.at_ h2
        generalize hy : l.getD k 0 = y at e2
        clear hy E
        have hk0 : (0 : Int) ≤ (k : Int) := by omega
        have hk2 : ¬ ((l.length : Int) ≤ (k : Int)) := by omega
        have hk3 : (k : Int) < (l.length : Int) := by omega
        have d2 : decide (l.length ≤ k) = false := by simp; omega
        have d0 : decide ((k : Int) < 0) = false := by simp
        go_enter Try.func90, Try.ntmps90
        go_wp2_with fail
        refine (impl_IsVar t _).mono ?_
        rintro e w1 ⟨he, rfl⟩
        rw [HT.out] at he
        subst he
        go_wp2_with fail
        refine XI.out.mono ?_
        rintro e w1 ⟨he, rfl⟩
        rw [E1.out] at he
        subst he
        go_wp2
        go_ret
        exact ⟨rfl, B0.out⟩
      · have E := Lib.hid (show bval hs l t = -1 by simp [bval, HT.out, h2])
        rw [E.out]
        generalize hs.idxOf t = k at h1 h2 E1
        clear E
        have hk0 : (0 : Int) ≤ (k : Int) := by omega
        have hk2 : ((l.length : Int) ≤ (k : Int)) := by omega
        have d2 : decide (l.length ≤ k) = true := by simp; omega
        have d0 : decide ((k : Int) < 0) = false := by simp
        go_enter Try.func90, Try.ntmps90
        go_wp2_with fail
        refine (impl_IsVar t _).mono ?_
        rintro e w1 ⟨he, rfl⟩
        rw [HT.out] at he
        subst he
        go_wp2_with fail
        refine XI.out.mono ?_
        rintro e w1 ⟨he, rfl⟩
        rw [E1.out] at he
        subst he
        go_wp2
        go_ret
        exact ⟨rfl, B0.out⟩
    · have E1 := Lib.hid (show idxI hs t = -1 from if_neg h1)
      have E := Lib.hid (show bval hs l t = -1 by simp [bval, HT.out, h1])
      rw [E.out]
      clear E h1
      go_enter Try.func90, Try.ntmps90
      go_wp2_with fail
      refine (impl_IsVar t _).mono ?_
      rintro e w1 ⟨he, rfl⟩
      rw [HT.out] at he
      subst he
      go_wp2_with fail
      refine XI.out.mono ?_
      rintro e w1 ⟨he, rfl⟩
      rw [E1.out] at he
      subst he
      go_wp2
      go_ret
      exact ⟨rfl, B0.out⟩
  · have ht' : inB t 10 17 = false := by simpa using ht
    have HT := Lib.hid ht'
    rw [bval_no ht']
    clear ht ht'
    go_enter Try.func90, Try.ntmps90
    go_wp2_with fail
    refine (impl_IsVar t _).mono ?_
    rintro e w1 ⟨he, rfl⟩
    rw [HT.out] at he
    subst he
    go_wp2
    go_ret
    exact ⟨rfl, B0.out⟩
end Go.Proofs.Ytimlpdcambmcjaa

namespace Go.Proofs.Ytimlpdcambmcjaa
open Go.ChangeShapes Go.WideShapes Go.ChangeAt Go.RowKit Go.Sort
set_option linter.unusedVariables false
set_option linter.unusedSimpArgs false

theorem OwnP.keep {w w' : World} {lo hi g m k : Nat} {fs : FL} (h : OwnP w lo hi g m k fs) (hk : ∀ b, lo ≤ b → b < hi → w'.heap[b]? = w.heap[b]?) : OwnP w' lo hi g m k fs := by
  obtain ⟨h1, h2, F, bs, hr, he, hd⟩ := h
  refine ⟨h1, h2, F, bs, World.rowIs.of_block hr (hk g h1 h2), fun j hj => ?_, hd⟩
  obtain ⟨e0, e1⟩ := he j hj
  exact ⟨e0, e1.keep fun a b _ => hk _ a b⟩
/-- A list of the call's own that lies below block hi, whatever is made later. -/
def PX (w : World) (lo hi g m : Nat) (fs : FL) : Prop := OwnP w lo hi g m fs.length fs ∧ hi ≤ w.heap.size ∧ fs.length * 2 ≤ m
theorem PX.step {w w' : World} {lo hi g m : Nat} {fs : FL} (h : PX w lo hi g m fs) (b : Below w.heap.size w w') : PX w' lo hi g m fs :=
  ⟨h.1.keep fun q _ hq => b.block q (by have := h.2.1; omega), Nat.le_trans h.2.1 b.size, h.2.2⟩
theorem PX.keep {w w' : World} {lo hi g m : Nat} {fs : FL} (h : PX w lo hi g m fs) (hk : ∀ b, lo ≤ b → b < hi → w'.heap[b]? = w.heap[b]?) (hs : w.heap.size ≤ w'.heap.size) : PX w' lo hi g m fs :=
  ⟨h.1.keep hk, Nat.le_trans h.2.1 hs, h.2.2⟩
theorem PX.rf {w : World} {lo hi g m : Nat} {fs : FL} (h : PX w lo hi g m fs) : RF w (some ⟨g, 0, none⟩) fs := (h.1.facts h.2.2).mono (Nat.zero_le _) h.2.1
theorem Row.step {w w' : World} {g : Nat} {xs : List Int} (h : Row w g xs) (b : Below w.heap.size w w') : Row w' g xs := h.of_block (b.block _ (World.rowIs.lt h))

theorem addF_pos (l : FL) (r : Int) (xs : List Int) : 0 < (addF l r xs).length := by
  unfold addF
  split
  · rename_i h
    rcases l with _ | ⟨g, t⟩
    · cases h
    · simp
  · cases l with
    | nil => simp [addI]
    | cons g t => rw [addI]; split <;> simp
def AddP (w : World) (res : FL) (e : Ending) (w' : World) : Prop :=
  ∃ g cap, e = .returned (.slice (some ⟨g, 0, none⟩) res.length cap) ∧ PX w' w.heap.size w'.heap.size g (cap * 2) res ∧ Below w.heap.size w w'
theorem AddOut.toP {w : World} {l : FL} {r : Int} {xs : List Int} {e : Ending} {w' : World} (h : AddOut w (addF l r xs) e w') : AddP w (addF l r xs) e w' := by
  obtain ⟨A, c, cs, bs, he, ho, hb⟩ := h
  obtain ⟨g, cap, hv, _, _⟩ := ho.1.form (addF_pos l r xs)
  injection hv with e1 e2 e3
  subst e1 e3
  obtain ⟨_, hc, hp⟩ := ho.to_P
  exact ⟨g, c, he, ⟨hp, Nat.le_refl _, by omega⟩, hb⟩
theorem szF_elem_b {l : FL} (h : szF l ≤ 1048577) {k : Nat} (hk : k < l.length) : (l.getD k (0, [])).2.length ≤ 2097152 := by
  have h1 := sumN_take l k hk
  have h2 := sumN_le l (k + 1)
  unfold szF at h
  omega
end Go.Proofs.Ytimlpdcambmcjaa

namespace Go.Proofs.Ytimlpdcambmcjaa
open Go.ChangeShapes Go.WideShapes Go.ChangeAt Go.RowKit Go.Sort
open Go.Deep (BT)
set_option linter.unusedVariables false
set_option linter.unusedSimpArgs false

/-- The numbers of a tree in their order. -/
def tl : BT Int → List Int
  | .nil => []
  | .node _ _ x l r => tl l ++ x :: tl r
/-- The blocks of its nodes. -/
def tb : BT Int → List Nat
  | .nil => []
  | .node a _ _ l r => a :: (tb l ++ tb r)
/-- The nodes lie in memory, each in a block of its own from lo on. -/
def At (w : World) (lo : Nat) : BT Int → Prop
  | .nil => True
  | .node a o x l r => o = 0 ∧ lo ≤ a ∧ Box w a #[.int .i64 x, l.ptr, r.ptr] 125 ∧ At w lo l ∧ At w lo r
theorem At.rng {w : World} {lo : Nat} : ∀ {t : BT Int}, At w lo t → ∀ b, b ∈ tb t → lo ≤ b ∧ b < w.heap.size
  | .nil, _, b, hb => by simp [tb] at hb
  | .node a o x l r, h, b, hb => by
    obtain ⟨_, h1, h2, h3, h4⟩ := h
    simp only [tb, List.mem_cons, List.mem_append] at hb
    rcases hb with rfl | hb | hb
    · exact ⟨h1, h2.lt⟩
    · exact At.rng h3 b hb
    · exact At.rng h4 b hb
theorem At.keep {w w' : World} {lo : Nat} : ∀ {t : BT Int}, At w lo t → (∀ b, b ∈ tb t → w'.heap[b]? = w.heap[b]?) → At w' lo t
  | .nil, _, _ => trivial
  | .node a o x l r, h, hk => by
    obtain ⟨h0, h1, h2, h3, h4⟩ := h
    exact ⟨h0, h1, (hk a (by simp [tb])).trans h2, At.keep h3 fun b hb => hk b (by simp [tb, hb]), At.keep h4 fun b hb => hk b (by simp [tb, hb])⟩
theorem At.step {w w' : World} {lo : Nat} {t : BT Int} (h : At w lo t) (d : Below w.heap.size w w') : At w' lo t := h.keep fun b hb => d.block b (h.rng b hb).2

theorem ptr_form (t : BT Int) : ∃ p, t.ptr = .pointer p := by cases t <;> exact ⟨_, rfl⟩

/-- The numbers behind an addition. -/
def putT : BT Int → Int → List Int
  | .nil, x => [x]
  | .node _ _ y l r, x => if x < y then putT l x ++ y :: tl r else if y < x then tl l ++ y :: putT r x else tl l ++ y :: tl r

/-- The tree t has become t', which holds the numbers s. -/
structure Added (w w' : World) (lo : Nat) (t t' : BT Int) (s : List Int) : Prop where
  at_ : At w' lo t'
  nodup : (tb t').Nodup
  list : tl t' = s
  below : Below lo w w'
  keep : ∀ b, b < w.heap.size → b ∉ tb t → w'.heap[b]? = w.heap[b]?
  sub : ∀ b, b ∈ tb t' → b ∈ tb t ∨ w.heap.size ≤ b
def AddT (w : World) (lo : Nat) (t : BT Int) (s : List Int) (e : Ending) (w' : World) : Prop := ∃ t' : BT Int, e = .returned t'.ptr ∧ Added w w' lo t t' s

theorem nodup_node {a o : Nat} {x : Int} {l r : BT Int} (h : (tb (.node a o x l r)).Nodup) : a ∉ tb l ∧ a ∉ tb r ∧ (tb l).Nodup ∧ (tb r).Nodup ∧ ∀ b, b ∈ tb l → b ∉ tb r := by
  simp only [tb, List.nodup_cons, List.mem_append, List.nodup_append, not_or] at h
  obtain ⟨⟨h1, h2⟩, h3, h4, h5⟩ := h
  exact ⟨h1, h2, h3, h4, fun b hb hb' => h5 b hb b hb' rfl⟩
theorem node_nodup {a o : Nat} {x : Int} {l r : BT Int} (h1 : a ∉ tb l) (h2 : a ∉ tb r) (h3 : (tb l).Nodup) (h4 : (tb r).Nodup) (h5 : ∀ b, b ∈ tb l → b ∉ tb r) : (tb (.node a o x l r)).Nodup := by
  simp only [tb, List.nodup_cons, List.mem_append, List.nodup_append, not_or]
  exact ⟨⟨h1, h2⟩, h3, h4, fun b hb b' hb' e => h5 b hb (e ▸ hb')⟩

/-- The left branch is another one now. -/
theorem added_left {w w1 : World} {lo a : Nat} {y : Int} {l r l' : BT Int} {s : List Int} (h : At w lo (.node a 0 y l r)) (hn : (tb (.node a 0 y l r)).Nodup) (hA : Added w w1 lo l l' s) :
    Added w (w1.setCell ⟨a, 1, none⟩ l'.ptr) lo (.node a 0 y l r) (.node a 0 y l' r) (s ++ y :: tl r) := by
  obtain ⟨_, ha, hb, hl, hr⟩ := id h
  obtain ⟨n1, n2, n3, n4, n5⟩ := nodup_node hn
  have hrng := h.rng
  have hs := hA.below.size
  have a' : a ∉ tb l' := fun hc => by
    rcases hA.sub a hc with hc | hc
    · exact n1 hc
    · have := hb.lt; omega
  have far : ∀ b, b ≠ a → (w1.setCell ⟨a, 1, none⟩ l'.ptr).heap[b]? = w1.heap[b]? := fun b hba => Below.heap_setCell _ ⟨a, 1, none⟩ _ b hba
  have hb1 : Box w1 a #[.int .i64 y, l.ptr, r.ptr] 125 := (hA.keep a hb.lt n1).trans hb
  have hr1 : ∀ b, b ∈ tb r → w1.heap[b]? = w.heap[b]? := fun b hbr => hA.keep b (hr.rng b hbr).2 fun hc => n5 b hc hbr
  refine ⟨⟨rfl, ha, hb1.set 1 l'.ptr, hA.at_.keep fun b hbl => far b fun e => a' (e ▸ hbl), (hr.keep hr1).keep fun b hbr => far b fun e => n2 (e ▸ hbr)⟩,
    node_nodup a' n2 hA.nodup n4 fun b hbl hbr => ?_, by simp only [tl, hA.list], hA.below.setCell ha _, fun b hbw hbn => ?_, fun b hbt => ?_⟩
  · rcases hA.sub b hbl with hc | hc
    · exact n5 b hc hbr
    · have := (hr.rng b hbr).2; omega
  · simp only [tb, List.mem_cons, List.mem_append, not_or] at hbn
    exact (far b hbn.1).trans (hA.keep b hbw hbn.2.1)
  · simp only [tb, List.mem_cons, List.mem_append] at hbt ⊢
    rcases hbt with hbt | hbt | hbt
    · exact .inl (.inl hbt)
    · rcases hA.sub b hbt with hc | hc
      · exact .inl (.inr (.inl hc))
      · exact .inr hc
    · exact .inl (.inr (.inr hbt))
theorem added_right {w w1 : World} {lo a : Nat} {y : Int} {l r r' : BT Int} {s : List Int} (h : At w lo (.node a 0 y l r)) (hn : (tb (.node a 0 y l r)).Nodup) (hA : Added w w1 lo r r' s) :
    Added w (w1.setCell ⟨a, 2, none⟩ r'.ptr) lo (.node a 0 y l r) (.node a 0 y l r') (tl l ++ y :: s) := by
  obtain ⟨_, ha, hb, hl, hr⟩ := id h
  obtain ⟨n1, n2, n3, n4, n5⟩ := nodup_node hn
  have hs := hA.below.size
  have a' : a ∉ tb r' := fun hc => by
    rcases hA.sub a hc with hc | hc
    · exact n2 hc
    · have := hb.lt; omega
  have far : ∀ b, b ≠ a → (w1.setCell ⟨a, 2, none⟩ r'.ptr).heap[b]? = w1.heap[b]? := fun b hba => Below.heap_setCell _ ⟨a, 2, none⟩ _ b hba
  have hb1 : Box w1 a #[.int .i64 y, l.ptr, r.ptr] 125 := (hA.keep a hb.lt n2).trans hb
  have hl1 : ∀ b, b ∈ tb l → w1.heap[b]? = w.heap[b]? := fun b hbl => hA.keep b (hl.rng b hbl).2 fun hc => n5 b hbl hc
  refine ⟨⟨rfl, ha, hb1.set 2 r'.ptr, (hl.keep hl1).keep fun b hbl => far b fun e => n1 (e ▸ hbl), hA.at_.keep fun b hbr => far b fun e => a' (e ▸ hbr)⟩,
    node_nodup n1 a' n3 hA.nodup fun b hbl hbr => ?_, by simp only [tl, hA.list], hA.below.setCell ha _, fun b hbw hbn => ?_, fun b hbt => ?_⟩
  · rcases hA.sub b hbr with hc | hc
    · exact n5 b hbl hc
    · have := (hl.rng b hbl).2; omega
  · simp only [tb, List.mem_cons, List.mem_append, not_or] at hbn
    exact (far b hbn.1).trans (hA.keep b hbw hbn.2.2)
  · simp only [tb, List.mem_cons, List.mem_append] at hbt ⊢
    rcases hbt with hbt | hbt | hbt
    · exact .inl (.inl hbt)
    · exact .inl (.inr (.inl hbt))
    · rcases hA.sub b hbt with hc | hc
      · exact .inl (.inr (.inr hc))
      · exact .inr hc

set_option maxHeartbeats 1000000 in
set_option maxRecDepth 100000 in
theorem addTerm_any (lo : Nat) (x : Int) : ∀ (t : BT Int) (w : World), lo ≤ w.heap.size → At w lo t → (tb t).Nodup → Calls Try.prog 84 #[t.ptr, .int .i64 x] w (AddT w lo t (putT t x)) := by
  intro t
  induction t with
  | nil =>
    intro w hlo h hn
    have HT : Added w (w.alloc (.cells #[.int .i64 x, .pointer none, .pointer none] 125)) lo .nil (.node w.heap.size 0 x .nil .nil) [x] :=
      ⟨⟨rfl, hlo, Box.new w _ _, trivial, trivial⟩, by simp [tb], rfl, (below_alloc w _).mono hlo, fun b hb _ => Below.heap_alloc _ _ _ hb, fun b hb => by simp [tb] at hb; exact .inr (by omega)⟩
    have HH := Lib.hid HT
    clear hlo h hn HT
    show Calls Try.prog 84 #[.pointer none, .int .i64 x] w _
    go_enter Try.func84, Try.ntmps84
    go_wp2
    go_ret
    exact ⟨_, rfl, HH.out⟩
  | node a o y l r ihl ihr =>
    intro w hlo h hn
    obtain ⟨rfl, ha, hbx, hl, hr⟩ := id h
    obtain ⟨_, _, n3, n4, _⟩ := nodup_node hn
    have HL := Lib.hid (ihl w hlo hl n3)
    have HR := Lib.hid (ihr w hlo hr n4)
    have HAL := Lib.hid fun (w1 : World) (l' : BT Int) (s : List Int) (hA : Added w w1 lo l l' s) => added_left h hn hA
    have HAR := Lib.hid fun (w1 : World) (r' : BT Int) (s : List Int) (hA : Added w w1 lo r r' s) => added_right h hn hA
    have HBX := Lib.hid hbx
    have HN := Lib.hid (nodup_node hn)
    have HS := Lib.hid (show Added w w lo (.node a 0 y l r) (.node a 0 y l r) (tl (.node a 0 y l r)) from ⟨h, hn, rfl, Below.refl _ _, fun _ _ _ => rfl, fun b hb => .inl hb⟩)
    have g0 := hbx.cell 0
    have g1 := hbx.cell 1
    have g2 := hbx.cell 2
    simp only [List.getElem?_toArray, List.getElem?_cons_zero, List.getElem?_cons_succ] at g0 g1 g2
    clear ihl ihr hl hr n3 n4 h hn hbx
    show Calls Try.prog 84 #[.pointer (some ⟨a, 0, none⟩), .int .i64 x] w _
    rcases (by omega : x < y ∨ (¬ x < y ∧ y < x) ∨ (¬ x < y ∧ ¬ y < x)) with c1 | ⟨c1, c2⟩ | ⟨c1, c2⟩
    · have E := Lib.hid (show putT (.node a 0 y l r) x = putT l x ++ y :: tl r from if_pos c1)
      have C := Lib.hid (show cmpI x y = -1 by simp [cmpI, c1])
      clear c1
      go_enter Try.func84, Try.ntmps84
      go_wp2_with fail
      refine (cmpCompare_any x y _).mono ?_
      rintro e w1 ⟨he, rfl⟩
      rw [C.out] at he
      subst he
      go_wp2_with fail
      refine HL.out.mono ?_
      rintro e w1 ⟨l', rfl, hA⟩
      have b1 : Box w1 a #[.int .i64 y, l.ptr, r.ptr] 125 := (hA.keep a HBX.out.lt HN.out.1).trans HBX.out
      have q1 := b1.cell 1
      have q2 := b1.frozen 1
      simp only [List.getElem?_toArray, List.getElem?_cons_zero, List.getElem?_cons_succ] at q1
      have hA2 := HAL.out w1 l' _ hA
      obtain ⟨pp, hpp⟩ := ptr_form l'
      rw [hpp] at hA2 ⊢
      have HA := Lib.hid hA2
      clear hA hA2 b1 g0 g1 g2 hpp
      go_wp2
      go_ret
      exact ⟨.node a 0 y l' r, rfl, by rw [E.out]; exact HA.out⟩
    · have E := Lib.hid (show putT (.node a 0 y l r) x = tl l ++ y :: putT r x from (if_neg c1).trans (if_pos c2))
      have C := Lib.hid (show cmpI x y = 1 by simp [cmpI, c1, c2])
      clear c1 c2
      go_enter Try.func84, Try.ntmps84
      go_wp2_with fail
      refine (cmpCompare_any x y _).mono ?_
      rintro e w1 ⟨he, rfl⟩
      rw [C.out] at he
      subst he
      go_wp2_with fail
      refine HR.out.mono ?_
      rintro e w1 ⟨r', rfl, hA⟩
      have b1 : Box w1 a #[.int .i64 y, l.ptr, r.ptr] 125 := (hA.keep a HBX.out.lt HN.out.2.1).trans HBX.out
      have q1 := b1.cell 2
      have q2 := b1.frozen 2
      simp only [List.getElem?_toArray, List.getElem?_cons_zero, List.getElem?_cons_succ] at q1
      have hA2 := HAR.out w1 r' _ hA
      obtain ⟨pp, hpp⟩ := ptr_form r'
      rw [hpp] at hA2 ⊢
      have HA := Lib.hid hA2
      clear hA hA2 b1 g0 g1 g2 hpp
      go_wp2
      go_ret
      exact ⟨.node a 0 y l r', rfl, by rw [E.out]; exact HA.out⟩
    · have E := Lib.hid (show putT (.node a 0 y l r) x = tl (.node a 0 y l r) from (if_neg c1).trans (if_neg c2))
      have C := Lib.hid (show cmpI x y = 0 by simp [cmpI, c1, c2])
      clear c1 c2
      go_enter Try.func84, Try.ntmps84
      go_wp2_with fail
      refine (cmpCompare_any x y _).mono ?_
      rintro e w1 ⟨he, rfl⟩
      rw [C.out] at he
      subst he
      go_wp2
      go_ret
      exact ⟨.node a 0 y l r, rfl, by rw [E.out]; exact HS.out⟩
end Go.Proofs.Ytimlpdcambmcjaa
