/- The search for matchings with a list of choices: what holds between its rounds. Conditions: none beyond each theorem's own. The search from a known binding on: what the choices hold. Conditions: none beyond each theorem's own. A matching started from a binding that may name a variable twice. Conditions: none beyond each theorem's own. The search by choices, by valuations: a mapping whose head has given values exists exactly if the search from these values on finds one. Conditions: none beyond each theorem's own. -/
import Derived.Test.YtimlpdcambmcjaaGreatS21
import Derived.Test.YtimlpdcambmcjaaGreatS10
import Derived.Deep.LoopGhost
import Derived.Test.YtimlpdcambmcjaaGreatS6
import Derived.Test.YtimlpdcambmcjaaGreatS7

namespace Go.Proofs.YtimlpdcambmcjaaGreat
open Go.ChangeShapes Go.WideShapes Go.ChangeAt Go.RowKit Go.Sort
set_option linter.unusedVariables false
set_option linter.unusedSimpArgs false

/-- The choices as they lie in memory. -/
def stL (st : CL) : List (Int × Int) := st.reverse.map fun x => ((x.1 : Int), (x.2.1.length : Int))
theorem stL_len (st : CL) : (stL st).length = st.length := by simp [stL]
theorem stL_cons (n : Nat) (p : PL) (r : CL) : stL ((n, p) :: r) = stL r ++ [((n : Int), (p.1.length : Int))] := by simp [stL]
theorem stL_top (n : Nat) (p : PL) (r : CL) : (stL ((n, p) :: r)).getD r.length (0, 0) = ((n : Int), (p.1.length : Int)) := by
  rw [stL_cons, List.getD_eq_getElem?_getD, List.getElem?_append_right (by rw [stL_len]; exact Nat.le_refl _), stL_len]
  simp
theorem stL_pop (n : Nat) (p : PL) (r : CL) : (stL ((n, p) :: r)).take r.length = stL r := by
  rw [stL_cons, List.take_append_of_le_length (by rw [stL_len]; exact Nat.le_refl _), List.take_of_length_le (by rw [stL_len]; exact Nat.le_refl _)]
theorem stL_set (n : Nat) (p : PL) (r : CL) : (stL ((n, p) :: r)).set r.length ((n : Int) + 1, (p.1.length : Int)) = stL ((n + 1, p) :: r) := by
  rw [stL_cons, stL_cons, List.set_append_right _ _ (by rw [stL_len]; exact Nat.le_refl _), stL_len]
  simp
/-- The choices fit the matching q: each grows out of the one before. -/
def WfC (fs ats : FL) : CL → PL → Prop
  | [], _ => True
  | (n, p) :: r, q => Pre p q ∧ Gd p ∧ n ≤ fs.length ∧ r.length ≤ ats.length ∧ WfC fs ats r p
theorem Pre.cut {p q : PL} (h : Pre p q) (hp : p.1.length = p.2.length) : cutP p.1.length q = p := by
  obtain ⟨u, v, rfl, _⟩ := h
  unfold cutP
  have e1 : (p.1 ++ u).take p.1.length = p.1 := by simp
  have e2 : (p.2 ++ v).take p.1.length = p.2 := by rw [hp]; simp
  simp only [e1, e2]
theorem Pre.len {p q : PL} (h : Pre p q) : p.1.length ≤ q.1.length := by
  obtain ⟨u, v, rfl, _⟩ := h
  simp
theorem gd_wf {q : PL} (h : Gd q) : ∀ x ∈ q.1, wf x := fun x hx => by
  have := allB_mem h.2.2.1 hx
  exact WalkArith.wf_i64 ⟨by omega, by omega⟩
theorem MS.lo {w : World} {base base' g : Nat} {p0 q : PL} {ads : List Int} (h : MS w base g p0 q ads) (hb : base' ≤ base) : MS w base' g p0 q ads := by
  obtain ⟨h1, mb, n, v, D, hB, hM, hR, hL, hn, hmb, hgb⟩ := h
  exact ⟨h1, mb, n, v, D, hB, hM, ownsRow_low hR hb, hL, hn, by omega, by omega⟩
theorem MS.kept {w w' : World} {base g mb' : Nat} {p0 q : PL} {ads : List Int} (h : MS w base g p0 q ads) (hg : w.grownBy w' (some mb')) (hb : mb' < base) : MS w' base g p0 q ads := by
  obtain ⟨h1, mb, n, v, D, hB, hM, hR, hL, hn, hmb, hgb⟩ := h
  refine ⟨h1, mb, n, v, D, (hg.block g hB.lt (fun e => by injection e; omega)).trans hB, World.ownsMap.kept hM hg (fun e => by injection e; omega), ?_, hL, hn, hmb, hgb⟩
  exact World.ownsRow.kept hR hg (by
    cases e : v.ownBlock with
    | none => exact .inl rfl
    | some k =>
      refine .inr fun e2 => ?_
      have := (World.ownsRow.lt hR k e).1
      injection e2 with e2
      omega)
/-- What may have turned since w: the block mb. -/
theorem fr_trn {w a b : World} {mb : Nat} (h : w.grownBy a (some mb)) (d : Trn w.heap.size a b) : w.grownBy b (some mb) :=
  ⟨d.os.trans h.os, d.tape.trans h.tape, d.output.trans h.output, Nat.le_trans h.size d.size, fun i hi hn => (d.block i (Nat.lt_of_lt_of_le hi h.size) (.inl hi)).trans (h.block i hi hn)⟩
theorem fr_grown {w a b : World} {mb : Nat} {row : Option Nat} (h : w.grownBy a (some mb)) (d : a.grownBy b row) (hr : ∀ j, row = some j → j = mb ∨ w.heap.size ≤ j) : w.grownBy b (some mb) :=
  ⟨d.os.trans h.os, d.tape.trans h.tape, d.output.trans h.output, Nat.le_trans h.size d.size, fun i hi hn => (d.block i (Nat.lt_of_lt_of_le hi h.size) (fun e => by
    rcases hr i e.symm with h1 | h1
    · exact hn (by rw [h1])
    · omega)).trans (h.block i hi hn)⟩
theorem fr_below {w a b : World} {mb : Nat} (h : w.grownBy a (some mb)) (d : Below a.heap.size a b) : w.grownBy b (some mb) :=
  ⟨d.os.trans h.os, d.tape.trans h.tape, d.output.trans h.output, Nat.le_trans h.size d.size, fun i hi hn => (d.block i (Nat.lt_of_lt_of_le hi h.size)).trans (h.block i hi hn)⟩
theorem fr_set {w a : World} {mb : Nat} {p : Addr} {v : Value} (h : w.grownBy a (some mb)) (hp : w.heap.size ≤ p.block) : w.grownBy (a.setCell p v) (some mb) :=
  ⟨h.os, h.tape, h.output, by rw [set_size]; exact h.size, fun i hi hn => (Below.heap_setCell _ _ _ _ (by omega)).trans (h.block i hi hn)⟩
theorem Ints.fr {w a : World} {mb B0 : Nat} {A : Option Addr} {xs : List Int} (h : Ints w 0 B0 A xs) (d : w.grownBy a (some mb)) (h1 : B0 ≤ mb) (h2 : B0 ≤ w.heap.size) : Ints a 0 B0 A xs :=
  h.keep fun b _ hb => d.block b (by omega) (fun e => by injection e; omega)
theorem Facts.fr {w a : World} {mb B0 : Nat} {A : Option Addr} {fs : FL} (h : Facts w 0 B0 A fs) (d : w.grownBy a (some mb)) (h1 : B0 ≤ mb) (h2 : B0 ≤ w.heap.size) : Facts a 0 B0 A fs :=
  h.keep fun b _ hb => d.block b (by omega) (fun e => by injection e; omega)
theorem mgo_part {p q : PL} {ts vs : List Int} {k : Nat} (h : mgo p (ts.take k) (vs.take k) = some q) (hp : Gd p) (hv : allB 0 9 vs = true) : Pre p q ∧ Gd q :=
  ⟨(mgo_pre _ _ _ _ h).1, mgo_gd _ _ _ _ h hp (allB_of fun x hx => allB_mem hv (List.mem_of_mem_take hx))⟩
theorem matG_mtF {p : PL} (hp : p.1.length = p.2.length) (r : Int) (ts : List Int) (r' : Int) (vs : List Int) : matG p r ts r' vs = mtF p (r, ts) (r', vs) := by
  unfold matG mtF matB
  by_cases h : r = r' ∧ ts.length = vs.length
  · rw [if_pos h, if_pos ⟨h.1, h.2, hp⟩]
  · rw [if_neg h, if_neg fun k => h ⟨k.1, k.2.1⟩]
theorem remC_mem {fs ats : FL} {all done : List PL} {p : PL} {r : CL} {n : Nat} (h : done ++ remC fs ats ((n, p) :: r) = all) (hr : r.length = ats.length) : p ∈ all ∧ done ++ [p] ++ remC fs ats r = all := by
  rw [(remC_leaf fs ats n p r hr).1] at h
  rw [← h]
  exact ⟨by simp, by simp⟩
theorem small_gd {q : PL} (h : Gd q) : q.1.length ≤ 8 := by
  have h1 := nodup_nat 18 (q.1.map Int.toNat) (by
    refine List.pairwise_map.2 (List.Pairwise.imp_of_mem ?_ h.2.1)
    intro a b ha hb hab e
    have h2 := allB_mem h.2.2.1 ha
    have h3 := allB_mem h.2.2.1 hb
    exact hab (by omega)) (fun x hx => by
    rw [List.mem_map] at hx
    obtain ⟨a, ha, rfl⟩ := hx
    have h2 := allB_mem h.2.2.1 ha
    omega)
  have h2 := nodup_nat 8 (q.1.map fun x => x.toNat - 10) (by
    refine List.pairwise_map.2 (List.Pairwise.imp_of_mem ?_ h.2.1)
    intro a b ha hb hab e
    have h2 := allB_mem h.2.2.1 ha
    have h3 := allB_mem h.2.2.1 hb
    exact hab (by omega)) (fun x hx => by
    rw [List.mem_map] at hx
    obtain ⟨a, ha, rfl⟩ := hx
    have h2 := allB_mem h.2.2.1 ha
    omega)
  simpa using h2
theorem step_callP3 {P : Program} {ops : Array Oper} {o : Oper} {a : Act} {w : World} {K : Act → World → Prop} {Q : Exit → Act → World → Prop} {E : Prop}
    (hgd : o.guard = none) (g : FuncId) (x y z : Operand) (t t' t'' : TypeId) (ho : o.op = .call { callee := .value (.func g), args := #[x, y, z], argTypes := #[t, t', t''] })
    (vx vy vz : Value) (hx : a.eval x = vx) (hy : a.eval y = vy) (hz : a.eval z = vz) (hcf : (callFunc g #[vx, vy, vz]).run P w = .ok (.enter g #[vx, vy, vz]) w) {R : Value → World → Prop} (hc : Calls P g #[vx, vy, vz] w fun e w' => ∃ v, e = .returned v ∧ R v w') (hK : ∀ v w', R v w' → K (a.put o.dst v) w') :
    if Region.wanted o (yielded ops a.tmps) = true then Oper.wp P o a w K Q else E := by
  have hw : Region.wanted o (yielded ops a.tmps) = true := by simp [Region.wanted, hgd]
  rw [if_pos hw]
  unfold Oper.wp
  have hf : a.eval (.func g) = Value.func (.func g) #[] #[] := rfl
  have e : (execOp a.eval o).run P w = .ok (.enter g #[vx, vy, vz]) w := by
    rw [← hx, ← hy, ← hz] at hcf ⊢
    simpa [go_sem, execOp, ho, resolve, invoke] using hcf
  rw [e, Oper.upon_enter]
  refine hc.mono ?_
  rintro _ w' ⟨v, rfl, d⟩
  exact hK v w' d
theorem ZC.new (w : World) (lo : Nat) (h : lo ≤ w.heap.size) : ZC (w.alloc (.cells #[.int .i64 0, .int .i64 0] 156)) lo w.heap.size 1 [(0, 0)] :=
  ⟨#[.int .i64 0, .int .i64 0], h, heap_alloc_new w _, by simp, by unfold maxLen; omega, rfl, rfl⟩
theorem ZC.trn {base lo g cap : Nat} {w w' : World} {l : List (Int × Int)} (h : ZC w lo g cap l) (d : Trn base w w') : ZC w' lo g cap l := by
  obtain ⟨cs, fr, e⟩ := h.typed
  exact h.keep (d.block g h.lt (.inr ⟨cs, _, fr, e, by decide, by decide⟩))
theorem MS.setC {w : World} {base g k i : Nat} {p0 q : PL} {ads : List Int} {u : Value} {cs : Array Value} {fr : Nat × Nat} (h : MS w base g p0 q ads) (hk : w.heap[k]? = some (Obj.cells cs 156 fr)) : MS (w.setCell ⟨k, i, none⟩ u) base g p0 q ads := by
  obtain ⟨h1, mb, n, v, D, hB, hM, hR, hL, hn, hmb, hgb⟩ := h
  have e1 : g ≠ k := fun e => by
    unfold Box at hB
    rw [e, hk] at hB
    injection hB with hB
    injection hB with _ h2
    exact absurd h2 (by decide)
  have e2 : mb ≠ k := fun e => by
    obtain ⟨es, ck, h2⟩ := ownsMap_block hM
    rw [e, hk] at h2
    cases h2
  refine ⟨h1, mb, n, v, D, hB.set_other e1, ownsMap_trn hM (fun es ck e => Below.heap_setCell _ _ _ _ e2), ?_, hL, hn, hmb, hgb⟩
  refine ⟨hR.1, ?_⟩
  rcases hR.2 with hn | ⟨j, cap, cur, hv, hbk, hj, r⟩
  · exact .inl hn
  · refine .inr ⟨j, cap, cur, hv, hbk, ?_, r⟩
    rw [Below.heap_setCell _ _ _ _ (fun e => by
      have e' : j = k := e
      rw [e', hk] at hj
      injection hj with hj
      injection hj with _ h2
      exact absurd h2 (by decide))]
    exact hj
/-- A row of choices has grown. -/
theorem MS.grownC {w w' : World} {base g k : Nat} {p0 q : PL} {ads : List Int} (h : MS w base g p0 q ads) (hg : w.grownBy w' (some k)) (ht : ∃ cs fr, w.heap[k]? = some (Obj.cells cs 156 fr)) : MS w' base g p0 q ads := by
  obtain ⟨cs, fr, hk⟩ := ht
  obtain ⟨h1, mb, n, v, D, hB, hM, hR, hL, hn, hmb, hgb⟩ := h
  have e1 : g ≠ k := fun e => by
    unfold Box at hB
    rw [e, hk] at hB
    injection hB with hB
    injection hB with _ h2
    exact absurd h2 (by decide)
  have e2 : mb ≠ k := fun e => by
    obtain ⟨es, ck, h2⟩ := ownsMap_block hM
    rw [e, hk] at h2
    cases h2
  refine ⟨h1, mb, n, v, D, (hg.block g hB.lt (fun e => e1 (by injection e))).trans hB, World.ownsMap.kept hM hg (fun e => e2 (by injection e)), ?_, hL, hn, hmb, hgb⟩
  refine World.ownsRow.kept hR hg ?_
  rcases hR.2 with ⟨hv, _⟩ | ⟨j, cap, cur, hv, hbk, hj, r⟩
  · exact .inl (by rw [hv]; rfl)
  · refine .inr fun e => ?_
    rw [hv] at e
    have e' : j = k := own_some e
    rw [e', hk] at hj
    injection hj with hj
    injection hj with _ h2
    exact absurd h2 (by decide)

/-- A row of choices of the call's own, or none. -/
def ZN (w : World) (base : Nat) (A : Option Addr) (cap : Nat) (l : List (Int × Int)) : Prop := (A = none ∧ cap = 0 ∧ l = []) ∨ ∃ g, A = some ⟨g, 0, none⟩ ∧ ZC w base g cap l
theorem ZN.own {w : World} {base cap : Nat} {A : Option Addr} {l : List (Int × Int)} (h : ZN w base A cap l) : w.ownsRow base 156 2 (.slice A l.length cap) l.length (flatC l) := by
  rcases h with ⟨rfl, rfl, rfl⟩ | ⟨g, rfl, h⟩
  · exact World.ownsRow_nil w base 156 2
  · exact h.own
theorem ZN.trn {base lo cap : Nat} {A : Option Addr} {w w' : World} {l : List (Int × Int)} (h : ZN w lo A cap l) (d : Trn base w w') : ZN w' lo A cap l := h.imp id fun ⟨g, e, h⟩ => ⟨g, e, h.trn d⟩
theorem ZN.take {w : World} {base cap : Nat} {A : Option Addr} {l : List (Int × Int)} (h : ZN w base A cap l) (n : Nat) : ZN w base A cap (l.take n) := h.imp (fun ⟨a, b, c⟩ => ⟨a, b, by rw [c]; simp⟩) fun ⟨g, e, h⟩ => ⟨g, e, h.take n⟩
theorem ZN.keep {w w' : World} {base cap : Nat} {A : Option Addr} {l : List (Int × Int)} (h : ZN w base A cap l) (e : ∀ b, base ≤ b → b < w.heap.size → w'.heap[b]? = w.heap[b]?) : ZN w' base A cap l :=
  h.imp id fun ⟨g, e', h⟩ => ⟨g, e', h.keep (e g (by obtain ⟨_, h1, _⟩ := h; exact h1) h.lt)⟩
theorem MS.keepB {w w' : World} {base g : Nat} {p0 q : PL} {ads : List Int} (h : MS w base g p0 q ads) (hk : ∀ b, base ≤ b → b < w.heap.size → w'.heap[b]? = w.heap[b]?) : MS w' base g p0 q ads := by
  obtain ⟨h1, mb, n, v, D, hB, hM, hR, hL, hn, hmb, hgb⟩ := h
  refine ⟨h1, mb, n, v, D, (hk g hgb hB.lt).trans hB, ownsMap_trn hM (fun es ck e => hk mb hmb (Array.getElem?_eq_some_iff.1 e).1), ⟨hR.1, ?_⟩, hL, hn, hmb, hgb⟩
  rcases hR.2 with hn | ⟨j, cap, cur, hv, hbk, hj, r⟩
  · exact .inl hn
  · exact .inr ⟨j, cap, cur, hv, hbk, (hk j hbk (Array.getElem?_eq_some_iff.1 hj).1).trans hj, r⟩
theorem ZN.ms {w w' : World} {base base' g cap : Nat} {A : Option Addr} {l : List (Int × Int)} {n : Nat} {p0 q : PL} {ads : List Int} (h : ZN w base A cap l) (hm : MS w base' g p0 q ads) (hg : w.grownBy w' ((Value.slice A n cap).ownBlock)) : MS w' base' g p0 q ads := by
  rcases h with ⟨rfl, _, _⟩ | ⟨k, rfl, h⟩
  · exact hm.keepB fun b _ hb => hg.block b hb (by simp [Value.ownBlock])
  · exact hm.grownC hg h.typed
theorem ZN.below {w w' : World} {base cap : Nat} {A : Option Addr} {l : List (Int × Int)} {n : Nat} (h : ZN w base A cap l) (hb : base ≤ w.heap.size) (hg : w.grownBy w' ((Value.slice A n cap).ownBlock)) : Below base w w' := by
  refine ⟨hg.os, hg.tape, hg.output, hg.size, fun b hb2 => hg.block b (by omega) fun e => ?_⟩
  rcases h with ⟨rfl, _, _⟩ | ⟨k, rfl, h⟩
  · simp [Value.ownBlock] at e
  · obtain ⟨_, h1, _⟩ := h
    simp [Value.ownBlock] at e
    omega
/-- append(v, y) of one choice, to a row or to none. -/
theorem wpList_pushN {P : Program} {W : World} {ops : Array Oper} {rest : List Oper} {o : Oper} {a : Act} {Q : Exit → Act → World → Prop} (hgd : o.guard = none) (s x : Operand) (t : TypeId)
    (ho : o.op = .call { callee := .builtin .append, args := #[s, x], argTypes := #[t, t] })
    (i : TypeInfo) (ht : P.underlying t = some (.slice 156)) (hi : P.info? 156 = some i) (hz : i.zero = some (.agg #[.int .i64 0, .int .i64 0])) (hz1 : i.size = 2) (hz2 : i.bytes = 16)
    {base cap : Nat} {A : Option Addr} {l : List (Int × Int)} {y1 y2 : Int} (hs : a.eval s = .slice A l.length cap) (hx : a.eval x = .slice (some ⟨W.heap.size, 0, none⟩) 1 1)
    (hown : ZN W base A cap l) (hbase : base ≤ W.heap.size) (hn : l.length + 1 ≤ 1048580)
    (h : ∀ g' cap' w', ZC w' base g' cap' (l ++ [(y1, y2)]) → (∀ b, b < W.heap.size → A ≠ some ⟨b, 0, none⟩ → w'.heap[b]? = W.heap[b]?) → W.grownBy w' ((Value.slice A l.length cap).ownBlock) → wpList P ops Q rest (a.put o.dst (.slice (some ⟨g', 0, none⟩) (l.length + 1) cap')) w') :
    wpList P ops Q (o :: rest) a (W.alloc (.cells #[.int .i64 y1, .int .i64 y2] 156)) := by
  refine wpList_append_own_at (P := P) _ hgd s x t ho base 156 i _ 2 16 ht hi hz hz1 hz2 rfl (by omega) _ l.length _ hs (hown.own.alloc _) ⟨W.heap.size, 0, none⟩ 1 1 [.int .i64 y1, .int .i64 y2] hx rfl
    (World.news_of_block (cs := #[.int .i64 y1, .int .i64 y2]) (t := 156) (fr := (0, 0)) (heap_alloc_new W _)) (by simp [Value.oneCell'])
    (by unfold maxLen; omega) (by omega) (by simp; omega) ?_
  intro v' w' hown' hg _ hloc
  have hg2 := (World.grownBy_alloc W (.cells #[.int .i64 y1, .int .i64 y2] 156) ((Value.slice A l.length cap).ownBlock)).trans hg
  rcases hown'.2 with ⟨_, h0⟩ | ⟨g', cap', cur, hv, _⟩
  · omega
  · subst hv
    refine h g' cap' w' (ZC.of_own (by rw [flatC_snoc, List.length_append]; exact hown')) (fun b hb hA => hg2.block b hb fun e => hA ?_) hg2
    rcases hown with ⟨rfl, _, _⟩ | ⟨g, rfl, _⟩
    · simp [Value.ownBlock] at e
    · simp [Value.ownBlock] at e
      rw [e]
end Go.Proofs.YtimlpdcambmcjaaGreat

namespace Go.Proofs.YtimlpdcambmcjaaGreat
open Go.ChangeShapes Go.WideShapes Go.ChangeAt Go.RowKit Go.Sort
set_option linter.unusedVariables false
set_option linter.unusedSimpArgs false

/-- The choices as they lie in memory: k0 variables were known before. -/
def stK (k0 : Nat) (st : CL) : List (Int × Int) := st.reverse.map fun x => ((x.1 : Int), ((x.2.1.length - k0 : Nat) : Int))
theorem stK_len (k0 : Nat) (st : CL) : (stK k0 st).length = st.length := by simp [stK]
theorem stK_cons (k0 n : Nat) (p : PL) (r : CL) : stK k0 ((n, p) :: r) = stK k0 r ++ [((n : Int), ((p.1.length - k0 : Nat) : Int))] := by simp [stK]
theorem stK_top (k0 n : Nat) (p : PL) (r : CL) : (stK k0 ((n, p) :: r)).getD r.length (0, 0) = ((n : Int), ((p.1.length - k0 : Nat) : Int)) := by
  rw [stK_cons, List.getD_eq_getElem?_getD, List.getElem?_append_right (by rw [stK_len]; exact Nat.le_refl _), stK_len]
  simp
theorem stK_pop (k0 n : Nat) (p : PL) (r : CL) : (stK k0 ((n, p) :: r)).take r.length = stK k0 r := by
  rw [stK_cons, List.take_append_of_le_length (by rw [stK_len]; exact Nat.le_refl _), List.take_of_length_le (by rw [stK_len]; exact Nat.le_refl _)]
theorem stK_set (k0 n : Nat) (p : PL) (r : CL) : (stK k0 ((n, p) :: r)).set r.length ((n : Int) + 1, ((p.1.length - k0 : Nat) : Int)) = stK k0 ((n + 1, p) :: r) := by
  rw [stK_cons, stK_cons, List.set_append_right _ _ (by rw [stK_len]; exact Nat.le_refl _), stK_len]
  simp
/-- The variables that are not known from the start. -/
def adq (p0 q : PL) : List Int := q.1.drop p0.1.length
theorem adq_len (p0 q : PL) : (adq p0 q).length = q.1.length - p0.1.length := by simp [adq]
theorem adq_of {p0 q : PL} {ads : List Int} (h : AD p0 q ads) : ads = adq p0 q := by
  unfold adq
  rw [h.1]
  simp
theorem adq_self (p0 : PL) : adq p0 p0 = [] := by simp [adq]
theorem adq_take {p0 p q : PL} (h : Pre p0 p) (k : Pre p q) : (adq p0 q).take (p.1.length - p0.1.length) = adq p0 p := by
  have hl := h.len
  obtain ⟨u, v, rfl, _⟩ := k
  unfold adq
  show ((p.1 ++ u).drop p0.1.length).take _ = _
  rw [List.drop_append_of_le_length hl, List.take_append_of_le_length (by rw [List.length_drop]; exact Nat.le_refl _), List.take_of_length_le (by rw [List.length_drop]; exact Nat.le_refl _)]
theorem remC_from (fs ats : FL) (p0 : PL) : remC fs ats [(0, p0)] = enum fs ats p0 := by
  show enumN fs (ats.drop 0) 0 p0 ++ [] = _
  rw [List.append_nil, enumN_zero]
  rfl
end Go.Proofs.YtimlpdcambmcjaaGreat

namespace Go.Proofs.YtimlpdcambmcjaaGreat
open Go.ChangeShapes Go.WideShapes Go.ChangeAt Go.RowKit Go.Sort
open Go.Maps (Keyed int_keyed keyOf_int_mk)
set_option linter.unusedVariables false
set_option linter.unusedSimpArgs false

/-- The first value of each variable, among the first k. -/
def ddN (ts vs : List Int) : Nat → PL
  | 0 => ([], [])
  | k + 1 => if ts.getD k 0 ∈ (ddN ts vs k).1 then ddN ts vs k else ((ddN ts vs k).1 ++ [ts.getD k 0], (ddN ts vs k).2 ++ [vs.getD k 0])
theorem ddN_skip {ts vs : List Int} {k : Nat} {x : Int} (hx : ts.getD k 0 = x) (h : x ∈ (ddN ts vs k).1) : ddN ts vs (k + 1) = ddN ts vs k := by
  show (if ts.getD k 0 ∈ (ddN ts vs k).1 then _ else _) = _
  rw [hx, if_pos h]
theorem ddN_add {ts vs : List Int} {k : Nat} {x y : Int} (hx : ts.getD k 0 = x) (hy : vs.getD k 0 = y) (h : x ∉ (ddN ts vs k).1) : ddN ts vs (k + 1) = ((ddN ts vs k).1 ++ [x], (ddN ts vs k).2 ++ [y]) := by
  show (if ts.getD k 0 ∈ (ddN ts vs k).1 then _ else _) = _
  rw [hx, hy, if_neg h]
theorem ddN_len (ts vs : List Int) : ∀ k, (ddN ts vs k).1.length ≤ k
  | 0 => Nat.le_refl _
  | k + 1 => by
    have ih := ddN_len ts vs k
    by_cases h : ts.getD k 0 ∈ (ddN ts vs k).1
    · rw [ddN_skip rfl h]; omega
    · rw [ddN_add rfl rfl h, List.length_append]
      show _ + 1 ≤ _
      omega
theorem ddN_eq (ts vs : List Int) : ∀ k, (ddN ts vs k).1.length = (ddN ts vs k).2.length
  | 0 => rfl
  | k + 1 => by
    have ih := ddN_eq ts vs k
    by_cases h : ts.getD k 0 ∈ (ddN ts vs k).1
    · rw [ddN_skip rfl h]; exact ih
    · rw [ddN_add rfl rfl h, List.length_append, List.length_append, ih]
      rfl
theorem ddN_gd {ts vs : List Int} (ht : allB 10 17 ts = true) (hv : allB 0 9 vs = true) (hl : ts.length = vs.length) : ∀ k, k ≤ ts.length → Gd (ddN ts vs k)
  | 0, _ => gd_nil
  | k + 1, hk => by
    have ih := ddN_gd ht hv hl k (by omega)
    by_cases h : ts.getD k 0 ∈ (ddN ts vs k).1
    · rw [ddN_skip rfl h]; exact ih
    · rw [ddN_add rfl rfl h]
      have h1 : ts.getD k 0 ∈ ts := by rw [List.getD_eq_getElem?_getD, List.getElem?_eq_getElem (by omega)]; exact List.getElem_mem _
      have h2 : vs.getD k 0 ∈ vs := by rw [List.getD_eq_getElem?_getD, List.getElem?_eq_getElem (by omega)]; exact List.getElem_mem _
      obtain ⟨a, b, c, d⟩ := ih
      refine ⟨by rw [List.length_append, List.length_append, a]; rfl, ?_, ?_, ?_⟩
      · refine List.nodup_append.2 ⟨b, by simp, ?_⟩
        intro x hx y hy e
        simp only [List.mem_singleton] at hy
        subst hy
        exact h (e ▸ hx)
      · show allB 10 17 ((ddN ts vs k).1 ++ [ts.getD k 0]) = true
        rw [allB_snoc, c]
        have := allB_mem ht h1
        show (true && inB _ _ _) = true
        unfold inB
        rw [Bool.true_and, Bool.and_eq_true]
        exact ⟨decide_eq_true this.1, decide_eq_true this.2⟩
      · show allB 0 9 ((ddN ts vs k).2 ++ [vs.getD k 0]) = true
        rw [allB_snoc, d]
        have := allB_mem hv h2
        show (true && inB _ _ _) = true
        unfold inB
        rw [Bool.true_and, Bool.and_eq_true]
        exact ⟨decide_eq_true this.1, decide_eq_true this.2⟩

set_option maxRecDepth 100000 in
set_option maxHeartbeats 2000000 in
theorem start_dd (A B : Option Addr) (c d : Nat) (ts vs : List Int) (hts : ∀ x ∈ ts, wf x) (hvs : ∀ x ∈ vs, wf x) (hlen : ts.length = vs.length) (hl : ts.length ≤ 1048576) (w : World) (hA : RI w A ts) (hB : RI w B vs) :
    Calls Tryz.prog 144 #[.agg #[.slice A ts.length c, .slice B vs.length d]] w fun e w' => ∃ g, e = .returned (.pointer (some ⟨g, 0, none⟩)) ∧ MS w' w.heap.size g (ddN ts vs ts.length) (ddN ts vs ts.length) [] ∧ Below w.heap.size w w' := by
  have hmm := @run_makeMap Tryz.prog
  have HL := Lib.hid hlen
  have HA := Lib.hid hA
  have HB := Lib.hid hB
  have HT := Lib.hid hts
  have HV := Lib.hid hvs
  have hlv : (vs.length : Int) ≤ 1048576 := by omega
  have hlt' : (ts.length : Int) ≤ 1048576 := by omega
  have B0 := Lib.hid (step (below_alloc w (.cells #[.slice A ts.length c, .slice B vs.length d] 100)) (below_alloc _ (.map #[] 0)))
  have X0 := Lib.hid ((Box.new w #[.slice A ts.length c, .slice B vs.length d] 100).step (below_alloc _ (.map #[] 0)))
  have M0 := Lib.hid (World.ownsMap_made (w.alloc (.cells #[.slice A ts.length c, .slice B vs.length d] 100)) Tryz.prog 3 (plainElem (H := Unit) Tryz.prog 3))
  rw [al_size] at M0
  obtain ⟨mb, hmb⟩ : ∃ mb, mb = w.heap.size + 1 := ⟨_, rfl⟩
  rw [← hmb] at M0
  have MB := Lib.hid hmb
  clear hA hB hts hvs hlen
  go_enter Tryz.func144, Tryz.ntmps144
  go_wp2
  rw [← hmb]
  clear hmb
  go_loopw [4, 5, 6, 7, 12] (fun _ _ _ _ i wr => ∃ (k n : Nat) (D : DataW Unit), k ≤ ts.length ∧ i = .int .i64 k ∧ Hid (wr.ownsMap Tryz.prog 3 (plainElem Tryz.prog 3) mb n D) ∧ n ≤ (ddN ts vs k).1.length ∧ Hid (LK D (ddN ts vs k)) ∧ Hid (Below w.heap.size w wr) ∧ Hid (Box wr w.heap.size #[.slice A ts.length c, .slice B vs.length d] 100)) (fun _ _ _ _ i _ => ts.length - (intOf i).toNat)
  case atStart => exact ⟨0, 0, _, by omega, rfl, M0, Nat.le_refl _, Lib.hid LK.nil, B0, X0⟩
  case round =>
    obtain ⟨k, n, D, hk, rfl, hM, hn, hL, hBl, hX⟩ := hrel
    by_cases hlt : k < ts.length
    · have hlt2 : k < vs.length := by have := HL.out; omega
      have hk0 : (0 : Int) ≤ (k : Int) := by omega
      have hk1 : (k : Int) < (ts.length : Int) := by omega
      have hk2 : (k : Int) < (vs.length : Int) := by omega
      have x1 := hX.out.cell 1
      have x2 := hX.out.frozen 1
      simp only [List.getElem?_toArray, List.getElem?_cons_zero, List.getElem?_cons_succ] at x1
      obtain ⟨b, off, rfl, _, e1⟩ := (HA.out.step hBl.out).at_ hlt
      obtain ⟨b', off', rfl, _, e2⟩ := (HB.out.step hBl.out).at_ hlt2
      have W1 := Lib.hid (HT.out _ (getD_mem ts hlt))
      have W2 := Lib.hid (HV.out _ (getD_mem vs hlt2))
      generalize hx : ts.getD k 0 = x at e1 W1
      generalize hy : vs.getD k 0 = y at e2 W2
      have HX := Lib.hid hx
      have HY := Lib.hid hy
      have DE := Lib.hid (ddN_len ts vs k)
      clear hx hy
      by_cases hin : x ∈ (ddN ts vs k).1
      · have L1 := Lib.hid ((hL.out.2 x).1.trans (decide_eq_true hin))
        have HI := Lib.hid hin
        clear hin
        go_wp2_with (at_lookup; refine wpList_lookup_own_ok_int _ rfl _ _ 152 rfl 3 3 .i64 lawM Tryz.underlying152 Tryz.underlying3 (zeroM _) mb n D rfl hM.out _ _ rfl (keyOf_int_mk Tryz.underlying3 W1.out) ?_; intro c hat hwc
                     rw [L1.out]
                     clear hat hwc)
        go_round
        case rel => exact ⟨k + 1, n, D, by omega, by go_num, hM, (by rw [ddN_skip HX.out HI.out]; exact hn), Lib.hid (by rw [ddN_skip HX.out HI.out]; exact hL.out), hBl, hX⟩
        case measure => simp [intOf]; omega
      · have L1 := Lib.hid ((hL.out.2 x).1.trans (decide_eq_false hin))
        have HI := Lib.hid hin
        clear hin
        go_wp2_with (first
          | (at_lookup; refine wpList_lookup_own_ok_int _ rfl _ _ 152 rfl 3 3 .i64 lawM Tryz.underlying152 Tryz.underlying3 (zeroM _) mb n D rfl hM.out _ _ rfl (keyOf_int_mk Tryz.underlying3 W1.out) ?_; intro c hat hwc
             rw [L1.out]
             clear hat hwc)
          | (at_mapUpdate
             go_loud (
               refine wpList_mapUpdate_own _ rfl _ _ _ 152 rfl 3 3 lawM Tryz.underlying152 _ mb n D rfl hM.out (by have := DE.out; unfold maxLen; omega) _ _ _ rfl rfl (keyOf_int_mk Tryz.underlying3 W1.out) _ [] (plainElem_int Tryz.underlying3 W2.out) ?_; intro w1 hown1 hgrow1
               have HM1 := Lib.hid hown1
               have hb1 : Below w.heap.size w w1 := hBl.out.grown hgrow1 (by have := hBl.out.size; omega) (fun k hk => by injection hk with hk; have := MB.out; omega)
               have HB1 := Lib.hid hb1
               have HX1 := Lib.hid ((hgrow1.block _ hX.out.lt (fun e => by injection e with e; have := MB.out; omega)).trans hX.out)
               clear hown1 hgrow1 hb1)))
        go_round
        case rel => exact ⟨k + 1, n + 1, _, by omega, by go_num, HM1, (by rw [ddN_add HX.out HY.out HI.out, List.length_append]; show n + 1 ≤ _ + 1; omega), Lib.hid (by rw [ddN_add HX.out HY.out HI.out]; exact hL.out.put (ddN_eq ts vs k) HI.out), HB1, HX1⟩
        case measure => simp [intOf]; omega
    · obtain rfl : k = ts.length := by omega
      have HL2 := Lib.hid hL.out
      go_wp2
      go_ret
      exact ⟨_, rfl, ⟨AD.start (ddN_eq ts vs ts.length), mb, n, _, D, Box.new _ _ _, hM.out.alloc _, World.ownsRow_nil _ _ _ _, HL2.out, hn, by have := MB.out; omega, hBl.out.size⟩, step hBl.out (below_alloc _ _)⟩
end Go.Proofs.YtimlpdcambmcjaaGreat

namespace Go.Proofs.YtimlpdcambmcjaaGreat
open Go.ChangeShapes Go.WideShapes Go.ChangeAt Go.RowKit Go.Sort
set_option linter.unusedVariables false
set_option linter.unusedSimpArgs false

/-- A term's value. -/
def vt (σ : Int → Int) (t : Int) : Int := if inB t 10 17 = true then σ t else t
/-- The valuation has the values of p. -/
def Agr (σ : Int → Int) (p : PL) : Prop := p.1.length = p.2.length ∧ ∀ t ∈ p.1, σ t = pval p t
/-- An atom is a fact under the valuation. -/
def satA (σ : Int → Int) (fs : FL) (a : Int × List Int) : Prop := ∃ f ∈ fs, a.1 = f.1 ∧ a.2.map (vt σ) = f.2
theorem agr_nil (σ : Int → Int) : Agr σ ([], []) := ⟨rfl, fun t ht => by cases ht⟩
theorem mst_agr {σ : Int → Int} {p : PL} (h : Agr σ p) {t v : Int} (hv : vt σ t = v) : ∃ q, mst p t v = some q ∧ Agr σ q := by
  unfold vt at hv
  unfold mst
  by_cases hb : inB t 10 17 = true
  · rw [if_pos hb] at hv ⊢
    by_cases hm : t ∈ p.1
    · rw [if_pos hm, if_pos (by rw [bval_mem h.1 hb hm, ← h.2 t hm]; exact hv)]
      exact ⟨p, rfl, h⟩
    · rw [if_neg hm]
      refine ⟨_, rfl, by simp [h.1], fun x hx => ?_⟩
      rcases List.mem_append.1 hx with h1 | h1
      · rw [pval_old h.1 h1]; exact h.2 x h1
      · have e : x = t := by simpa using h1
        subst e
        rw [pval_new h.1 hm]; exact hv
  · rw [if_neg hb] at hv ⊢
    rw [if_pos hv]
    exact ⟨p, rfl, h⟩
theorem mgo_agr {σ : Int → Int} : ∀ (ts vs : List Int) (p : PL), Agr σ p → ts.map (vt σ) = vs → ∃ q, mgo p ts vs = some q ∧ Agr σ q
  | [], vs, p, h, _ => ⟨p, mgo_nil p vs, h⟩
  | t :: ts, [], p, h, e => by simp at e
  | t :: ts, v :: vs, p, h, e => by
    have e1 : vt σ t = v ∧ ts.map (vt σ) = vs := by simpa using e
    obtain ⟨r, h1, h2⟩ := mst_agr h e1.1
    obtain ⟨q, h3, h4⟩ := mgo_agr ts vs r h2 e1.2
    refine ⟨q, ?_, h4⟩
    show (mst p t v).bind _ = _
    rw [h1]
    exact h3
theorem enum_agr {σ : Int → Int} {fs : FL} : ∀ (ats : FL) (p : PL), Agr σ p → (∀ a ∈ ats, satA σ fs a) → ∃ q ∈ enum fs ats p, Agr σ q
  | [], p, h, _ => ⟨p, by simp [enum], h⟩
  | a :: ats, p, h, hs => by
    obtain ⟨f, hf, e1, e2⟩ := hs a (by simp)
    obtain ⟨r, h1, h2⟩ := mgo_agr a.2 f.2 p h e2
    have hm : mtF p a f = some r := by
      unfold mtF matB
      rw [if_pos ⟨e1, by rw [← e2, List.length_map], h.1⟩]
      exact h1
    obtain ⟨q, h3, h4⟩ := enum_agr ats r h2 fun b hb => hs b (by simp [hb])
    refine ⟨q, ?_, h4⟩
    unfold enum extA
    rw [List.mem_flatMap]
    exact ⟨r, List.mem_filterMap.2 ⟨f, hf, hm⟩, h3⟩
theorem pre_val {p q : PL} (h : Pre p q) (hl : p.1.length = p.2.length) {t : Int} (ht : t ∈ p.1) : pval q t = pval p t := by
  obtain ⟨u, v, rfl, _⟩ := h
  have h1 := List.idxOf_lt_length_iff.2 ht
  simp only [pval]
  rw [List.idxOf_append, if_pos ht, List.getD_eq_getElem?_getD, List.getElem?_append_left (by omega), ← List.getD_eq_getElem?_getD]
theorem pre_len {p q : PL} (h : Pre p q) (hl : p.1.length = p.2.length) : q.1.length = q.2.length := by
  obtain ⟨u, v, rfl, e⟩ := h
  simp [hl, e]
theorem mst_val {p q r : PL} {t v : Int} (h : mst p t v = some q) (hl : p.1.length = p.2.length) (hr : Pre q r) : vt (pval r) t = v := by
  have hq := pre_len (mst_pre h) hl
  by_cases hb : inB t 10 17 = true
  · have hm := mst_has h hb
    unfold vt
    rw [if_pos hb, pre_val hr hq hm]
    unfold mst at h
    rw [if_pos hb] at h
    by_cases hp : t ∈ p.1
    · rw [if_pos hp] at h
      split at h
      · rename_i hv
        injection h with h
        rw [← h, ← hv, bval_mem hl hb hp]
      · cases h
    · rw [if_neg hp] at h
      injection h with h
      rw [← h, pval_new hl hp]
  · unfold vt
    rw [if_neg hb]
    unfold mst at h
    rw [if_neg hb] at h
    split at h
    · assumption
    · cases h
theorem mgo_val : ∀ (ts vs : List Int) (p q r : PL), mgo p ts vs = some q → p.1.length = p.2.length → ts.length = vs.length → Pre q r → ts.map (vt (pval r)) = vs
  | [], [], _, _, _, _, _, _, _ => rfl
  | [], _ :: _, _, _, _, _, _, h, _ => by simp at h
  | _ :: _, [], _, _, _, _, _, h, _ => by simp at h
  | t :: ts, v :: vs, p, q, r, h, hl, hn, hr => by
    change (mst p t v).bind _ = _ at h
    cases hm : mst p t v with
    | none => rw [hm] at h; cases h
    | some s =>
      rw [hm] at h
      have h' : mgo s ts vs = some q := h
      have h1 := mgo_pre ts vs s q h'
      have h2 := mgo_val ts vs s q r h' (pre_len (mst_pre hm) hl) (by simpa using hn) hr
      rw [List.map_cons, h2, mst_val hm hl (h1.1.trans hr)]
theorem enum_val {fs : FL} : ∀ (ats : FL) (p q r : PL), q ∈ enum fs ats p → p.1.length = p.2.length → Pre q r → ∀ a ∈ ats, satA (pval r) fs a
  | [], _, _, _, _, _, _ => fun a ha => by cases ha
  | a :: ats, p, q, r, h, hl, hr => fun b hb => by
    unfold enum at h
    rw [List.mem_flatMap] at h
    obtain ⟨s, hs, hq⟩ := h
    unfold extA at hs
    rw [List.mem_filterMap] at hs
    obtain ⟨f, hf, hm⟩ := hs
    have hp := mtF_pre hm
    have hpq := enum_pre fs ats s q hq
    rcases List.mem_cons.1 hb with e | e
    · subst e
      unfold mtF matB at hm
      split at hm
      · rename_i hc
        exact ⟨f, hf, hc.1, mgo_val _ _ _ _ r hm hl hc.2.1 (hpq.1.trans hr)⟩
      · cases hm
    · exact enum_val ats s q r hq (pre_len hp.1 hl) hr b e
theorem enum_agrs {fs ats : FL} {p q : PL} (h : q ∈ enum fs ats p) (hl : p.1.length = p.2.length) : Agr (pval q) p ∧ Agr (pval q) q :=
  ⟨⟨hl, fun t ht => pre_val (enum_pre fs ats p q h).1 hl ht⟩, ⟨pre_len (enum_pre fs ats p q h).1 hl, fun t _ => rfl⟩⟩
theorem ddN_mem (ts vs : List Int) : ∀ k, k ≤ ts.length → ∀ t ∈ (ddN ts vs k).1, t ∈ ts
  | 0, _, t, h => by cases h
  | k + 1, hk, t, h => by
    by_cases hc : ts.getD k 0 ∈ (ddN ts vs k).1
    · rw [ddN_skip rfl hc] at h
      exact ddN_mem ts vs k (by omega) t h
    · rw [ddN_add rfl rfl hc] at h
      rcases List.mem_append.1 h with h1 | h1
      · exact ddN_mem ts vs k (by omega) t h1
      · have e : t = ts.getD k 0 := by simpa using h1
        rw [e, List.getD_eq_getElem?_getD, List.getElem?_eq_getElem (by omega)]
        exact List.getElem_mem _
theorem ddN_hasK (ts vs : List Int) : ∀ k, k ≤ ts.length → ∀ j, j < k → ts.getD j 0 ∈ (ddN ts vs k).1
  | 0, _, j, h => by omega
  | k + 1, hk, j, h => by
    by_cases hc : ts.getD k 0 ∈ (ddN ts vs k).1
    · rw [ddN_skip rfl hc]
      rcases Nat.lt_or_ge j k with h1 | h1
      · exact ddN_hasK ts vs k (by omega) j h1
      · have : j = k := by omega
        subst this; exact hc
    · rw [ddN_add rfl rfl hc]
      rcases Nat.lt_or_ge j k with h1 | h1
      · exact List.mem_append_left _ (ddN_hasK ts vs k (by omega) j h1)
      · have : j = k := by omega
        subst this; exact List.mem_append_right _ (by simp)
theorem ddN_all (ts vs : List Int) : ∀ t ∈ ts, t ∈ (ddN ts vs ts.length).1 := fun t ht => by
  obtain ⟨j, hj, e⟩ := List.getElem_of_mem ht
  have := ddN_hasK ts vs ts.length (Nat.le_refl _) j hj
  rwa [List.getD_eq_getElem?_getD, List.getElem?_eq_getElem hj, Option.getD_some, e] at this
/-- Some binding has this head, exactly if the search from the head's values on finds one. -/
theorem map_iff {hs tup : List Int} {ats fs : FL} (hq : QOk hs ats) (hf : ∀ f ∈ fs, allB 0 9 f.2 = true) (ht : allB 0 9 tup = true) (hl : hs.length = tup.length) (hc : headT hs (ddN hs tup hs.length) = tup) :
    (∃ p ∈ bnds fs ats, headT hs p = tup) ↔ enum fs ats (ddN hs tup hs.length) ≠ [] := by
  have hv : allB 10 17 hs = true := allB_of fun x hx => by
    have := (hq.var x hx).1
    simp only [inB, Bool.and_eq_true, decide_eq_true_eq] at this
    exact this
  have hg := ddN_gd hv ht hl hs.length (Nat.le_refl _)
  have hmem : ∀ t ∈ hs, t ∈ (ddN hs tup hs.length).1 → bval (ddN hs tup hs.length).1 (ddN hs tup hs.length).2 t = pval (ddN hs tup hs.length) t := fun t h1 h2 => bval_mem hg.1 (hq.var t h1).1 h2
  have hin := ddN_mem hs tup hs.length (Nat.le_refl _)
  have hall : ∀ t ∈ hs, t ∈ (ddN hs tup hs.length).1 := ddN_all hs tup
  generalize ddN hs tup hs.length = p1 at hc hg hmem hin hall ⊢
  constructor
  · rintro ⟨p, hp, he⟩
    have hpo := bnds_ok hq hf hp
    rw [bnds_enum] at hp
    have hA : Agr (pval p) p1 := ⟨hg.1, fun t h => by
      have h1 := hin t h
      have h2 : headT hs p = headT hs p1 := by rw [he, hc]
      have h3 := (List.map_inj_left.1 h2) t h1
      rw [hmem t h1 h, bval_mem hpo.1.1 (hpo.2 t h1).1 (hpo.2 t h1).2] at h3
      exact h3⟩
    obtain ⟨q, h1, _⟩ := enum_agr (fs := fs) ats p1 hA (enum_val ats _ p p hp rfl (Pre.refl p))
    intro e
    rw [e] at h1
    cases h1
  · intro hne
    obtain ⟨q, hq'⟩ := List.exists_mem_of_ne_nil _ hne
    obtain ⟨hA, _⟩ := enum_agrs hq' hg.1
    obtain ⟨q2, h1, h2⟩ := enum_agr (fs := fs) ats ([], []) (agr_nil (pval q)) (enum_val ats _ q q hq' hg.1 (Pre.refl q))
    have h3 : q2 ∈ bnds fs ats := by rw [bnds_enum]; exact h1
    have h4 := bnds_ok hq hf h3
    refine ⟨q2, h3, ?_⟩
    rw [← hc]
    refine List.map_congr_left fun t h => ?_
    rw [hmem t h (hall t h), bval_mem h4.1.1 (h4.2 t h).1 (h4.2 t h).2, ← h2.2 t (h4.2 t h).2, ← hA.2 t (hall t h)]
end Go.Proofs.YtimlpdcambmcjaaGreat
