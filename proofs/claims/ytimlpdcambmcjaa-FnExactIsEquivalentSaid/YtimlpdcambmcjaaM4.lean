/- Where one more item stands: plain lists, and what owns them. Conditions: none beyond each theorem's own. A matching in memory: its map, its list of added variables, and one term against one value. Conditions: none beyond each theorem's own. What match and startMatching leave. Conditions: none beyond each theorem's own. What startMatching leaves. Conditions: none beyond each theorem's own. -/
import Derived.Test.YtimlpdcambmcjaaM3
import Derived.Test.YtimlpdcambmcjaaM2
import Derived.Maps.OwnSet

namespace Go.Proofs.Ytimlpdcambmcjaa
open Go.ChangeShapes Go.WideShapes Go.ChangeAt Go.RowKit Go.Sort
set_option linter.unusedVariables false
set_option linter.unusedSimpArgs false

theorem ins_get {α : Type} (fs : List α) (x : α) (k : Nat) (hk : k ≤ fs.length) (j : Nat) : (fs.take k ++ x :: fs.drop k)[j]? = if j < k then fs[j]? else if j = k then some x else fs[j - 1]? := by
  by_cases h1 : j < k
  · rw [if_pos h1, List.getElem?_append_left (by rw [List.length_take]; omega), List.getElem?_take_of_lt h1]
  · rw [if_neg h1, List.getElem?_append_right (by rw [List.length_take]; omega), List.length_take, show j - min k fs.length = j - k by omega]
    by_cases h2 : j = k
    · subst h2; simp
    · rw [if_neg h2, show j - k = (j - 1 - k) + 1 by omega, List.getElem?_cons_succ, List.getElem?_drop, show k + (j - 1 - k) = j - 1 by omega]
theorem ins_getD {α : Type} (d : α) (fs : List α) (x : α) (k : Nat) (hk : k ≤ fs.length) (j : Nat) : (fs.take k ++ x :: fs.drop k).getD j d = if j < k then fs.getD j d else if j = k then x else fs.getD (j - 1) d := by
  simp only [List.getD_eq_getElem?_getD, ins_get fs x k hk j]
  split
  · rfl
  · split <;> rfl
theorem ins_len {α : Type} (fs : List α) (x : α) (k : Nat) (hk : k ≤ fs.length) : (fs.take k ++ x :: fs.drop k).length = fs.length + 1 := by
  simp only [List.length_append, List.length_take, List.length_cons, List.length_drop]; omega
theorem ins2_get (cs : List Value) (a b : Value) (m : Nat) (hm : m ≤ cs.length) (i : Nat) : (cs.take m ++ [a, b] ++ cs.drop m)[i]? = if i < m then cs[i]? else if i = m then some a else if i = m + 1 then some b else cs[i - 2]? := by
  rw [List.append_assoc]
  by_cases h1 : i < m
  · rw [if_pos h1, List.getElem?_append_left (by rw [List.length_take]; omega), List.getElem?_take_of_lt h1]
  · rw [if_neg h1, List.getElem?_append_right (by rw [List.length_take]; omega), List.length_take, show i - min m cs.length = i - m by omega]
    by_cases h2 : i = m
    · subst h2; simp
    · rw [if_neg h2, show i - m = (i - m - 1) + 1 by omega, List.cons_append, List.getElem?_cons_succ]
      by_cases h3 : i = m + 1
      · subst h3; simp
      · rw [if_neg h3, show i - m - 1 = (i - m - 2) + 1 by omega, List.cons_append, List.getElem?_cons_succ, List.nil_append, List.getElem?_drop, show m + (i - m - 2) = i - 2 by omega]

theorem Items.insert {w : World} {lo mid hi : Nat} {fs : FL} {cs : List Value} {bs : Nat → Nat} (h : Items w lo mid fs cs bs) {q : Nat} {r : Int} {xs : List Int} {v : Value} (hv : OwnV w mid hi v q xs) (a : lo ≤ mid) (b : mid ≤ hi) (k : Nat) (hk : k ≤ fs.length) :
    Items w lo hi (fs.take k ++ (r, xs) :: fs.drop k) (cs.take (k * 2) ++ [.int .i64 r, v] ++ cs.drop (k * 2)) (fun j => if j < k then bs j else if j = k then q else bs (j - 1)) := by
  have H := h
  obtain ⟨h1, h2, h3⟩ := h
  have hm : k * 2 ≤ cs.length := by omega
  refine ⟨?_, fun j hj => ?_, fun i j hij hj hi0 hj0 => ?_⟩
  · rw [ins_len _ _ _ hk]
    simp only [List.length_append, List.length_take, List.length_drop, List.length_cons, List.length_nil]; omega
  · rw [ins_len _ _ _ hk] at hj
    rw [ins_getD _ _ _ _ hk, ins2_get _ _ _ _ hm, ins2_get _ _ _ _ hm]
    by_cases e1 : j < k
    · simp only [if_pos e1, if_pos (show j * 2 < k * 2 by omega), if_pos (show j * 2 + 1 < k * 2 by omega)]
      obtain ⟨e0, v1, e2, hv1⟩ := h2 j (by omega)
      exact ⟨e0, v1, e2, hv1.mono (Nat.le_refl _) b⟩
    · by_cases e2 : j = k
      · subst e2
        simp only [if_neg e1, if_pos, if_neg (show ¬ j * 2 < j * 2 by omega), if_neg (show ¬ j * 2 + 1 < j * 2 by omega), if_neg (show ¬ j * 2 + 1 = j * 2 by omega)]
        exact ⟨trivial, v, rfl, hv.mono a (Nat.le_refl _)⟩
      · simp only [if_neg e1, if_neg e2, if_neg (show ¬ j * 2 < k * 2 by omega), if_neg (show ¬ j * 2 = k * 2 by omega), if_neg (show ¬ j * 2 = k * 2 + 1 by omega), if_neg (show ¬ j * 2 + 1 < k * 2 by omega), if_neg (show ¬ j * 2 + 1 = k * 2 by omega), if_neg (show ¬ j * 2 + 1 = k * 2 + 1 by omega)]
        obtain ⟨e0, v1, e3, hv1⟩ := h2 (j - 1) (by omega)
        refine ⟨by rw [show j * 2 - 2 = (j - 1) * 2 by omega]; exact e0, v1, by rw [show j * 2 + 1 - 2 = (j - 1) * 2 + 1 by omega]; exact e3, hv1.mono (Nat.le_refl _) b⟩
  · rw [ins_len _ _ _ hk] at hj
    rw [ins_getD _ _ _ _ hk] at hi0 hj0
    by_cases j1 : j < k
    · have i1 : i < k := by omega
      simp only [if_pos i1, if_pos j1] at hi0 hj0 ⊢
      exact h3 i j hij (by omega) hi0 hj0
    · by_cases j2 : j = k
      · subst j2
        simp only [if_pos hij, if_neg j1, if_pos] at hi0 hj0 ⊢
        have r1 := H.rng (show i < fs.length by omega) hi0
        have r2 := hv.rng hj0
        omega
      · simp only [if_neg j1, if_neg j2] at hj0 ⊢
        have r2 := H.rng (show j - 1 < fs.length by omega) hj0
        by_cases i1 : i < k
        · simp only [if_pos i1] at hi0 ⊢
          exact h3 i (j - 1) (by omega) (by omega) hi0 hj0
        · by_cases i2 : i = k
          · subst i2
            simp only [if_neg i1, if_pos] at hi0 ⊢
            have r1 := hv.rng hi0
            omega
          · simp only [if_neg i1, if_neg i2] at hi0 ⊢
            exact h3 (i - 1) (j - 1) (by omega) (by omega) hi0 hj0
theorem ownsRow_low {w : World} {lo lo' : Nat} {e : TypeId} {K n : Nat} {v : Value} {cs : List Value} (h : w.ownsRow lo e K v n cs) (a : lo' ≤ lo) : w.ownsRow lo' e K v n cs := by
  obtain ⟨h1, h2⟩ := h
  refine ⟨h1, ?_⟩
  rcases h2 with h2 | ⟨g, cap, cur, hv, hb, hr⟩
  · exact .inl h2
  · exact .inr ⟨g, cap, cur, hv, Nat.le_trans a hb, hr⟩
theorem ownC_cells {w : World} {lo hi g n c : Nat} {fs : FL} {cs : List Value} {bs : Nat → Nat} (h : OwnC w lo hi (.slice (some ⟨g, 0, none⟩) n c) fs cs bs) : ∀ j v, cs[j]? = some v → w.cell? ⟨g, j, none⟩ = some v := fun j v hj => by
  have := h.1.cells (g := g) rfl j v hj
  rwa [add_eq, Nat.zero_add] at this
theorem items_one' {w : World} {lo hi : Nat} {fs : FL} {cs : List Value} {bs : Nat → Nat} (h : Items w lo hi fs cs bs) : ∀ x ∈ cs, x.oneCell' = true := fun x hx => by
  obtain ⟨j, hj⟩ := List.getElem?_of_mem hx
  have hlt : j < fs.length * 2 := by have := (List.getElem?_eq_some_iff.1 hj).1; have := h.1; omega
  obtain ⟨e0, v1, e1, hv⟩ := h.2.1 (j / 2) (by omega)
  rcases Nat.mod_two_eq_zero_or_one j with hm | hm
  · rw [show j / 2 * 2 = j by omega, hj] at e0
    injection e0 with e0
    subst e0
    rfl
  · rw [show j / 2 * 2 + 1 = j by omega, hj] at e1
    injection e1 with e1
    subst e1
    obtain ⟨A, c, rfl, _⟩ := hv
    rfl
theorem hasB_iff (l : FL) (r : Int) (xs : List Int) : hasB l r xs = true ↔ ∃ k, k < l.length ∧ decide (cmpF (l.getD k (0, [])).1 (l.getD k (0, [])).2 r xs = 0) = true := by
  constructor
  · intro h
    by_cases hc : ∃ k, k < l.length ∧ decide (cmpF (l.getD k (0, [])).1 (l.getD k (0, [])).2 r xs = 0) = true
    · exact hc
    · exfalso
      unfold hasB at h
      rw [List.any_eq_true] at h
      obtain ⟨g, hg, hs⟩ := h
      obtain ⟨k, hk, rfl⟩ := List.getElem_of_mem hg
      refine hc ⟨k, hk, ?_⟩
      have e : l.getD k (0, []) = l[k] := by simp [List.getD_eq_getElem?_getD, hk]
      rw [e]
      have := cmp_same l[k].1 l[k].2 r xs
      rw [hs] at this
      simpa using this
  · rintro ⟨k, hk, h⟩
    refine hasB_found l r xs k hk ?_
    rw [← cmp_same]
    simpa using h
theorem addI_gr {l : FL} {r : Int} {xs : List Int} (h : hasB l r xs = false) {k : Nat} (hk : k ≤ l.length) (h1 : ∀ j, j < k → decide (cmpF (l.getD j (0, [])).1 (l.getD j (0, [])).2 r xs > 0) = false) (h2 : k < l.length → decide (cmpF (l.getD k (0, [])).1 (l.getD k (0, [])).2 r xs > 0) = true) :
    addI l r xs = l.take k ++ (r, xs) :: l.drop k := by
  refine addI_at l r xs k hk (fun j hj => ?_) (fun hlt => ?_)
  · have := of_decide_eq_false (h1 j hj)
    have hn := hasB_none h (show j < l.length by omega)
    unfold ltAt; omega
  · have := of_decide_eq_true (h2 hlt)
    unfold ltAt; omega
end Go.Proofs.Ytimlpdcambmcjaa

namespace Go.Proofs.Ytimlpdcambmcjaa
open Go.ChangeShapes Go.WideShapes Go.ChangeAt Go.RowKit Go.Sort
open Go.Maps (Keyed int_keyed keyOf_int_mk)
set_option linter.unusedVariables false
set_option linter.unusedSimpArgs false

set_option maxRecDepth 100000 in
theorem lawM : Keyed Try.prog 3 := int_keyed Try.underlying3
set_option maxRecDepth 100000 in
theorem zeroM (w : World) : (zeroValue 3).run Try.prog w = .ok (.int .i64 0) w := by kernel_rfl
/-- The key of a term. -/
abbrev kt (t : Int) : Lit := .int .i64 t
abbrev wf (t : Int) : Prop := (Lit.int .i64 t).wf = true
theorem kt_ne {a b : Int} (h : ¬ a = b) : kt a ≠ kt b := fun e => by injection e with _ e; exact h e

/-- What has turned: no block below base, no row but those of numbers and the matchings. -/
structure Trn (base : Nat) (w w' : World) : Prop where
  os : w'.os = w.os
  tape : w'.tape = w.tape
  output : w'.output = w.output
  size : w.heap.size ≤ w'.heap.size
  block : ∀ k, k < w.heap.size → (k < base ∨ ∃ cs t fr, w.heap[k]? = some (.cells cs t fr) ∧ t ≠ 3 ∧ t ≠ 107) → w'.heap[k]? = w.heap[k]?
theorem Trn.refl (base : Nat) (w : World) : Trn base w w := ⟨rfl, rfl, rfl, Nat.le_refl _, fun _ _ _ => rfl⟩
theorem Trn.trans {base : Nat} {a b c : World} (h : Trn base a b) (k : Trn base b c) : Trn base a c :=
  ⟨k.os.trans h.os, k.tape.trans h.tape, k.output.trans h.output, Nat.le_trans h.size k.size, fun i hi hx => by
    have h1 := h.block i hi hx
    refine (k.block i (Nat.lt_of_lt_of_le hi h.size) ?_).trans h1
    rcases hx with hx | ⟨cs, t, fr, e, h2, h3⟩
    · exact .inl hx
    · exact .inr ⟨cs, t, fr, h1.trans e, h2, h3⟩⟩
theorem Trn.below {base : Nat} {w w' : World} (h : Trn base w w') (hb : base ≤ w.heap.size) : Below base w w' :=
  ⟨h.os, h.tape, h.output, h.size, fun k hk => h.block k (by omega) (.inl hk)⟩
theorem Trn.mono {base base' : Nat} {w w' : World} (h : Trn base w w') (hb : base' ≤ base) : Trn base' w w' :=
  ⟨h.os, h.tape, h.output, h.size, fun k hk hx => h.block k hk (by
    rcases hx with hx | hx
    · exact .inl (by omega)
    · exact .inr hx)⟩
theorem Trn.of_below {base : Nat} {w w' : World} (h : Below w.heap.size w w') : Trn base w w' := ⟨h.os, h.tape, h.output, h.size, fun k hk _ => h.block k hk⟩
theorem Trn.grown_map {base mb : Nat} {w w' : World} {es : Array MapEntry} {ck : Nat} (hg : w.grownBy w' (some mb)) (hb : base ≤ mb) (hm : w.heap[mb]? = some (.map es ck)) : Trn base w w' :=
  ⟨hg.os, hg.tape, hg.output, hg.size, fun k hk hx => hg.block k hk fun e => by
    injection e with e
    subst e
    rcases hx with hx | ⟨cs, t, fr, e, _, _⟩
    · omega
    · rw [hm] at e; injection e with e; cases e⟩
theorem Trn.grown_row {base : Nat} {w w' : World} {v : Value} {n : Nat} {cs : List Value} (hg : w.grownBy w' v.ownBlock) (ho : w.ownsRow base 3 1 v n cs) : Trn base w w' :=
  ⟨hg.os, hg.tape, hg.output, hg.size, fun k hk hx => hg.block k hk fun e => by
    rcases ho.2 with ⟨rfl, _⟩ | ⟨g, cap, cur, rfl, hb, hh, _⟩
    · simp [Value.ownBlock] at e
    · have hgk : g = k := own_some e.symm
      subst hgk
      rcases hx with hx | ⟨cs, t, fr, e, h2, _⟩
      · omega
      · rw [hh] at e
        injection e with e
        injection e with _ e2
        exact h2 e2.symm⟩
theorem Trn.set {base g : Nat} {w : World} {cs : Array Value} (hb : base ≤ g) (hx : Box w g cs 107) (i : Nat) (v : Value) : Trn base w (w.setCell ⟨g, i, none⟩ v) :=
  ⟨rfl, rfl, rfl, by rw [set_size]; exact Nat.le_refl _, fun k hk hc => Below.heap_setCell _ _ _ _ fun e => by
    have e' : k = g := e
    subst e'
    rcases hc with hc | ⟨cs, t, fr, e, _, h3⟩
    · omega
    · unfold Box at hx
      rw [hx] at e
      injection e with e
      injection e with _ e2
      exact h3 e2.symm⟩
theorem Box.trn {base g : Nat} {w w' : World} {cs : Array Value} {t : TypeId} (h : Box w g cs t) (d : Trn base w w') (h1 : t ≠ 3) (h2 : t ≠ 107) : Box w' g cs t :=
  (d.block g h.lt (.inr ⟨cs, t, (0, 0), h, h1, h2⟩)).trans h

/-- Does the map read as the binding p? -/
def LK (D : DataW Unit) (p : PL) : Prop :=
  Maps.IsMap D ∧ ∀ t, Maps.has D (kt t) = decide (t ∈ p.1) ∧ (t ∈ p.1 → D.atKey (kt t) (.lit (.int .i64 0)) = .lit (.int .i64 (pval p t)))
theorem LK.put {D : DataW Unit} {p : PL} (h : LK D p) (hl : p.1.length = p.2.length) {t v : Int} (hn : t ∉ p.1) : LK (D.put (kt t) (.lit (.int .i64 v))) (p.1 ++ [t], p.2 ++ [v]) := by
  refine ⟨h.1.put _ _, fun x => ?_⟩
  by_cases e : x = t
  · subst e
    refine ⟨?_, fun _ => ?_⟩
    · rw [Maps.has_put_same h.1 (show WideAt.IsKeyLit (kt x) from trivial)]; simp
    · rw [Maps.atKey_put_same h.1 (show WideAt.IsKeyLit (kt x) from trivial), pval_new hl hn]
  · refine ⟨?_, fun hx => ?_⟩
    · rw [Maps.has_put_other (kt_ne e), (h.2 x).1]
      simp [e]
    · have hx' : x ∈ p.1 := by simpa [e] using hx
      rw [Maps.atKey_put_other (kt_ne e), (h.2 x).2 hx', pval_old hl hx']

/-- The variables ads were added to p0, which makes q. -/
def AD (p0 q : PL) (ads : List Int) : Prop := q.1 = p0.1 ++ ads ∧ q.2 = p0.2 ++ ads.map (pval q) ∧ q.1.length = q.2.length
theorem AD.start {p : PL} (h : p.1.length = p.2.length) : AD p p [] := ⟨by simp, by simp, h⟩
theorem AD.add {p0 q : PL} {ads : List Int} (h : AD p0 q ads) {t v : Int} (hn : t ∉ q.1) : AD p0 (q.1 ++ [t], q.2 ++ [v]) (ads ++ [t]) := by
  obtain ⟨h1, h2, h3⟩ := h
  refine ⟨by simp only [h1, List.append_assoc], ?_, by simp [h3]⟩
  have e : ads.map (pval (q.1 ++ [t], q.2 ++ [v])) = ads.map (pval q) := List.map_congr_left fun x hx => pval_old h3 (by rw [h1]; exact List.mem_append_right _ hx) t v
  simp only [List.map_append, List.map_cons, List.map_nil]
  rw [pval_new h3 hn, e, ← List.append_assoc, ← h2]

/-- A matching at block g: its map reads as q, ads were added to p0. -/
def MS (w : World) (base g : Nat) (p0 q : PL) (ads : List Int) : Prop :=
  AD p0 q ads ∧ ∃ (mb n : Nat) (v : Value) (D : DataW Unit), Box w g #[.map (some mb), v] 107 ∧ w.ownsMap Try.prog 3 (plainElem Try.prog 3) mb n D ∧ w.ownsRow base 3 1 v ads.length (ads.map (Value.int .i64)) ∧
    LK D q ∧ n ≤ q.1.length ∧ base ≤ mb ∧ base ≤ g

theorem mst_cases (q : PL) (t v : Int) :
    (inB t 10 17 = false ∧ mst q t v = if t = v then some q else none) ∨ (inB t 10 17 = true ∧ t ∈ q.1 ∧ mst q t v = if bval q.1 q.2 t = v then some q else none) ∨ (inB t 10 17 = true ∧ t ∉ q.1 ∧ mst q t v = some (q.1 ++ [t], q.2 ++ [v])) := by
  unfold mst
  by_cases h : inB t 10 17 = true
  · by_cases hm : t ∈ q.1
    · exact .inr (.inl ⟨h, hm, by simp [h, hm]⟩)
    · exact .inr (.inr ⟨h, hm, by simp [h, hm]⟩)
  · have h' : inB t 10 17 = false := by simpa using h
    exact .inl ⟨h', by simp [h']⟩

/-- What one term against one value leaves. -/
def MTOut (w : World) (base g : Nat) (p0 q : PL) (r : Option PL) (e : Ending) (w' : World) : Prop :=
  ∃ q2 ads2, ((r = none ∧ e = .returned (.bool false) ∧ q2 = q) ∨ (r = some q2 ∧ e = .returned (.bool true))) ∧ MS w' base g p0 q2 ads2 ∧ Trn base w w'

theorem ownsMap_trn {w w' : World} {mb n : Nat} {D : DataW Unit} (h : w.ownsMap Try.prog 3 (plainElem Try.prog 3) mb n D) (hg : ∀ es ck, w.heap[mb]? = some (.map es ck) → w'.heap[mb]? = w.heap[mb]?) : w'.ownsMap Try.prog 3 (plainElem Try.prog 3) mb n D := by
  obtain ⟨es, ck, hb, r⟩ := h
  exact ⟨es, ck, (hg es ck hb).trans hb, r⟩
theorem ownsMap_block {w : World} {mb n : Nat} {D : DataW Unit} (h : w.ownsMap Try.prog 3 (plainElem Try.prog 3) mb n D) : ∃ es ck, w.heap[mb]? = some (.map es ck) := by
  obtain ⟨es, ck, hb, _⟩ := h
  exact ⟨es, ck, hb⟩

theorem ownsRow_setBox {w : World} {base g i : Nat} {v u : Value} {n : Nat} {cs : List Value} {bx : Array Value} (h : w.ownsRow base 3 1 v n cs) (hb : Box w g bx 107) : (w.setCell ⟨g, i, none⟩ u).ownsRow base 3 1 v n cs := by
  refine ⟨h.1, ?_⟩
  rcases h.2 with hn | ⟨k, cap, cur, hv, hbk, hk, r⟩
  · exact .inl hn
  · refine .inr ⟨k, cap, cur, hv, hbk, ?_, r⟩
    rw [Below.heap_setCell _ _ _ _ (fun e => by
      have e' : k = g := e
      unfold Box at hb
      rw [e', hb] at hk
      injection hk with hk
      injection hk with _ h2
      exact absurd h2 (by decide))]
    exact hk

set_option maxRecDepth 100000 in
set_option maxHeartbeats 2000000 in
theorem matchTerm_any (base g : Nat) (p0 q : PL) (ads : List Int) (t v : Int) (ht : wf t) (hv : wf v) (hq : q.1.length ≤ 4194304) (ha : ads.length ≤ 2097152) (w : World) (hbw : base ≤ w.heap.size) (h : MS w base g p0 q ads) :
    Calls Try.prog 106 #[.pointer (some ⟨g, 0, none⟩), .int .i64 t, .int .i64 v] w (MTOut w base g p0 q (mst q t v)) := by
  obtain ⟨i0, hi, hz0, hz1, hz2⟩ := info_parts int_info
  have H := Lib.hid h
  obtain ⟨hAD, mb, n, vv, D, hB, hM, hR, hL, hn, hmb, hgb⟩ := h
  have g0 := hB.cell 0
  have g1 := hB.cell 1
  have g3 := hB.frozen 1
  have glt := hB.lt
  simp only [List.getElem?_toArray, List.getElem?_cons_zero, List.getElem?_cons_succ] at g0 g1
  have HB := Lib.hid hB
  have HM := Lib.hid hM
  have HR := Lib.hid hR
  have HL := Lib.hid hL
  have HA := Lib.hid hAD
  clear hB hM hR hL hAD
  rcases mst_cases q t v with ⟨h1, hm⟩ | ⟨h1, hin, hm⟩ | ⟨h1, hin, hm⟩
  · have T1 := Lib.hid h1
    have MM := Lib.hid hm
    clear h1 hm g0 g1 g3
    go_enter Try.func106, Try.ntmps106
    go_wp2_with fail
    refine (impl_IsVar t _).mono ?_
    rintro e w1 ⟨he, rfl⟩
    rw [T1.out] at he
    subst he
    by_cases hs : t = v
    · have d1 : (t == v) = true := by simpa using hs
      have E := Lib.hid (show mst q t v = some q by rw [MM.out, if_pos hs])
      clear hs
      go_wp2
      go_ret
      exact ⟨q, ads, .inr ⟨E.out, rfl⟩, H.out, Trn.refl _ _⟩
    · have d1 : (t == v) = false := by simpa using hs
      have E := Lib.hid (show mst q t v = none by rw [MM.out, if_neg hs])
      clear hs
      go_wp2
      go_ret
      exact ⟨q, ads, .inl ⟨E.out, rfl, rfl⟩, H.out, Trn.refl _ _⟩
  · have T1 := Lib.hid h1
    have MM := Lib.hid hm
    have L1 := Lib.hid ((HL.out.2 t).1.trans (decide_eq_true hin))
    have L2 := Lib.hid ((HL.out.2 t).2 hin)
    have BV := Lib.hid (bval_mem HA.out.2.2 h1 hin)
    clear h1 hm hin
    go_enter Try.func106, Try.ntmps106
    go_wp2_with fail
    refine (impl_IsVar t _).mono ?_
    rintro e w1 ⟨he, rfl⟩
    rw [T1.out] at he
    subst he
    go_wp2_with (at_lookup; refine wpList_lookup_own_ok_int _ rfl _ _ 105 rfl 3 3 .i64 lawM Try.underlying105 Try.underlying3 (zeroM _) mb n D rfl HM.out _ _ rfl (keyOf_int_mk Try.underlying3 ht) ?_; intro c hat hwc
                 have hc : c = pval q t := by
                   have h2 := hat.symm.trans L2.out
                   injection h2 with h2
                   injection h2
                 have HC := Lib.hid hc
                 rw [L1.out]
                 clear hat hc)
    by_cases hs : c = v
    · have d1 : (c == v) = true := by simpa using hs
      have E := Lib.hid (show mst q t v = some q by rw [MM.out, if_pos (by rw [BV.out, ← HC.out]; exact hs)])
      clear hs
      go_wp2
      go_ret
      exact ⟨q, ads, .inr ⟨E.out, show Ending.returned (.bool (c == v)) = .returned (.bool true) by rw [d1]⟩, H.out, Trn.refl _ _⟩
    · have d1 : (c == v) = false := by simpa using hs
      have E := Lib.hid (show mst q t v = none by rw [MM.out, if_neg (by rw [BV.out, ← HC.out]; exact hs)])
      clear hs
      go_wp2
      go_ret
      exact ⟨q, ads, .inl ⟨E.out, show Ending.returned (.bool (c == v)) = .returned (.bool false) by rw [d1], rfl⟩, H.out, Trn.refl _ _⟩
  · have T1 := Lib.hid h1
    have MM := Lib.hid hm
    have L1 := Lib.hid ((HL.out.2 t).1.trans (decide_eq_false hin))
    have HIN := Lib.hid hin
    obtain ⟨es, ck, hes⟩ := ownsMap_block HM.out
    have HES := Lib.hid hes
    clear h1 hm hin hes
    go_enter Try.func106, Try.ntmps106
    go_wp2_with fail
    refine (impl_IsVar t _).mono ?_
    rintro e w1 ⟨he, rfl⟩
    rw [T1.out] at he
    subst he
    go_wp2_with (first
      | (at_lookup; refine wpList_lookup_own_ok_int _ rfl _ _ 105 rfl 3 3 .i64 lawM Try.underlying105 Try.underlying3 (zeroM _) mb n D rfl HM.out _ _ rfl (keyOf_int_mk Try.underlying3 ht) ?_; intro c hat hwc
         rw [L1.out]
         clear hat hwc)
      | (at_mapUpdate
         go_loud (
           refine wpList_mapUpdate_own _ rfl _ _ _ 105 rfl 3 3 lawM Try.underlying105 _ mb n D rfl HM.out (by unfold maxLen; omega) _ _ _ rfl rfl (keyOf_int_mk Try.underlying3 ht) _ [] (plainElem_int Try.underlying3 hv) ?_; intro w1 hown1 hgrow1
           have T2 := Lib.hid (Trn.grown_map (base := base) hgrow1 hmb HES.out)
           have HM1 := Lib.hid hown1
           have hbx : Box w1 g #[.map (some mb), vv] 107 := (hgrow1.block g glt (fun e => by
             injection e with e
             have h1 := HB.out
             have h2 := HES.out
             unfold Box at h1
             rw [e] at h1
             rw [h1] at h2
             injection h2 with h2
             cases h2)).trans HB.out
           have HB1 := Lib.hid hbx
           have hrow : w1.ownsRow base 3 1 vv ads.length (ads.map (Value.int .i64)) := HR.out.kept hgrow1 (.inr fun e => by
             rcases HR.out.2 with ⟨rfl, _⟩ | ⟨gg, cap, cur, rfl, _, hh, _⟩
             · simp [Value.ownBlock] at e
             · have hgk : gg = mb := own_some (by rw [e])
               rw [hgk] at hh
               have h2 := HES.out
               rw [hh] at h2
               injection h2 with h2
               cases h2)
           have HR1 := Lib.hid hrow
           have k0 := hbx.cell 0
           have k1 := hbx.cell 1
           have k3 := hbx.frozen 1
           have klt := hbx.lt
           simp only [List.getElem?_toArray, List.getElem?_cons_zero, List.getElem?_cons_succ] at k0 k1
           have hb1 := T2.out.size
           clear hown1 hgrow1 hbx hrow g0 g1 g3))
      | (at_builtin
         go_loud (
           refine wpList_append_own_at _ rfl _ _ 22 rfl base 3 i0 (.int .i64 0) 1 8 Try.underlying22 hi hz0 hz1 hz2 rfl (by omega) vv ads.length _ rfl (HR1.out.alloc _) ⟨w1.heap.size, 0, none⟩ 1 1 [.int .i64 t] rfl rfl (cell_one_new _ _ _) (by intro u hu; simp at hu; subst hu; rfl) (by unfold maxLen; omega) (by omega) (by (try simp) <;> omega) ?_; intro v2 w2 hown2 hgrow2 hnil2 hloc2
           have T3 := Lib.hid (T2.out.trans ((Trn.of_below (below_alloc w1 _)).trans (Trn.grown_row hgrow2 (HR1.out.alloc (.cells #[.int .i64 t] 3)))))
           have hbx : Box w2 g #[.map (some mb), vv] 107 := (hgrow2.block g (by simp; omega) (fun e => by
             rcases HR1.out.2 with ⟨rfl, _⟩ | ⟨gg, cap, cur, rfl, _, hh, _⟩
             · simp [Value.ownBlock] at e
             · have hgk : gg = g := own_some e.symm
               rw [hgk] at hh
               have h1 := HB1.out
               unfold Box at h1
               rw [h1] at hh
               injection hh with hh
               injection hh with _ h2
               exact absurd h2 (by decide))).trans (HB1.out.step (below_alloc _ _))
           have HB2 := Lib.hid hbx
           have HM2 := Lib.hid (World.ownsMap.kept (World.ownsMap.alloc HM1.out (.cells #[.int .i64 t] 3)) hgrow2 (fun e => by
             rcases HR1.out.2 with ⟨rfl, _⟩ | ⟨gg, cap, cur, rfl, _, hh, _⟩
             · simp [Value.ownBlock] at e
             · have hgk : gg = mb := own_some e.symm
               rw [hgk] at hh
               obtain ⟨es1, ck1, h2⟩ := ownsMap_block HM1.out
               rw [hh] at h2
               injection h2 with h2
               cases h2))
           have HR2 := Lib.hid hown2
           have k4 := hbx.frozen 1
           have k5 := hbx.cell 1
           simp only [List.getElem?_toArray, List.getElem?_cons_zero, List.getElem?_cons_succ] at k5
           have klt2 := hbx.lt
           have hv2 : ∃ X n c, v2 = .slice X n c := by
             rcases hown2.2 with ⟨h, _⟩ | ⟨_, _, _, h, _⟩ <;> exact ⟨_, _, _, h⟩
           obtain ⟨X2, n2, c2, rfl⟩ := hv2
           clear hown2 hgrow2 hbx k0 k1 k3 hnil2 hloc2)))
    go_ret
    exact ⟨_, ads ++ [t], .inr ⟨MM.out, rfl⟩, ⟨HA.out.add HIN.out, mb, n + 1, _, _, HB2.out.set 1 (.slice X2 n2 c2), ownsMap_trn HM2.out (fun es ck h => Below.heap_setCell _ _ _ _ (fun e => by
      have h1 := HB2.out
      unfold Box at h1
      have e' : mb = g := e
      rw [e'] at h
      rw [h1] at h
      injection h with h
      cases h)), by simpa using ownsRow_setBox HR2.out HB2.out, HL.out.put HA.out.2.2 HIN.out, by simp; omega, hmb, hgb⟩, T3.out.trans (Trn.set hgb HB2.out 1 _)⟩
end Go.Proofs.Ytimlpdcambmcjaa

namespace Go.Proofs.Ytimlpdcambmcjaa
open Go.ChangeShapes Go.WideShapes Go.ChangeAt Go.RowKit Go.Sort
open Go.Maps (Keyed int_keyed keyOf_int_mk)
set_option linter.unusedVariables false
set_option linter.unusedSimpArgs false

/-- What an atom against a fact leaves of a matching. -/
def matG (q : PL) (r : Int) (ts : List Int) (r' : Int) (vs : List Int) : Option PL := if r = r' ∧ ts.length = vs.length then mgo q ts vs else none
theorem matG_no {q : PL} {r r' : Int} {ts vs : List Int} (h : ¬ (r = r' ∧ ts.length = vs.length)) : matG q r ts r' vs = none := if_neg h
theorem Ints.trn {w w' : World} {base lo : Nat} {A : Option Addr} {xs : List Int} (h : Ints w lo base A xs) (hb : base ≤ w.heap.size) (d : Trn base w w') : Ints w' lo base A xs := h.keep fun b _ h2 => d.block b (by omega) (.inl h2)
theorem AD.lens {p0 q : PL} {ads : List Int} (h : AD p0 q ads) : q.1.length = p0.1.length + ads.length := by rw [h.1, List.length_append]

theorem getD_mem (l : List Int) {k : Nat} (h : k < l.length) : l.getD k 0 ∈ l := by
  rw [List.getD_eq_getElem?_getD, List.getElem?_eq_getElem h]
  exact List.getElem_mem h
theorem ownsRow_below {w w' : World} {base : Nat} {v : Value} {n : Nat} {cs : List Value} (h : w.ownsRow base 3 1 v n cs) (hb : Below w.heap.size w w') : w'.ownsRow base 3 1 v n cs := by
  refine ⟨h.1, ?_⟩
  rcases h.2 with hn | ⟨k, cap, cur, hv, hbk, hk, r⟩
  · exact .inl hn
  · exact .inr ⟨k, cap, cur, hv, hbk, (hb.block k (Array.getElem?_eq_some_iff.1 hk).1).trans hk, r⟩
theorem MS.below {w w' : World} {base g : Nat} {p0 q : PL} {ads : List Int} (hbw : base ≤ w.heap.size) (h : MS w base g p0 q ads) (hb : Below w.heap.size w w') : MS w' base g p0 q ads := by
  obtain ⟨h1, mb, n, v, D, hB, hM, hR, hr⟩ := h
  exact ⟨h1, mb, n, v, D, hB.step hb, ownsMap_trn hM (fun es ck e => hb.block mb (Array.getElem?_eq_some_iff.1 e).1), ownsRow_below hR hb, hr⟩
theorem MS.ad {w : World} {base g : Nat} {p0 q : PL} {ads : List Int} (h : MS w base g p0 q ads) : AD p0 q ads := h.1

/-- What an atom against a fact leaves: where it fails, some of the terms have matched. -/
def MGOut (w : World) (base g : Nat) (p0 q : PL) (ts vs : List Int) (r : Option PL) (e : Ending) (w' : World) : Prop :=
  ∃ q2 ads2, ((r = none ∧ e = .returned (.bool false) ∧ ∃ k, mgo q (ts.take k) (vs.take k) = some q2) ∨ (r = some q2 ∧ e = .returned (.bool true))) ∧ MS w' base g p0 q2 ads2 ∧ Trn base w w'
set_option maxRecDepth 100000 in
set_option maxHeartbeats 2000000 in
theorem match_any (base g : Nat) (p0 q : PL) (ads : List Int) (A B : Option Addr) (c d : Nat) (r r' : Int) (ts vs : List Int) (hts : ∀ x ∈ ts, wf x) (hvs : ∀ x ∈ vs, wf x) (hl : q.1.length + ts.length ≤ 2097152) (hlv : vs.length ≤ 1048576)
    (w : World) (hbw : base ≤ w.heap.size) (hA : Ints w 0 base A ts) (hB : Ints w 0 base B vs) (h : MS w base g p0 q ads) :
    Calls Try.prog 89 #[.pointer (some ⟨g, 0, none⟩), .agg #[.int .i64 r, .slice A ts.length c], .agg #[.int .i64 r', .slice B vs.length d]] w (MGOut w base g p0 q ts vs (matG q r ts r' vs)) := by
  have B0 := Lib.hid (step (below_alloc w (.cells #[.int .i64 r, .slice A ts.length c] 68)) (below_alloc _ (.cells #[.int .i64 r', .slice B vs.length d] 73)))
  have H0 := Lib.hid h
  have M0 := Lib.hid (MS.below hbw h B0.out)
  have hq0 := h.ad.2.2
  clear h
  by_cases hg : r = r' ∧ ts.length = vs.length
  · have GE := Lib.hid (show matG q r ts r' vs = mgo q ts vs from if_pos hg)
    obtain ⟨hr, hlen⟩ := hg
    subst hr
    have HL := Lib.hid hlen
    have d0 : ((ts.length : Int) != (vs.length : Int)) = false := by simp; omega
    have XF := Lib.hid (Box.new (w.alloc (.cells #[.int .i64 r, .slice A ts.length c] 68)) #[.int .i64 r, .slice B vs.length d] 73)
    rw [al_size] at XF
    have HA := Lib.hid (hA.below B0.out hbw)
    have HB := Lib.hid (hB.below B0.out hbw)
    have HT := Lib.hid hts
    have HV := Lib.hid hvs
    have hlv' : (vs.length : Int) ≤ 1048576 := by omega
    have hs0 : base ≤ ((w.alloc (.cells #[.int .i64 r, .slice A ts.length c] 68)).alloc (.cells #[.int .i64 r, .slice B vs.length d] 73)).heap.size := Nat.le_trans hbw B0.out.size
    clear hA hB hts hvs hlen
    go_enter Try.func89, Try.ntmps89
    go_wp2
    go_loopw [7, 8, 26] (fun _ _ i wr => ∃ (k : Nat) (qk : PL) (adk : List Int), k ≤ ts.length ∧ i = .int .i64 k ∧ Hid (mgo q (ts.take k) (vs.take k) = some qk) ∧ Hid (MS wr base g p0 qk adk) ∧ Hid (Trn base ((w.alloc (.cells #[.int .i64 r, .slice A ts.length c] 68)).alloc (.cells #[.int .i64 r, .slice B vs.length d] 73)) wr)) (fun _ _ i _ => ts.length - (intOf i).toNat)
    case atStart => exact ⟨0, q, ads, by omega, rfl, Lib.hid (by simp [mgo]), M0, Lib.hid (Trn.refl _ _)⟩
    case round =>
      obtain ⟨k, qk, adk, hk, rfl, hm, hms, htr⟩ := hrel
      by_cases hlt : k < ts.length
      · have hk0 : (0 : Int) ≤ (k : Int) := by omega
        have hk1 : (k : Int) < (ts.length : Int) := by omega
        have hlt2 : k < vs.length := by have := HL.out; omega
        have hk2 : (k : Int) < (vs.length : Int) := by omega
        have hbk : base ≤ wr.heap.size := Nat.le_trans hs0 htr.out.size
        have X := Lib.hid (XF.out.trn htr.out (by decide) (by decide))
        have x1 := X.out.cell 1
        have x2 := X.out.frozen 1
        simp only [List.getElem?_toArray, List.getElem?_cons_zero, List.getElem?_cons_succ] at x1
        obtain ⟨b, off, rfl, _, _, e1⟩ := (HA.out.trn hs0 htr.out).at_ hlt
        obtain ⟨b', off', rfl, _, _, e2⟩ := (HB.out.trn hs0 htr.out).at_ hlt2
        have W1 := Lib.hid (HT.out _ (getD_mem ts hlt))
        have W2 := Lib.hid (HV.out _ (getD_mem vs hlt2))
        generalize hx : ts.getD k 0 = x at e1 W1
        generalize hy : vs.getD k 0 = y at e2 W2
        have HX := Lib.hid hx
        have HY := Lib.hid hy
        have ql := mgo_len _ _ _ _ hm.out hq0
        have al := hms.out.ad.lens
        have tl : (ts.take k).length ≤ ts.length := by rw [List.length_take]; omega
        clear hx hy
        go_wp2_with fail
        refine (matchTerm_any base g p0 qk adk x y W1.out W2.out (by omega) (by omega) _ hbk hms.out).mono ?_
        rintro e w1 ⟨q2, ads2, hr, hms2, htr2⟩
        have HM2 := Lib.hid hms2
        have HT2 := Lib.hid htr2
        clear hms2 htr2
        rcases hr with ⟨hn, rfl, hqq⟩ | ⟨hn, rfl⟩
        · have HN := Lib.hid hn
          have HQQ := Lib.hid hqq
          clear hn hqq
          go_wp2
          go_ret
          exact ⟨q2, ads2, .inl ⟨by rw [GE.out, mgo_fail HL.out hlt HX.out HY.out hm.out HN.out], rfl, k, by rw [HQQ.out]; exact hm.out⟩, HM2.out, ((Trn.of_below B0.out).mono hbw).trans (htr.out.trans HT2.out)⟩
        · have HN := Lib.hid hn
          clear hn
          go_wp2
          go_round
          case rel => exact ⟨k + 1, q2, ads2, by omega, by go_num, Lib.hid (by rw [mgo_step HL.out hlt HX.out HY.out hm.out, HN.out]), HM2, Lib.hid (htr.out.trans HT2.out)⟩
          case measure => simp [intOf]; omega
      · obtain rfl : k = ts.length := by omega
        go_wp2
        go_ret
        refine ⟨qk, adk, .inr ⟨?_, rfl⟩, hms.out, (Trn.of_below B0.out).trans htr.out⟩
        have := hm.out
        rw [List.take_length, HL.out, List.take_length] at this
        rw [GE.out, this]
  · have GE := Lib.hid (matG_no (q := q) hg)
    have HG := Lib.hid hg
    have hd : r = r' → ((ts.length : Int) != (vs.length : Int)) = true := fun e => by
      have := fun h => HG.out ⟨e, h⟩
      simp; omega
    clear hg
    by_cases hr : r = r'
    · subst hr
      have d0 := hd rfl
      clear hd
      go_enter Try.func89, Try.ntmps89
      go_wp2
      go_ret
      exact ⟨q, ads, .inl ⟨GE.out, rfl, 0, by simp [mgo]⟩, M0.out, Trn.of_below B0.out⟩
    · have d0 : (r != r') = true := by simpa using hr
      clear hd
      go_enter Try.func89, Try.ntmps89
      go_wp2
      go_ret
      exact ⟨q, ads, .inl ⟨GE.out, rfl, 0, by simp [mgo]⟩, M0.out, Trn.of_below B0.out⟩
end Go.Proofs.Ytimlpdcambmcjaa

namespace Go.Proofs.Ytimlpdcambmcjaa
open Go.ChangeShapes Go.WideShapes Go.ChangeAt Go.RowKit Go.Sort
open Go.Maps (Keyed int_keyed keyOf_int_mk)
set_option linter.unusedVariables false
set_option linter.unusedSimpArgs false

theorem LK.skip {D : DataW Unit} {p : PL} (h : LK D p) (hl : p.1.length = p.2.length) {t v : Int} (hin : t ∈ p.1) : LK D (p.1 ++ [t], p.2 ++ [v]) := ⟨h.1, fun x => by
  have e : x ∈ p.1 ++ [t] ↔ x ∈ p.1 := by
    simp only [List.mem_append, List.mem_singleton]
    exact ⟨fun h => h.elim id (fun h => h ▸ hin), .inl⟩
  refine ⟨?_, fun hx => ?_⟩
  · rw [(h.2 x).1]
    exact decide_eq_decide.2 e.symm
  · rw [(h.2 x).2 (e.1 hx), pval_old hl (e.1 hx)]⟩
theorem LK.nil : LK (.map []) ([], []) := ⟨⟨[], rfl⟩, fun x => ⟨rfl, fun h => by simp at h⟩⟩
theorem take_lens {ts vs : List Int} (h : ts.length = vs.length) (k : Nat) : (ts.take k).length = (vs.take k).length := by rw [List.length_take, List.length_take, h]

set_option maxRecDepth 100000 in
set_option maxHeartbeats 2000000 in
theorem start_any (A B : Option Addr) (c d : Nat) (ts vs : List Int) (hts : ∀ x ∈ ts, wf x) (hvs : ∀ x ∈ vs, wf x) (hlen : ts.length = vs.length) (hl : ts.length ≤ 1048576) (w : World) (hA : RI w A ts) (hB : RI w B vs) :
    Calls Try.prog 87 #[.agg #[.slice A ts.length c, .slice B vs.length d]] w fun e w' => ∃ g, e = .returned (.pointer (some ⟨g, 0, none⟩)) ∧ MS w' w.heap.size g (ts, vs) (ts, vs) [] ∧ Below w.heap.size w w' := by
  have hmm := @run_makeMap Try.prog
  have HL := Lib.hid hlen
  have HA := Lib.hid hA
  have HB := Lib.hid hB
  have HT := Lib.hid hts
  have HV := Lib.hid hvs
  have hlv : (vs.length : Int) ≤ 1048576 := by omega
  have hlt' : (ts.length : Int) ≤ 1048576 := by omega
  have B0 := Lib.hid (step (below_alloc w (.cells #[.slice A ts.length c, .slice B vs.length d] 50)) (below_alloc _ (.map #[] 0)))
  have X0 := Lib.hid ((Box.new w #[.slice A ts.length c, .slice B vs.length d] 50).step (below_alloc _ (.map #[] 0)))
  have M0 := Lib.hid (World.ownsMap_made (w.alloc (.cells #[.slice A ts.length c, .slice B vs.length d] 50)) Try.prog 3 (plainElem (H := Unit) Try.prog 3))
  rw [al_size] at M0
  obtain ⟨mb, hmb⟩ : ∃ mb, mb = w.heap.size + 1 := ⟨_, rfl⟩
  rw [← hmb] at M0
  have MB := Lib.hid hmb
  clear hA hB hts hvs hlen
  go_enter Try.func87, Try.ntmps87
  go_wp2
  rw [← hmb]
  clear hmb
  go_loopw [4, 5, 6, 7, 12] (fun _ _ _ _ i wr => ∃ (k n : Nat) (D : DataW Unit), k ≤ ts.length ∧ i = .int .i64 k ∧ Hid (wr.ownsMap Try.prog 3 (plainElem Try.prog 3) mb n D) ∧ n ≤ k ∧ Hid (LK D (ts.take k, vs.take k)) ∧ Hid (Below w.heap.size w wr) ∧ Hid (Box wr w.heap.size #[.slice A ts.length c, .slice B vs.length d] 50)) (fun _ _ _ _ i _ => ts.length - (intOf i).toNat)
  case atStart => exact ⟨0, 0, _, by omega, rfl, M0, Nat.le_refl _, Lib.hid LK.nil, B0, X0⟩
  case round =>
    obtain ⟨k, n, D, hk, rfl, hM, hn, hL, hBl, hX⟩ := hrel
    by_cases hlt : k < ts.length
    · have hlt2 : k < vs.length := by have := HL.out; omega
      have hk0 : (0 : Int) ≤ (k : Int) := by omega
      have hk1 : (k : Int) < (ts.length : Int) := by omega
      have hk2 : (k : Int) < (vs.length : Int) := by omega
      have x1 := hX.out.cell 1
      have x2 := hX.out.frozen 1
      simp only [List.getElem?_toArray, List.getElem?_cons_zero, List.getElem?_cons_succ] at x1
      obtain ⟨b, off, rfl, _, e1⟩ := (HA.out.step hBl.out).at_ hlt
      obtain ⟨b', off', rfl, _, e2⟩ := (HB.out.step hBl.out).at_ hlt2
      have W1 := Lib.hid (HT.out _ (getD_mem ts hlt))
      have W2 := Lib.hid (HV.out _ (getD_mem vs hlt2))
      generalize hx : ts.getD k 0 = x at e1 W1
      generalize hy : vs.getD k 0 = y at e2 W2
      have HX := Lib.hid hx
      have HY := Lib.hid hy
      clear hx hy
      by_cases hin : x ∈ ts.take k
      · have L1 := Lib.hid ((hL.out.2 x).1.trans (decide_eq_true hin))
        have HI := Lib.hid hin
        clear hin
        go_wp2_with (at_lookup; refine wpList_lookup_own_ok_int _ rfl _ _ 105 rfl 3 3 .i64 lawM Try.underlying105 Try.underlying3 (zeroM _) mb n D rfl hM.out _ _ rfl (keyOf_int_mk Try.underlying3 W1.out) ?_; intro c hat hwc
                     rw [L1.out]
                     clear hat hwc)
        go_round
        case rel => exact ⟨k + 1, n, D, by omega, by go_num, hM, by omega, Lib.hid (by rw [takeI' ts hlt HX.out, takeI' vs hlt2 HY.out]; exact hL.out.skip (take_lens HL.out k) HI.out), hBl, hX⟩
        case measure => simp [intOf]; omega
      · have L1 := Lib.hid ((hL.out.2 x).1.trans (decide_eq_false hin))
        have HI := Lib.hid hin
        clear hin
        go_wp2_with (first
          | (at_lookup; refine wpList_lookup_own_ok_int _ rfl _ _ 105 rfl 3 3 .i64 lawM Try.underlying105 Try.underlying3 (zeroM _) mb n D rfl hM.out _ _ rfl (keyOf_int_mk Try.underlying3 W1.out) ?_; intro c hat hwc
             rw [L1.out]
             clear hat hwc)
          | (at_mapUpdate
             go_loud (
               refine wpList_mapUpdate_own _ rfl _ _ _ 105 rfl 3 3 lawM Try.underlying105 _ mb n D rfl hM.out (by unfold maxLen; omega) _ _ _ rfl rfl (keyOf_int_mk Try.underlying3 W1.out) _ [] (plainElem_int Try.underlying3 W2.out) ?_; intro w1 hown1 hgrow1
               have HM1 := Lib.hid hown1
               have hb1 : Below w.heap.size w w1 := hBl.out.grown hgrow1 (by have := hBl.out.size; omega) (fun k hk => by injection hk with hk; have := MB.out; omega)
               have HB1 := Lib.hid hb1
               have HX1 := Lib.hid ((hgrow1.block _ hX.out.lt (fun e => by injection e with e; have := MB.out; omega)).trans hX.out)
               clear hown1 hgrow1 hb1)))
        go_round
        case rel => exact ⟨k + 1, n + 1, _, by omega, by go_num, HM1, by omega, Lib.hid (by rw [takeI' ts hlt HX.out, takeI' vs hlt2 HY.out]; exact hL.out.put (take_lens HL.out k) HI.out), HB1, HX1⟩
        case measure => simp [intOf]; omega
    · obtain rfl : k = ts.length := by omega
      have HL2 := Lib.hid (show LK D (ts, vs) by have := hL.out; rwa [List.take_length, HL.out, List.take_length] at this)
      go_wp2
      go_ret
      exact ⟨_, rfl, ⟨AD.start HL.out, mb, n, _, D, Box.new _ _ _, hM.out.alloc _, World.ownsRow_nil _ _ _ _, HL2.out, hn, by have := MB.out; omega, hBl.out.size⟩, step hBl.out (below_alloc _ _)⟩
end Go.Proofs.Ytimlpdcambmcjaa
