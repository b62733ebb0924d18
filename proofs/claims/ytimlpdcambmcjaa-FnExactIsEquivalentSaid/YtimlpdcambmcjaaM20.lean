/- A matching started from a binding that may name a variable twice. Conditions: none beyond each theorem's own. The search by choices, by valuations: a mapping whose head has given values exists exactly if the search from these values on finds one. Conditions: none beyond each theorem's own. What the terms are worth: the program's valuesOf, and TupleOf of both. Conditions: none beyond each theorem's own. What extend leaves. Conditions: none beyond each theorem's own. What the two functions IsMapping answer. Conditions: none beyond each theorem's own. AddFact, as the laws call it. Conditions: none beyond each theorem's own. Copies of atoms and of queries; an atom struck out of a row. Conditions: none beyond each theorem's own. -/
import Derived.Test.YtimlpdcambmcjaaM4
import Derived.Test.YtimlpdcambmcjaaM6
import Derived.Test.YtimlpdcambmcjaaM19
import Derived.Test.YtimlpdcambmcjaaM18
import Derived.Deep.RegionLaw
import Derived.Test.YtimlpdcambmcjaaM17
import Derived.Deep.DeepCutAuto
import Derived.Test.YtimlpdcambmcjaaM3
import Derived.Test.YtimlpdcambmcjaaM8
import Derived.Test.YtimlpdcambmcjaaMAddS
import Derived.Lib.LazyBuf
import Derived.Lib.QuietBelow
import Derived.Deep.Cut
import Derived.Lib.SliceRun

namespace Go.Proofs.Ytimlpdcambmcjaa
open Go.ChangeShapes Go.WideShapes Go.ChangeAt Go.RowKit Go.Sort
open Go.Maps (Keyed int_keyed keyOf_int_mk)
set_option linter.unusedVariables false
set_option linter.unusedSimpArgs false

/-- The first value of each variable, among the first k. -/
def ddN (ts vs : List Int) : Nat → PL
  | 0 => ([], [])
  | k + 1 => if ts.getD k 0 ∈ (ddN ts vs k).1 then ddN ts vs k else ((ddN ts vs k).1 ++ [ts.getD k 0], (ddN ts vs k).2 ++ [vs.getD k 0])
theorem ddN_skip {ts vs : List Int} {k : Nat} {x : Int} (hx : ts.getD k 0 = x) (h : x ∈ (ddN ts vs k).1) : ddN ts vs (k + 1) = ddN ts vs k := by
  show (if ts.getD k 0 ∈ (ddN ts vs k).1 then _ else _) = _
  rw [hx, if_pos h]
theorem ddN_add {ts vs : List Int} {k : Nat} {x y : Int} (hx : ts.getD k 0 = x) (hy : vs.getD k 0 = y) (h : x ∉ (ddN ts vs k).1) : ddN ts vs (k + 1) = ((ddN ts vs k).1 ++ [x], (ddN ts vs k).2 ++ [y]) := by
  show (if ts.getD k 0 ∈ (ddN ts vs k).1 then _ else _) = _
  rw [hx, hy, if_neg h]
theorem ddN_len (ts vs : List Int) : ∀ k, (ddN ts vs k).1.length ≤ k
  | 0 => Nat.le_refl _
  | k + 1 => by
    have ih := ddN_len ts vs k
    by_cases h : ts.getD k 0 ∈ (ddN ts vs k).1
    · rw [ddN_skip rfl h]; omega
    · rw [ddN_add rfl rfl h, List.length_append]
      show _ + 1 ≤ _
      omega
theorem ddN_eq (ts vs : List Int) : ∀ k, (ddN ts vs k).1.length = (ddN ts vs k).2.length
  | 0 => rfl
  | k + 1 => by
    have ih := ddN_eq ts vs k
    by_cases h : ts.getD k 0 ∈ (ddN ts vs k).1
    · rw [ddN_skip rfl h]; exact ih
    · rw [ddN_add rfl rfl h, List.length_append, List.length_append, ih]
      rfl
theorem ddN_gd {ts vs : List Int} (ht : allB 10 17 ts = true) (hv : allB 0 9 vs = true) (hl : ts.length = vs.length) : ∀ k, k ≤ ts.length → Gd (ddN ts vs k)
  | 0, _ => gd_nil
  | k + 1, hk => by
    have ih := ddN_gd ht hv hl k (by omega)
    by_cases h : ts.getD k 0 ∈ (ddN ts vs k).1
    · rw [ddN_skip rfl h]; exact ih
    · rw [ddN_add rfl rfl h]
      have h1 : ts.getD k 0 ∈ ts := by rw [List.getD_eq_getElem?_getD, List.getElem?_eq_getElem (by omega)]; exact List.getElem_mem _
      have h2 : vs.getD k 0 ∈ vs := by rw [List.getD_eq_getElem?_getD, List.getElem?_eq_getElem (by omega)]; exact List.getElem_mem _
      obtain ⟨a, b, c, d⟩ := ih
      refine ⟨by rw [List.length_append, List.length_append, a]; rfl, ?_, ?_, ?_⟩
      · refine List.nodup_append.2 ⟨b, by simp, ?_⟩
        intro x hx y hy e
        simp only [List.mem_singleton] at hy
        subst hy
        exact h (e ▸ hx)
      · show allB 10 17 ((ddN ts vs k).1 ++ [ts.getD k 0]) = true
        rw [allB_snoc, c]
        have := allB_mem ht h1
        show (true && inB _ _ _) = true
        unfold inB
        rw [Bool.true_and, Bool.and_eq_true]
        exact ⟨decide_eq_true this.1, decide_eq_true this.2⟩
      · show allB 0 9 ((ddN ts vs k).2 ++ [vs.getD k 0]) = true
        rw [allB_snoc, d]
        have := allB_mem hv h2
        show (true && inB _ _ _) = true
        unfold inB
        rw [Bool.true_and, Bool.and_eq_true]
        exact ⟨decide_eq_true this.1, decide_eq_true this.2⟩

set_option maxRecDepth 100000 in
set_option maxHeartbeats 2000000 in
theorem start_dd (A B : Option Addr) (c d : Nat) (ts vs : List Int) (hts : ∀ x ∈ ts, wf x) (hvs : ∀ x ∈ vs, wf x) (hlen : ts.length = vs.length) (hl : ts.length ≤ 1048576) (w : World) (hA : RI w A ts) (hB : RI w B vs) :
    Calls Try.prog 87 #[.agg #[.slice A ts.length c, .slice B vs.length d]] w fun e w' => ∃ g, e = .returned (.pointer (some ⟨g, 0, none⟩)) ∧ MS w' w.heap.size g (ddN ts vs ts.length) (ddN ts vs ts.length) [] ∧ Below w.heap.size w w' := by
  have hmm := @run_makeMap Try.prog
  have HL := Lib.hid hlen
  have HA := Lib.hid hA
  have HB := Lib.hid hB
  have HT := Lib.hid hts
  have HV := Lib.hid hvs
  have hlv : (vs.length : Int) ≤ 1048576 := by omega
  have hlt' : (ts.length : Int) ≤ 1048576 := by omega
  have B0 := Lib.hid (step (below_alloc w (.cells #[.slice A ts.length c, .slice B vs.length d] 50)) (below_alloc _ (.map #[] 0)))
  have X0 := Lib.hid ((Box.new w #[.slice A ts.length c, .slice B vs.length d] 50).step (below_alloc _ (.map #[] 0)))
  have M0 := Lib.hid (World.ownsMap_made (w.alloc (.cells #[.slice A ts.length c, .slice B vs.length d] 50)) Try.prog 3 (plainElem (H := Unit) Try.prog 3))
  rw [al_size] at M0
  obtain ⟨mb, hmb⟩ : ∃ mb, mb = w.heap.size + 1 := ⟨_, rfl⟩
  rw [← hmb] at M0
  have MB := Lib.hid hmb
  clear hA hB hts hvs hlen
  go_enter Try.func87, Try.ntmps87
  go_wp2
  rw [← hmb]
  clear hmb
  go_loopw [4, 5, 6, 7, 12] (fun _ _ _ _ i wr => ∃ (k n : Nat) (D : DataW Unit), k ≤ ts.length ∧ i = .int .i64 k ∧ Hid (wr.ownsMap Try.prog 3 (plainElem Try.prog 3) mb n D) ∧ n ≤ (ddN ts vs k).1.length ∧ Hid (LK D (ddN ts vs k)) ∧ Hid (Below w.heap.size w wr) ∧ Hid (Box wr w.heap.size #[.slice A ts.length c, .slice B vs.length d] 50)) (fun _ _ _ _ i _ => ts.length - (intOf i).toNat)
  case atStart => exact ⟨0, 0, _, by omega, rfl, M0, Nat.le_refl _, Lib.hid LK.nil, B0, X0⟩
  case round =>
    obtain ⟨k, n, D, hk, rfl, hM, hn, hL, hBl, hX⟩ := hrel
    by_cases hlt : k < ts.length
    · have hlt2 : k < vs.length := by have := HL.out; omega
      have hk0 : (0 : Int) ≤ (k : Int) := by omega
      have hk1 : (k : Int) < (ts.length : Int) := by omega
      have hk2 : (k : Int) < (vs.length : Int) := by omega
      have x1 := hX.out.cell 1
      have x2 := hX.out.frozen 1
      simp only [List.getElem?_toArray, List.getElem?_cons_zero, List.getElem?_cons_succ] at x1
      obtain ⟨b, off, rfl, _, e1⟩ := (HA.out.step hBl.out).at_ hlt
      obtain ⟨b', off', rfl, _, e2⟩ := (HB.out.step hBl.out).at_ hlt2
      have W1 := Lib.hid (HT.out _ (getD_mem ts hlt))
      have W2 := Lib.hid (HV.out _ (getD_mem vs hlt2))
      generalize hx : ts.getD k 0 = x at e1 W1
      generalize hy : vs.getD k 0 = y at e2 W2
      have HX := Lib.hid hx
      have HY := Lib.hid hy
      have DE := Lib.hid (ddN_len ts vs k)
      clear hx hy
      by_cases hin : x ∈ (ddN ts vs k).1
      · have L1 := Lib.hid ((hL.out.2 x).1.trans (decide_eq_true hin))
        have HI := Lib.hid hin
        clear hin
        go_wp2_with (at_lookup; refine wpList_lookup_own_ok_int _ rfl _ _ 105 rfl 3 3 .i64 lawM Try.underlying105 Try.underlying3 (zeroM _) mb n D rfl hM.out _ _ rfl (keyOf_int_mk Try.underlying3 W1.out) ?_; intro c hat hwc
                     rw [L1.out]
                     clear hat hwc)
        go_round
        case rel => exact ⟨k + 1, n, D, by omega, by go_num, hM, (by rw [ddN_skip HX.out HI.out]; exact hn), Lib.hid (by rw [ddN_skip HX.out HI.out]; exact hL.out), hBl, hX⟩
        case measure => simp [intOf]; omega
      · have L1 := Lib.hid ((hL.out.2 x).1.trans (decide_eq_false hin))
        have HI := Lib.hid hin
        clear hin
        go_wp2_with (first
          | (at_lookup; refine wpList_lookup_own_ok_int _ rfl _ _ 105 rfl 3 3 .i64 lawM Try.underlying105 Try.underlying3 (zeroM _) mb n D rfl hM.out _ _ rfl (keyOf_int_mk Try.underlying3 W1.out) ?_; intro c hat hwc
             rw [L1.out]
             clear hat hwc)
          | (at_mapUpdate
             go_loud (
               refine wpList_mapUpdate_own _ rfl _ _ _ 105 rfl 3 3 lawM Try.underlying105 _ mb n D rfl hM.out (by have := DE.out; unfold maxLen; omega) _ _ _ rfl rfl (keyOf_int_mk Try.underlying3 W1.out) _ [] (plainElem_int Try.underlying3 W2.out) ?_; intro w1 hown1 hgrow1
               have HM1 := Lib.hid hown1
               have hb1 : Below w.heap.size w w1 := hBl.out.grown hgrow1 (by have := hBl.out.size; omega) (fun k hk => by injection hk with hk; have := MB.out; omega)
               have HB1 := Lib.hid hb1
               have HX1 := Lib.hid ((hgrow1.block _ hX.out.lt (fun e => by injection e with e; have := MB.out; omega)).trans hX.out)
               clear hown1 hgrow1 hb1)))
        go_round
        case rel => exact ⟨k + 1, n + 1, _, by omega, by go_num, HM1, (by rw [ddN_add HX.out HY.out HI.out, List.length_append]; show n + 1 ≤ _ + 1; omega), Lib.hid (by rw [ddN_add HX.out HY.out HI.out]; exact hL.out.put (ddN_eq ts vs k) HI.out), HB1, HX1⟩
        case measure => simp [intOf]; omega
    · obtain rfl : k = ts.length := by omega
      have HL2 := Lib.hid hL.out
      go_wp2
      go_ret
      exact ⟨_, rfl, ⟨AD.start (ddN_eq ts vs ts.length), mb, n, _, D, Box.new _ _ _, hM.out.alloc _, World.ownsRow_nil _ _ _ _, HL2.out, hn, by have := MB.out; omega, hBl.out.size⟩, step hBl.out (below_alloc _ _)⟩
end Go.Proofs.Ytimlpdcambmcjaa

namespace Go.Proofs.Ytimlpdcambmcjaa
open Go.ChangeShapes Go.WideShapes Go.ChangeAt Go.RowKit Go.Sort
set_option linter.unusedVariables false
set_option linter.unusedSimpArgs false

/-- A term's value. -/
def vt (σ : Int → Int) (t : Int) : Int := if inB t 10 17 = true then σ t else t
/-- The valuation has the values of p. -/
def Agr (σ : Int → Int) (p : PL) : Prop := p.1.length = p.2.length ∧ ∀ t ∈ p.1, σ t = pval p t
/-- An atom is a fact under the valuation. -/
def satA (σ : Int → Int) (fs : FL) (a : Int × List Int) : Prop := ∃ f ∈ fs, a.1 = f.1 ∧ a.2.map (vt σ) = f.2
theorem agr_nil (σ : Int → Int) : Agr σ ([], []) := ⟨rfl, fun t ht => by cases ht⟩
theorem mst_agr {σ : Int → Int} {p : PL} (h : Agr σ p) {t v : Int} (hv : vt σ t = v) : ∃ q, mst p t v = some q ∧ Agr σ q := by
  unfold vt at hv
  unfold mst
  by_cases hb : inB t 10 17 = true
  · rw [if_pos hb] at hv ⊢
    by_cases hm : t ∈ p.1
    · rw [if_pos hm, if_pos (by rw [bval_mem h.1 hb hm, ← h.2 t hm]; exact hv)]
      exact ⟨p, rfl, h⟩
    · rw [if_neg hm]
      refine ⟨_, rfl, by simp [h.1], fun x hx => ?_⟩
      rcases List.mem_append.1 hx with h1 | h1
      · rw [pval_old h.1 h1]; exact h.2 x h1
      · have e : x = t := by simpa using h1
        subst e
        rw [pval_new h.1 hm]; exact hv
  · rw [if_neg hb] at hv ⊢
    rw [if_pos hv]
    exact ⟨p, rfl, h⟩
theorem mgo_agr {σ : Int → Int} : ∀ (ts vs : List Int) (p : PL), Agr σ p → ts.map (vt σ) = vs → ∃ q, mgo p ts vs = some q ∧ Agr σ q
  | [], vs, p, h, _ => ⟨p, mgo_nil p vs, h⟩
  | t :: ts, [], p, h, e => by simp at e
  | t :: ts, v :: vs, p, h, e => by
    have e1 : vt σ t = v ∧ ts.map (vt σ) = vs := by simpa using e
    obtain ⟨r, h1, h2⟩ := mst_agr h e1.1
    obtain ⟨q, h3, h4⟩ := mgo_agr ts vs r h2 e1.2
    refine ⟨q, ?_, h4⟩
    show (mst p t v).bind _ = _
    rw [h1]
    exact h3
theorem enum_agr {σ : Int → Int} {fs : FL} : ∀ (ats : FL) (p : PL), Agr σ p → (∀ a ∈ ats, satA σ fs a) → ∃ q ∈ enum fs ats p, Agr σ q
  | [], p, h, _ => ⟨p, by simp [enum], h⟩
  | a :: ats, p, h, hs => by
    obtain ⟨f, hf, e1, e2⟩ := hs a (by simp)
    obtain ⟨r, h1, h2⟩ := mgo_agr a.2 f.2 p h e2
    have hm : mtF p a f = some r := by
      unfold mtF matB
      rw [if_pos ⟨e1, by rw [← e2, List.length_map], h.1⟩]
      exact h1
    obtain ⟨q, h3, h4⟩ := enum_agr ats r h2 fun b hb => hs b (by simp [hb])
    refine ⟨q, ?_, h4⟩
    unfold enum extA
    rw [List.mem_flatMap]
    exact ⟨r, List.mem_filterMap.2 ⟨f, hf, hm⟩, h3⟩
theorem pre_val {p q : PL} (h : Pre p q) (hl : p.1.length = p.2.length) {t : Int} (ht : t ∈ p.1) : pval q t = pval p t := by
  obtain ⟨u, v, rfl, _⟩ := h
  have h1 := List.idxOf_lt_length_iff.2 ht
  simp only [pval]
  rw [List.idxOf_append, if_pos ht, List.getD_eq_getElem?_getD, List.getElem?_append_left (by omega), ← List.getD_eq_getElem?_getD]
theorem pre_len {p q : PL} (h : Pre p q) (hl : p.1.length = p.2.length) : q.1.length = q.2.length := by
  obtain ⟨u, v, rfl, e⟩ := h
  simp [hl, e]
theorem mst_val {p q r : PL} {t v : Int} (h : mst p t v = some q) (hl : p.1.length = p.2.length) (hr : Pre q r) : vt (pval r) t = v := by
  have hq := pre_len (mst_pre h) hl
  by_cases hb : inB t 10 17 = true
  · have hm := mst_has h hb
    unfold vt
    rw [if_pos hb, pre_val hr hq hm]
    unfold mst at h
    rw [if_pos hb] at h
    by_cases hp : t ∈ p.1
    · rw [if_pos hp] at h
      split at h
      · rename_i hv
        injection h with h
        rw [← h, ← hv, bval_mem hl hb hp]
      · cases h
    · rw [if_neg hp] at h
      injection h with h
      rw [← h, pval_new hl hp]
  · unfold vt
    rw [if_neg hb]
    unfold mst at h
    rw [if_neg hb] at h
    split at h
    · assumption
    · cases h
theorem mgo_val : ∀ (ts vs : List Int) (p q r : PL), mgo p ts vs = some q → p.1.length = p.2.length → ts.length = vs.length → Pre q r → ts.map (vt (pval r)) = vs
  | [], [], _, _, _, _, _, _, _ => rfl
  | [], _ :: _, _, _, _, _, _, h, _ => by simp at h
  | _ :: _, [], _, _, _, _, _, h, _ => by simp at h
  | t :: ts, v :: vs, p, q, r, h, hl, hn, hr => by
    change (mst p t v).bind _ = _ at h
    cases hm : mst p t v with
    | none => rw [hm] at h; cases h
    | some s =>
      rw [hm] at h
      have h' : mgo s ts vs = some q := h
      have h1 := mgo_pre ts vs s q h'
      have h2 := mgo_val ts vs s q r h' (pre_len (mst_pre hm) hl) (by simpa using hn) hr
      rw [List.map_cons, h2, mst_val hm hl (h1.1.trans hr)]
theorem enum_val {fs : FL} : ∀ (ats : FL) (p q r : PL), q ∈ enum fs ats p → p.1.length = p.2.length → Pre q r → ∀ a ∈ ats, satA (pval r) fs a
  | [], _, _, _, _, _, _ => fun a ha => by cases ha
  | a :: ats, p, q, r, h, hl, hr => fun b hb => by
    unfold enum at h
    rw [List.mem_flatMap] at h
    obtain ⟨s, hs, hq⟩ := h
    unfold extA at hs
    rw [List.mem_filterMap] at hs
    obtain ⟨f, hf, hm⟩ := hs
    have hp := mtF_pre hm
    have hpq := enum_pre fs ats s q hq
    rcases List.mem_cons.1 hb with e | e
    · subst e
      unfold mtF matB at hm
      split at hm
      · rename_i hc
        exact ⟨f, hf, hc.1, mgo_val _ _ _ _ r hm hl hc.2.1 (hpq.1.trans hr)⟩
      · cases hm
    · exact enum_val ats s q r hq (pre_len hp.1 hl) hr b e
theorem enum_agrs {fs ats : FL} {p q : PL} (h : q ∈ enum fs ats p) (hl : p.1.length = p.2.length) : Agr (pval q) p ∧ Agr (pval q) q :=
  ⟨⟨hl, fun t ht => pre_val (enum_pre fs ats p q h).1 hl ht⟩, ⟨pre_len (enum_pre fs ats p q h).1 hl, fun t _ => rfl⟩⟩
theorem ddN_mem (ts vs : List Int) : ∀ k, k ≤ ts.length → ∀ t ∈ (ddN ts vs k).1, t ∈ ts
  | 0, _, t, h => by cases h
  | k + 1, hk, t, h => by
    by_cases hc : ts.getD k 0 ∈ (ddN ts vs k).1
    · rw [ddN_skip rfl hc] at h
      exact ddN_mem ts vs k (by omega) t h
    · rw [ddN_add rfl rfl hc] at h
      rcases List.mem_append.1 h with h1 | h1
      · exact ddN_mem ts vs k (by omega) t h1
      · have e : t = ts.getD k 0 := by simpa using h1
        rw [e, List.getD_eq_getElem?_getD, List.getElem?_eq_getElem (by omega)]
        exact List.getElem_mem _
theorem ddN_hasK (ts vs : List Int) : ∀ k, k ≤ ts.length → ∀ j, j < k → ts.getD j 0 ∈ (ddN ts vs k).1
  | 0, _, j, h => by omega
  | k + 1, hk, j, h => by
    by_cases hc : ts.getD k 0 ∈ (ddN ts vs k).1
    · rw [ddN_skip rfl hc]
      rcases Nat.lt_or_ge j k with h1 | h1
      · exact ddN_hasK ts vs k (by omega) j h1
      · have : j = k := by omega
        subst this; exact hc
    · rw [ddN_add rfl rfl hc]
      rcases Nat.lt_or_ge j k with h1 | h1
      · exact List.mem_append_left _ (ddN_hasK ts vs k (by omega) j h1)
      · have : j = k := by omega
        subst this; exact List.mem_append_right _ (by simp)
theorem ddN_all (ts vs : List Int) : ∀ t ∈ ts, t ∈ (ddN ts vs ts.length).1 := fun t ht => by
  obtain ⟨j, hj, e⟩ := List.getElem_of_mem ht
  have := ddN_hasK ts vs ts.length (Nat.le_refl _) j hj
  rwa [List.getD_eq_getElem?_getD, List.getElem?_eq_getElem hj, Option.getD_some, e] at this
/-- Some binding has this head, exactly if the search from the head's values on finds one. -/
theorem map_iff {hs tup : List Int} {ats fs : FL} (hq : QOk hs ats) (hf : ∀ f ∈ fs, allB 0 9 f.2 = true) (ht : allB 0 9 tup = true) (hl : hs.length = tup.length) (hc : headT hs (ddN hs tup hs.length) = tup) :
    (∃ p ∈ bnds fs ats, headT hs p = tup) ↔ enum fs ats (ddN hs tup hs.length) ≠ [] := by
  have hv : allB 10 17 hs = true := allB_of fun x hx => by
    have := (hq.var x hx).1
    simp only [inB, Bool.and_eq_true, decide_eq_true_eq] at this
    exact this
  have hg := ddN_gd hv ht hl hs.length (Nat.le_refl _)
  have hmem : ∀ t ∈ hs, t ∈ (ddN hs tup hs.length).1 → bval (ddN hs tup hs.length).1 (ddN hs tup hs.length).2 t = pval (ddN hs tup hs.length) t := fun t h1 h2 => bval_mem hg.1 (hq.var t h1).1 h2
  have hin := ddN_mem hs tup hs.length (Nat.le_refl _)
  have hall : ∀ t ∈ hs, t ∈ (ddN hs tup hs.length).1 := ddN_all hs tup
  generalize ddN hs tup hs.length = p1 at hc hg hmem hin hall ⊢
  constructor
  · rintro ⟨p, hp, he⟩
    have hpo := bnds_ok hq hf hp
    rw [bnds_enum] at hp
    have hA : Agr (pval p) p1 := ⟨hg.1, fun t h => by
      have h1 := hin t h
      have h2 : headT hs p = headT hs p1 := by rw [he, hc]
      have h3 := (List.map_inj_left.1 h2) t h1
      rw [hmem t h1 h, bval_mem hpo.1.1 (hpo.2 t h1).1 (hpo.2 t h1).2] at h3
      exact h3⟩
    obtain ⟨q, h1, _⟩ := enum_agr (fs := fs) ats p1 hA (enum_val ats _ p p hp rfl (Pre.refl p))
    intro e
    rw [e] at h1
    cases h1
  · intro hne
    obtain ⟨q, hq'⟩ := List.exists_mem_of_ne_nil _ hne
    obtain ⟨hA, _⟩ := enum_agrs hq' hg.1
    obtain ⟨q2, h1, h2⟩ := enum_agr (fs := fs) ats ([], []) (agr_nil (pval q)) (enum_val ats _ q q hq' hg.1 (Pre.refl q))
    have h3 : q2 ∈ bnds fs ats := by rw [bnds_enum]; exact h1
    have h4 := bnds_ok hq hf h3
    refine ⟨q2, h3, ?_⟩
    rw [← hc]
    refine List.map_congr_left fun t h => ?_
    rw [hmem t h (hall t h), bval_mem h4.1.1 (h4.2 t h).1 (h4.2 t h).2, ← h2.2 t (h4.2 t h).2, ← hA.2 t (hall t h)]
end Go.Proofs.Ytimlpdcambmcjaa

namespace Go.Proofs.Ytimlpdcambmcjaa
open Go.ChangeShapes Go.WideShapes Go.ChangeAt Go.RowKit Go.Sort
set_option linter.unusedVariables false
set_option linter.unusedSimpArgs false

/-- What the terms ts are worth under the binding of us to vs. -/
def tupV (us vs ts : List Int) : List Int := ts.map (bval us vs)
theorem tupV_len (us vs ts : List Int) : (tupV us vs ts).length = ts.length := List.length_map _
theorem tupV_take (us vs ts : List Int) {k : Nat} (hk : k < ts.length) {t : Int} (ht : ts.getD k 0 = t) : tupV us vs (ts.take (k + 1)) = tupV us vs (ts.take k) ++ [bval us vs t] := by
  rw [takeI' ts hk ht]
  simp [tupV]
theorem tupV_takeN (us vs ts : List Int) (k : Nat) (hk : k ≤ ts.length) : (tupV us vs (ts.take k)).length = k := by
  rw [tupV_len, List.length_take]; omega

/-- A call of two arguments as one step of a region that draws. -/
theorem callV2 {P : Program} {ops : Array Oper} {o : Oper} {a : Act} {w : World} {K : Act → World → Prop} {Q : Exit → Act → World → Prop} {E : Prop}
    (hgd : o.guard = none) (g : FuncId) (x y : Operand) (t t' : TypeId) (ho : o.op = .call { callee := .value (.func g), args := #[x, y], argTypes := #[t, t'] })
    (vx vy : Value) (hx : a.eval x = vx) (hy : a.eval y = vy) (hcf : (callFunc g #[vx, vy]).run P w = .ok (.enter g #[vx, vy]) w) {R : Value → World → Prop} (hc : Calls P g #[vx, vy] w fun e w' => ∃ v, e = .returned v ∧ R v w') (hK : ∀ v w', R v w' → K (a.put o.dst v) w') :
    if Region.wanted o (yielded ops a.tmps) = true then Oper.wp P o a w K Q else E := by
  have hw : Region.wanted o (yielded ops a.tmps) = true := by simp [Region.wanted, hgd]
  rw [if_pos hw]
  unfold Oper.wp
  have e : (execOp a.eval o).run P w = .ok (.enter g #[vx, vy]) w := by
    rw [← hx, ← hy] at hcf ⊢
    simpa [go_sem, execOp, ho, resolve, invoke] using hcf
  rw [e, Oper.upon_enter]
  refine hc.mono ?_
  rintro _ w' ⟨v, rfl, h⟩
  exact hK v w' h

set_option maxRecDepth 100000 in
set_option maxHeartbeats 1000000 in
theorem valuesOf_any (T U V : Option Addr) (ct cu cv : Nat) (ts us vs : List Int) (ht : ts.length ≤ 1048576) (hu : us.length ≤ 1048576) (hv : vs.length ≤ 1048576) (w : World) (h : RI w T ts) (h1 : RI w U us) (h2 : RI w V vs) :
    Calls Try.prog 66 #[.slice T ts.length ct, .agg #[.slice U us.length cu, .slice V vs.length cv]] w (ListT w (tupV us vs ts)) := by
  obtain ⟨i0, hi, hz0, hz1, hz2⟩ := info_parts int_info
  have ht' : (ts.length : Int) ≤ 1048576 := by omega
  have B0 := Lib.hid (below_alloc w (.cells #[.slice U us.length cu, .slice V vs.length cv] 50))
  have X0 := Lib.hid (Box.new w #[.slice U us.length cu, .slice V vs.length cv] 50)
  have HT := Lib.hid h
  have HU := Lib.hid h1
  have HV := Lib.hid h2
  clear h h1 h2
  go_enter Try.func66, Try.ntmps66
  go_wp2
  go_loopw [5, 7, 10] (fun o _ i wr => ∃ (k : Nat) (v : Value), k ≤ ts.length ∧ i = .int .i64 k ∧ v = o ∧ Hid (wr.ownsRow (w.heap.size + 1) 3 1 v k ((tupV us vs (ts.take k)).map (Value.int .i64))) ∧ Hid (Box wr w.heap.size #[.slice U us.length cu, .slice V vs.length cv] 50) ∧ Hid (Below w.heap.size w wr)) (fun _ _ i _ => ts.length - (intOf i).toNat)
  case atStart => exact ⟨0, _, by omega, rfl, rfl, Lib.hid (World.ownsRow_nil _ _ _ _), X0, B0⟩
  case round =>
    obtain ⟨k, v, hk, rfl, rfl, hO, hX, hB⟩ := hrel
    have x0 := hX.out.cell 0
    have x1 := hX.out.cell 1
    simp only [List.getElem?_toArray, List.getElem?_cons_zero, List.getElem?_cons_succ] at x0 x1
    have hk0 : (0 : Int) ≤ (k : Int) := by omega
    by_cases hlt : k < ts.length
    · have hk1 : (k : Int) < (ts.length : Int) := by omega
      obtain ⟨b, off, rfl, nb, e0⟩ := (HT.out.step hB.out).at_ hlt
      generalize hx : ts.getD k 0 = t at e0
      have TT := Lib.hid (tupV_take us vs ts hlt hx)
      have XV := Lib.hid (impl_ValueOf U V cu cv us vs t hu hv wr (HU.out.step hB.out) (HV.out.step hB.out))
      generalize bval us vs t = y at TT XV
      have hxl := hX.out.lt
      clear hx
      go_wp2_with fail
      refine XV.out.mono ?_
      rintro e w1 ⟨rfl, d⟩
      have O1 := Lib.hid (ownsRow_step hO.out d)
      have X1 := Lib.hid (hX.out.step d)
      have B1 := Lib.hid (step hB.out d)
      have Bl1 := Lib.hid (show Below (w.heap.size + 1) wr w1 from d.mono (by omega))
      have hbs : w.heap.size + 1 ≤ w1.heap.size := by have := X1.out.lt; omega
      clear d x0 x1
      go_wp2_with (at_builtin; refine wpList_push rfl _ _ _ 3 rfl i0 Try.underlying22 hi (.int .i64 0) 8 hz0 hz1 hz2 rfl (by omega) rfl rfl rfl O1.out (Below.refl _ w1) hbs (by omega) ?_; intro v' w' hown' hb' hsz')
      go_roundw
      case rel => exact ⟨k + 1, v', by omega, by go_num, rfl, Lib.hid (by rw [TT.out, List.map_append]; exact hown'), Lib.hid (show Box w' w.heap.size _ _ from (hb'.block _ (by omega)).trans X1.out), Lib.hid (B1.out.trans (hb'.mono (by omega)))⟩
      case measure => simp [intOf]; omega
    · obtain rfl : k = ts.length := by omega
      have OO := Lib.hid (show wr.ownsRow w.heap.size 3 1 v (tupV us vs ts).length ((tupV us vs ts).map (Value.int .i64)) by
        have := hO.out
        rw [List.take_length] at this
        rw [tupV_len]
        refine ⟨this.1, ?_⟩
        rcases this.2 with h0 | ⟨g, cap, cur, hv, hb, r⟩
        · exact .inl h0
        · exact .inr ⟨g, cap, cur, hv, by omega, r⟩)
      go_wp2
      go_ret
      exact ⟨v, rfl, OO.out, hB.out⟩

set_option maxRecDepth 100000 in
set_option maxHeartbeats 1000000 in
theorem impl_TupleOf (H Q U V : Option Addr) (ch c cu cv : Nat) (hs : List Int) (l : FL) (us vs : List Int) (hh : hs.length ≤ 1048576) (hu : us.length ≤ 1048576) (hv : vs.length ≤ 1048576) (w : World) (h : RI w H hs) (h1 : RI w U us) (h2 : RI w V vs) :
    Calls Try.prog 34 #[.agg #[.slice H hs.length ch, .slice Q l.length c], .agg #[.slice U us.length cu, .slice V vs.length cv]] w (ListT w (tupV us vs hs)) := by
  have B0 := Lib.hid (step (below_alloc w (.cells #[.slice H hs.length ch, .slice Q l.length c] 31)) (below_alloc _ (.cells #[.slice U us.length cu, .slice V vs.length cv] 50)))
  have XV := Lib.hid (valuesOf_any H U V ch cu cv hs us vs hh hu hv _ (h.step B0.out) (h1.step B0.out) (h2.step B0.out))
  clear h h1 h2
  go_enter Try.func34, Try.ntmps34
  go_wp2_with fail
  refine XV.out.mono ?_
  rintro e u ⟨v, rfl, ho, d⟩
  have D := Lib.hid (step B0.out d)
  have OO := Lib.hid (show u.ownsRow w.heap.size 3 1 v (tupV us vs hs).length ((tupV us vs hs).map (Value.int .i64)) by
    refine ⟨ho.1, ?_⟩
    rcases ho.2 with h0 | ⟨g, cap, cur, hv, hb, r⟩
    · exact .inl h0
    · exact .inr ⟨g, cap, cur, hv, by have := B0.out.size; omega, r⟩)
  clear ho d
  go_wp2
  go_ret
  exact ⟨v, rfl, OO.out, D.out⟩

set_option maxRecDepth 100000 in
set_option maxHeartbeats 2000000 in
theorem spec_TupleOf (H Q U V : Option Addr) (ch c cu cv : Nat) (hs : List Int) (l : FL) (us vs : List Int) (hh : hs.length ≤ 1048576) (hu : us.length ≤ 1048576) (hv : vs.length ≤ 1048576) (w : World) (h : RI w H hs) (h1 : RI w U us) (h2 : RI w V vs) :
    Calls Try.prog 28 #[.agg #[.slice H hs.length ch, .slice Q l.length c], .agg #[.slice U us.length cu, .slice V vs.length cv]] w (ListT w (tupV us vs hs)) := by
  obtain ⟨i0, hi, hz0, hz1, hz2⟩ := info_parts int_info
  have hh' : (hs.length : Int) ≤ 1048576 := by omega
  obtain ⟨w0, hw0⟩ : ∃ W, W = (w.alloc (.cells #[.slice H hs.length ch, .slice Q l.length c] 31)).alloc (.cells #[.slice U us.length cu, .slice V vs.length cv] 50) := ⟨_, rfl⟩
  have E0 := Lib.hid hw0
  have B0 := Lib.hid (show Below w.heap.size w w0 by rw [hw0]; exact step (below_alloc w _) (below_alloc _ _))
  have X0 := Lib.hid (show Box w0 w.heap.size #[.slice H hs.length ch, .slice Q l.length c] 31 by rw [hw0]; exact (Box.new w _ _).step (below_alloc _ _))
  have Y0 := Lib.hid (show Box w0 (w.heap.size + 1) #[.slice U us.length cu, .slice V vs.length cv] 50 by
    rw [hw0]
    have h := Box.new (w.alloc (.cells #[.slice H hs.length ch, .slice Q l.length c] 31)) #[.slice U us.length cu, .slice V vs.length cv] 50
    rwa [al_size] at h)
  have S0 := Lib.hid (show w0.heap.size = w.heap.size + 2 by rw [hw0, al_size, al_size])
  have HT := Lib.hid h
  have HU := Lib.hid h1
  have HV := Lib.hid h2
  clear h h1 h2 hw0
  go_enter Try.func28, Try.ntmps28
  go_wp2_with fail
  go_loopw [5, 6] (fun o i wr => ∃ (k : Nat) (v : Value), k ≤ hs.length ∧ i = .int .i64 k ∧ v = o ∧ Hid (wr.ownsRow (w.heap.size + 2) 3 1 v k ((tupV us vs (hs.take k)).map (Value.int .i64))) ∧ Hid (Box wr w.heap.size #[.slice H hs.length ch, .slice Q l.length c] 31) ∧ Hid (Box wr (w.heap.size + 1) #[.slice U us.length cu, .slice V vs.length cv] 50) ∧ Hid (Below w.heap.size w wr)) (fun _ i _ => hs.length - (intOf i).toNat)
  case atStart =>
    refine ⟨0, _, by omega, rfl, rfl, Lib.hid ?_, Lib.hid ?_, Lib.hid ?_, Lib.hid ?_⟩
    · rw [← E0.out]
      have := World.ownsRow_lit (base := w.heap.size + 2) (e := 3) (size := 1) w0 #[] 0 (by rw [S0.out]; exact Nat.le_refl _) (by unfold maxLen; omega) rfl
      rw [S0.out] at this
      exact this
    · rw [← E0.out]; exact X0.out.step (below_alloc _ _)
    · rw [← E0.out]; exact Y0.out.step (below_alloc _ _)
    · rw [← E0.out]; exact step B0.out (below_alloc _ _)
  case round =>
    obtain ⟨k, v, hk, rfl, rfl, hO, hX, hY, hB⟩ := hrel
    have x0 := hX.out.cell 0
    have y0 := hY.out.cell 0
    have y1 := hY.out.cell 1
    simp only [List.getElem?_toArray, List.getElem?_cons_zero, List.getElem?_cons_succ] at x0 y0 y1
    have hk0 : (0 : Int) ≤ (k : Int) := by omega
    by_cases hlt : k < hs.length
    · have hk1 : (k : Int) < (hs.length : Int) := by omega
      obtain ⟨b, off, rfl, nb, e0⟩ := (HT.out.step hB.out).at_ hlt
      generalize hx : hs.getD k 0 = t at e0
      have TT := Lib.hid (tupV_take us vs hs hlt hx)
      have XV := Lib.hid fun (W : World) (b : Below wr.heap.size wr W) => spec_ValueOf U V cu cv us vs t hu hv W ((HU.out.step hB.out).step b) ((HV.out.step hB.out).step b)
      generalize bval us vs t = y at TT XV
      have hyl := hY.out.lt
      clear hx
      go_wp2
      go_region_law (first
        | (refine callV2 rfl 53 _ _ _ _ rfl (.agg #[.slice U us.length cu, .slice V vs.length cv]) (.int .i64 t) rfl rfl (by kernel_rfl) (R := fun v' w' => v' = .int .i64 y ∧ Below wr.heap.size wr w') ((XV.out _ (by first | exact Below.refl _ _ | exact below_drew _)).mono (fun e w' h => ⟨_, h.1, rfl, by first | exact h.2 | exact und h.2 | exact undN h.2⟩)) ?_
           rintro _ u5 ⟨rfl, b5⟩
           have x05 := (b5.cell (p := ⟨w.heap.size, 0, none⟩) (by (try simp) <;> omega)).trans x0
           have y05 := (b5.cell (p := ⟨w.heap.size + 1, 0, none⟩) (by (try simp) <;> omega)).trans y0
           have y15 := (b5.cell (p := ⟨w.heap.size + 1, 1, none⟩) (by (try simp) <;> omega)).trans y1
           have z5 := b5.size
           have HO5 := Lib.hid (ownsRow_step hO.out b5)
           have hb5 : Below (w.heap.size + 2) wr u5 := b5.mono (by omega)
           have hz5 : w.heap.size + 2 ≤ u5.heap.size := by omega)
        | (refine step_pushR rfl _ _ _ 3 rfl i0 Try.underlying22 hi (.int .i64 0) 8 hz0 hz1 hz2 rfl (by omega) (w.heap.size + 2) k _ ((tupV us vs (hs.take k)).map (Value.int .i64)) _ 1 (.int .i64 y) rfl rfl rfl (by first | exact HO5.out.alloc _ | exact (HO5.out.alloc _).drew | exact HO5.out.drew.alloc _) (by first | exact hb5.alloc hz5 _ | exact (hb5.alloc hz5 _).drew | exact hb5.drew.alloc hz5 _) (by (try simp) <;> omega) (by omega) (by simp [Addr.add]) ?_
           intro v6 u6 hown6 hb6 hz6
           have HO6 := Lib.hid hown6
           clear hown6))
      all_goals
        have z6 := hb6.size
        clear x0 y0 y1 e0
        go_wp2
        go_roundw
        case rel =>
          refine ⟨k + 1, v6, by omega, by go_num, rfl, Lib.hid ?_, Lib.hid (show Box u6 w.heap.size _ _ from (hb6.block _ (by omega)).trans hX.out), Lib.hid (show Box u6 (w.heap.size + 1) _ _ from (hb6.block _ (by omega)).trans hY.out), Lib.hid (hB.out.trans (hb6.mono (by omega)))⟩
          rw [TT.out, List.map_append]
          exact HO6.out
        case measure => simp [intOf]; omega
    · obtain rfl : k = hs.length := by omega
      have OO := Lib.hid (show wr.ownsRow w.heap.size 3 1 v (tupV us vs hs).length ((tupV us vs hs).map (Value.int .i64)) by
        have := hO.out
        rw [List.take_length] at this
        rw [tupV_len]
        refine ⟨this.1, ?_⟩
        rcases this.2 with h0 | ⟨g, cap, cur, hv, hb, r⟩
        · exact .inl h0
        · exact .inr ⟨g, cap, cur, hv, by omega, r⟩)
      go_wp2
      go_ret
      exact ⟨v, rfl, OO.out, hB.out⟩
end Go.Proofs.Ytimlpdcambmcjaa

namespace Go.Proofs.Ytimlpdcambmcjaa
open Go.ChangeShapes Go.WideShapes Go.ChangeAt Go.RowKit Go.Sort
open Go.Maps (Keyed int_keyed keyOf_int_mk)
set_option linter.unusedVariables false
set_option linter.unusedSimpArgs false

/-- A binding that is being extended: its box at g, two rows of its own. -/
def EBd (w : World) (base g : Nat) (X : Option Addr) (cx : Nat) (Y : Option Addr) (cy : Nat) (xs ys : List Int) : Prop :=
  Box w g #[.slice X xs.length cx, .slice Y ys.length cy] 50 ∧ RowV w base (.slice X xs.length cx) xs ∧ RowV w base (.slice Y ys.length cy) ys ∧ Apart (.slice X xs.length cx) (.slice Y ys.length cy) ∧ base ≤ g
theorem row_ne_box {w : World} {base g : Nat} {v : Value} {xs : List Int} {cs : Array Value} (h : RowV w base v xs) (hb : Box w g cs 50) : some g ≠ v.ownBlock := by
  intro e
  rcases h.2 with ⟨hv, _⟩ | ⟨k, cap, cur, hv, hbk, hk, _⟩
  · rw [hv] at e; cases e
  · rw [hv] at e
    injection e with e
    have e' : g = k := e
    unfold Box at hb
    rw [e', hk] at hb
    injection hb with hb
    injection hb with _ h2
    exact absurd h2 (by decide)
theorem Box.grown {w w' : World} {base g : Nat} {v : Value} {xs : List Int} {cs : Array Value} (hb : Box w g cs 50) (h : RowV w base v xs) (hg : w.grownBy w' v.ownBlock) : Box w' g cs 50 :=
  (hg.block g hb.lt (row_ne_box h hb)).trans hb
theorem apart_at {u : World} {base : Nat} {v v' y : Value} {ys : List Int} (ha : Apart v y) (hy : RowV u base y ys) (hat : v'.ownBlock = v.ownBlock ∨ v'.ownBlock = some u.heap.size) : Apart v' y := by
  rcases hat with hat | hat
  · unfold Apart at *; rw [hat]; exact ha
  · refine .inr fun e => ?_
    have := World.ownsRow.lt hy _ (e.symm.trans hat)
    omega
theorem EBd.push1 {w u w' : World} {base g : Nat} {X : Option Addr} {cx : Nat} {Y : Option Addr} {cy : Nat} {xs ys xs' : List Int} (h : EBd w base g X cx Y cy xs ys) (hb : Below w.heap.size w u) {X' : Option Addr} {c' : Nat}
    (hv : RowV w' base (.slice X' xs'.length c') xs') (hg : u.grownBy w' (Value.slice X xs.length cx).ownBlock) (hat : (Value.slice X' xs'.length c').ownBlock = (Value.slice X xs.length cx).ownBlock ∨ (Value.slice X' xs'.length c').ownBlock = some u.heap.size) :
    Box w' g #[.slice X xs.length cx, .slice Y ys.length cy] 50 ∧ EBd (w'.setCell ⟨g, 0, none⟩ (.slice X' xs'.length c')) base g X' c' Y cy xs' ys := by
  obtain ⟨h1, h2, h3, h4, h5⟩ := h
  have k1 := (h1.step hb).grown (h2.below hb) hg
  have k3 := (h3.below hb).kept hg (h4.symm)
  exact ⟨k1, k1.set 0 (.slice X' xs'.length c'), hv.set k1 (by decide), k3.set k1 (by decide), apart_at h4 (h3.below hb) hat, h5⟩
theorem EBd.push2 {w u w' : World} {base g : Nat} {X : Option Addr} {cx : Nat} {Y : Option Addr} {cy : Nat} {xs ys ys' : List Int} (h : EBd w base g X cx Y cy xs ys) (hb : Below w.heap.size w u) {Y' : Option Addr} {c' : Nat}
    (hv : RowV w' base (.slice Y' ys'.length c') ys') (hg : u.grownBy w' (Value.slice Y ys.length cy).ownBlock) (hat : (Value.slice Y' ys'.length c').ownBlock = (Value.slice Y ys.length cy).ownBlock ∨ (Value.slice Y' ys'.length c').ownBlock = some u.heap.size) :
    Box w' g #[.slice X xs.length cx, .slice Y ys.length cy] 50 ∧ EBd (w'.setCell ⟨g, 1, none⟩ (.slice Y' ys'.length c')) base g X cx Y' c' xs ys' := by
  obtain ⟨h1, h2, h3, h4, h5⟩ := h
  have k1 := (h1.step hb).grown (h3.below hb) hg
  have k2 := (h2.below hb).kept hg h4
  exact ⟨k1, k1.set 1 (.slice Y' ys'.length c'), k2.set k1 (by decide), hv.set k1 (by decide), (apart_at h4.symm (h2.below hb) hat).symm, h5⟩

theorem ri_one (w : World) (x : Int) : RI (w.alloc (.cells #[.int .i64 x] 3)) (some ⟨w.heap.size, 0, none⟩) [x] := fun _ => by
  refine ⟨w.heap.size, 0, rfl, Nat.zero_le _, by rw [al_size]; omega, fun k hk => ?_⟩
  obtain rfl : k = 0 := by simpa using hk
  simp

def exTab (ts vs : List Int) : Nat → Option (List Int)
  | 2 => some ts | 5 => some vs | _ => none
def exCons : Nat → Nat
  | 2 => 8 | 5 => 8 | _ => 9
def exVals (g : Nat) (x y : Value) : Nat → Option Value
  | 0 => some (.pointer (some ⟨g, 0, none⟩)) | 1 => some x | 3 => some (.pointer (some ⟨g, 1, none⟩)) | 4 => some y | _ => none


def x6Vals (gb g : Nat) (y : Value) (mb : Nat) (x pv : Int) : Nat → Option Value
  | 0 => some (.pointer (some ⟨gb, 1, none⟩)) | 1 => some y | 2 => some (.pointer (some ⟨g, 0, none⟩)) | 3 => some (.pointer (some ⟨g, 0, none⟩)) | 4 => some (.pointer (some ⟨g, 0, none⟩)) | 5 => some (.map (some mb)) | 6 => some (.int .i64 x) | 7 => some (.int .i64 pv) | 10 => some (.pointer (some ⟨gb, 1, none⟩)) | _ => none

end Go.Proofs.Ytimlpdcambmcjaa

namespace Go.Proofs.Ytimlpdcambmcjaa
open Go.ChangeShapes Go.WideShapes Go.ChangeAt Go.RowKit Go.Sort
set_option linter.unusedVariables false
set_option linter.unusedSimpArgs false

/-- Are the first n atoms of l, with their terms' worth, among the facts? -/
def allHas (us vs : List Int) (fs l : FL) (n : Nat) : Bool := (List.range n).all fun k => hasB fs (l.getD k (0, [])).1 (tupV us vs (l.getD k (0, [])).2)
theorem allHas_succ (us vs : List Int) (fs l : FL) (k : Nat) : allHas us vs fs l (k + 1) = (allHas us vs fs l k && hasB fs (l.getD k (0, [])).1 (tupV us vs (l.getD k (0, [])).2)) := by
  unfold allHas
  rw [List.range_succ, List.all_append]
  simp
theorem allHas_not (us vs : List Int) (fs l : FL) (k n : Nat) (hk : k < n) (h : hasB fs (l.getD k (0, [])).1 (tupV us vs (l.getD k (0, [])).2) = false) : allHas us vs fs l n = false := by
  unfold allHas
  rw [List.all_eq_false]
  exact ⟨k, by simpa using hk, by rw [h]; simp⟩
def mapB (us vs hs head : List Int) (l fs : FL) : Bool := decide (us.length = vs.length) && decide (tupV us vs hs = head) && allHas us vs fs l l.length
theorem mapB_len {us vs hs head : List Int} {l fs : FL} (h : ¬ us.length = vs.length) : mapB us vs hs head l fs = false := by simp [mapB, h]
theorem mapB_head {us vs hs head : List Int} {l fs : FL} (h : ¬ tupV us vs hs = head) : mapB us vs hs head l fs = false := by simp [mapB, h]
theorem mapB_all {us vs hs head : List Int} {l fs : FL} (h : us.length = vs.length) (h' : tupV us vs hs = head) : mapB us vs hs head l fs = allHas us vs fs l l.length := by simp [mapB, h, h']

theorem row_ri {w : World} {base n c : Nat} {A : Option Addr} {xs : List Int} (h : w.ownsRow base 3 1 (.slice A n c) n (xs.map (Value.int .i64))) (hn : n = xs.length) : RI w A xs ∧ xs.length ≤ c ∧ c ≤ maxLen := by
  subst hn
  obtain ⟨q, hv⟩ := ownV_of_row h
  have h2 := hv.ints
  exact ⟨h2.2.2.2.mono (Nat.zero_le _) (Nat.le_refl _), h2.2.1, h2.2.2.1⟩

end Go.Proofs.Ytimlpdcambmcjaa

namespace Go.Proofs.Ytimlpdcambmcjaa
open Go.ChangeShapes Go.WideShapes Go.ChangeAt Go.RowKit
set_option linter.unusedVariables false
set_option linter.unusedSimpArgs false

/-- What AddFact returns, as its block. -/
theorem spec_AddFact_r (A : Option Addr) (c : Nat) (l : FL) (r : Int) (xs : List Int) (A' : Option Addr) (c' : Nat) (hz : szF l ≤ 1048576) (hl2 : xs.length ≤ 1048576) (w : World) (h : RF w A l) (h' : RI w A' xs) :
    Calls Try.prog 74 #[.slice A l.length c, .agg #[.int .i64 r, .slice A' xs.length c']] w (AddP w (addF l r xs)) :=
  (spec_AddFact A c l r xs A' c' hz hl2 w h h').mono fun _ _ h => h.toP
theorem impl_AddFact_r (b off c : Nat) (l : FL) (r : Int) (xs : List Int) (A' : Option Addr) (c' : Nat) (hlc : l.length ≤ c) (hc : c ≤ 9223372036854775807) (hz : szF l ≤ 1048576) (hl2 : xs.length ≤ 1048576) (hc2 : xs.length ≤ c') (hm2 : c' ≤ maxLen) (w : World) (h : RF w (some ⟨b, off, none⟩) l) (h' : RI w A' xs) :
    Calls Try.prog 59 #[.slice (some ⟨b, off, none⟩) l.length c, .agg #[.int .i64 r, .slice A' xs.length c']] w (AddP w (addF l r xs)) :=
  (impl_AddFact b off c l r xs A' c' hlc hc hz hl2 hc2 hm2 w h h').mono fun _ _ h => h.toP
end Go.Proofs.Ytimlpdcambmcjaa

namespace Go.Proofs.Ytimlpdcambmcjaa
open Go.ChangeShapes Go.WideShapes Go.ChangeAt Go.RowKit Go.Sort
set_option linter.unusedVariables false
set_option linter.unusedSimpArgs false

/-- A call of one argument as one step of a region that draws. -/
theorem callV1 {P : Program} {ops : Array Oper} {o : Oper} {a : Act} {w : World} {K : Act → World → Prop} {Q : Exit → Act → World → Prop} {E : Prop}
    (hgd : o.guard = none) (g : FuncId) (x : Operand) (t : TypeId) (ho : o.op = .call { callee := .value (.func g), args := #[x], argTypes := #[t] })
    (vx : Value) (hx : a.eval x = vx) (hcf : (callFunc g #[vx]).run P w = .ok (.enter g #[vx]) w) {R : Value → World → Prop} (hc : Calls P g #[vx] w fun e w' => ∃ v, e = .returned v ∧ R v w') (hK : ∀ v w', R v w' → K (a.put o.dst v) w') :
    if Region.wanted o (yielded ops a.tmps) = true then Oper.wp P o a w K Q else E := by
  have hw : Region.wanted o (yielded ops a.tmps) = true := by simp [Region.wanted, hgd]
  rw [if_pos hw]
  unfold Oper.wp
  have e : (execOp a.eval o).run P w = .ok (.enter g #[vx]) w := by
    rw [← hx] at hcf ⊢
    simpa [go_sem, execOp, ho, resolve, invoke] using hcf
  rw [e, Oper.upon_enter]
  refine hc.mono ?_
  rintro _ w' ⟨v, rfl, h⟩
  exact hK v w' h

/-- A list of facts of the call's own, at the head of block g; the numbers' blocks lie from lo on. -/
def CopyLt (w : World) (fs : FL) (e : Ending) (w' : World) : Prop :=
  e = .returned (.slice (some ⟨w.heap.size, 0, none⟩) fs.length fs.length) ∧ atom.OwnP w' w.heap.size w'.heap.size w.heap.size (fs.length * 2) fs.length fs ∧ Below w.heap.size w w' ∧ w.heap.size < w'.heap.size

/-- What a copy of a query is: its head in blocks up to below mid, its atoms from there on. -/
def CpQ (w : World) (hs : List Int) (l : FL) (e : Ending) (w' : World) : Prop :=
  ∃ (A : Option Addr) (c q mid : Nat), e = .returned (.agg #[.slice A hs.length c, .slice (some ⟨mid, 0, none⟩) l.length l.length]) ∧ OwnV w' w.heap.size mid (.slice A hs.length c) q hs ∧ atom.OwnP w' mid w'.heap.size mid (l.length * 2) l.length l ∧ w.heap.size + 2 ≤ mid ∧ mid < w'.heap.size ∧ Below w.heap.size w w'

end Go.Proofs.Ytimlpdcambmcjaa
