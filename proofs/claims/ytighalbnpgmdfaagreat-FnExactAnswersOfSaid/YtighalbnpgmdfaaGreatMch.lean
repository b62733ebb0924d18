/- A matching in memory: its map, its list of added variables, and one term against one value. Conditions: none beyond each theorem's own. -/
import Derived.Test.YtighalbnpgmdfaaGreatMat
import Derived.Test.YtighalbnpgmdfaaGreatClone
import Derived.Test.YtighalbnpgmdfaaGreatOnceM
import Derived.Maps.OwnSet
namespace Go.Proofs.YtighalbnpgmdfaaGreat
open Go.ChangeShapes Go.WideShapes Go.ChangeAt Go.RowKit Go.Sort
open Go.Maps (Keyed int_keyed keyOf_int_mk)
set_option linter.unusedVariables false
set_option linter.unusedSimpArgs false

set_option maxRecDepth 100000 in
theorem lawM : Keyed Tryz.prog 3 := int_keyed Tryz.underlying3
set_option maxRecDepth 100000 in
theorem zeroM (w : World) : (zeroValue 3).run Tryz.prog w = .ok (.int .i64 0) w := by kernel_rfl
/-- The key of a term. -/
abbrev kt (t : Int) : Lit := .int .i64 t
abbrev wf (t : Int) : Prop := (Lit.int .i64 t).wf = true
theorem kt_ne {a b : Int} (h : ¬ a = b) : kt a ≠ kt b := fun e => by injection e with _ e; exact h e

/-- What has turned: no block below base, no row but those of numbers and the matchings. -/
structure Trn (base : Nat) (w w' : World) : Prop where
  os : w'.os = w.os
  tape : w'.tape = w.tape
  output : w'.output = w.output
  size : w.heap.size ≤ w'.heap.size
  block : ∀ k, k < w.heap.size → (k < base ∨ ∃ cs t fr, w.heap[k]? = some (.cells cs t fr) ∧ t ≠ 3 ∧ t ≠ 98) → w'.heap[k]? = w.heap[k]?
theorem Trn.refl (base : Nat) (w : World) : Trn base w w := ⟨rfl, rfl, rfl, Nat.le_refl _, fun _ _ _ => rfl⟩
theorem Trn.trans {base : Nat} {a b c : World} (h : Trn base a b) (k : Trn base b c) : Trn base a c :=
  ⟨k.os.trans h.os, k.tape.trans h.tape, k.output.trans h.output, Nat.le_trans h.size k.size, fun i hi hx => by
    have h1 := h.block i hi hx
    refine (k.block i (Nat.lt_of_lt_of_le hi h.size) ?_).trans h1
    rcases hx with hx | ⟨cs, t, fr, e, h2, h3⟩
    · exact .inl hx
    · exact .inr ⟨cs, t, fr, h1.trans e, h2, h3⟩⟩
theorem Trn.below {base : Nat} {w w' : World} (h : Trn base w w') (hb : base ≤ w.heap.size) : Below base w w' :=
  ⟨h.os, h.tape, h.output, h.size, fun k hk => h.block k (by omega) (.inl hk)⟩
theorem Trn.mono {base base' : Nat} {w w' : World} (h : Trn base w w') (hb : base' ≤ base) : Trn base' w w' :=
  ⟨h.os, h.tape, h.output, h.size, fun k hk hx => h.block k hk (by
    rcases hx with hx | hx
    · exact .inl (by omega)
    · exact .inr hx)⟩
theorem Trn.of_below {base : Nat} {w w' : World} (h : Below w.heap.size w w') : Trn base w w' := ⟨h.os, h.tape, h.output, h.size, fun k hk _ => h.block k hk⟩
theorem Trn.grown_map {base mb : Nat} {w w' : World} {es : Array MapEntry} {ck : Nat} (hg : w.grownBy w' (some mb)) (hb : base ≤ mb) (hm : w.heap[mb]? = some (.map es ck)) : Trn base w w' :=
  ⟨hg.os, hg.tape, hg.output, hg.size, fun k hk hx => hg.block k hk fun e => by
    injection e with e
    subst e
    rcases hx with hx | ⟨cs, t, fr, e, _, _⟩
    · omega
    · rw [hm] at e; injection e with e; cases e⟩
theorem Trn.grown_row {base : Nat} {w w' : World} {v : Value} {n : Nat} {cs : List Value} (hg : w.grownBy w' v.ownBlock) (ho : w.ownsRow base 3 1 v n cs) : Trn base w w' :=
  ⟨hg.os, hg.tape, hg.output, hg.size, fun k hk hx => hg.block k hk fun e => by
    rcases ho.2 with ⟨rfl, _⟩ | ⟨g, cap, cur, rfl, hb, hh, _⟩
    · simp [Value.ownBlock] at e
    · have hgk : g = k := own_some e.symm
      subst hgk
      rcases hx with hx | ⟨cs, t, fr, e, h2, _⟩
      · omega
      · rw [hh] at e
        injection e with e
        injection e with _ e2
        exact h2 e2.symm⟩
theorem Trn.set {base g : Nat} {w : World} {cs : Array Value} (hb : base ≤ g) (hx : Box w g cs 98) (i : Nat) (v : Value) : Trn base w (w.setCell ⟨g, i, none⟩ v) :=
  ⟨rfl, rfl, rfl, by rw [set_size]; exact Nat.le_refl _, fun k hk hc => Below.heap_setCell _ _ _ _ fun e => by
    have e' : k = g := e
    subst e'
    rcases hc with hc | ⟨cs, t, fr, e, _, h3⟩
    · omega
    · unfold Box at hx
      rw [hx] at e
      injection e with e
      injection e with _ e2
      exact h3 e2.symm⟩
theorem Box.trn {base g : Nat} {w w' : World} {cs : Array Value} {t : TypeId} (h : Box w g cs t) (d : Trn base w w') (h1 : t ≠ 3) (h2 : t ≠ 98) : Box w' g cs t :=
  (d.block g h.lt (.inr ⟨cs, t, (0, 0), h, h1, h2⟩)).trans h

/-- Does the map read as the binding p? -/
def LK (D : DataW Unit) (p : PL) : Prop :=
  Maps.IsMap D ∧ ∀ t, Maps.has D (kt t) = decide (t ∈ p.1) ∧ (t ∈ p.1 → D.atKey (kt t) (.lit (.int .i64 0)) = .lit (.int .i64 (pval p t)))
theorem LK.put {D : DataW Unit} {p : PL} (h : LK D p) (hl : p.1.length = p.2.length) {t v : Int} (hn : t ∉ p.1) : LK (D.put (kt t) (.lit (.int .i64 v))) (p.1 ++ [t], p.2 ++ [v]) := by
  refine ⟨h.1.put _ _, fun x => ?_⟩
  by_cases e : x = t
  · subst e
    refine ⟨?_, fun _ => ?_⟩
    · rw [Maps.has_put_same h.1 (show WideAt.IsKeyLit (kt x) from trivial)]; simp
    · rw [Maps.atKey_put_same h.1 (show WideAt.IsKeyLit (kt x) from trivial), pval_new hl hn]
  · refine ⟨?_, fun hx => ?_⟩
    · rw [Maps.has_put_other (kt_ne e), (h.2 x).1]
      simp [e]
    · have hx' : x ∈ p.1 := by simpa [e] using hx
      rw [Maps.atKey_put_other (kt_ne e), (h.2 x).2 hx', pval_old hl hx']

/-- The variables ads were added to p0, which makes q. -/
def AD (p0 q : PL) (ads : List Int) : Prop := q.1 = p0.1 ++ ads ∧ q.2 = p0.2 ++ ads.map (pval q) ∧ q.1.length = q.2.length
theorem AD.start {p : PL} (h : p.1.length = p.2.length) : AD p p [] := ⟨by simp, by simp, h⟩
theorem AD.add {p0 q : PL} {ads : List Int} (h : AD p0 q ads) {t v : Int} (hn : t ∉ q.1) : AD p0 (q.1 ++ [t], q.2 ++ [v]) (ads ++ [t]) := by
  obtain ⟨h1, h2, h3⟩ := h
  refine ⟨by simp only [h1, List.append_assoc], ?_, by simp [h3]⟩
  have e : ads.map (pval (q.1 ++ [t], q.2 ++ [v])) = ads.map (pval q) := List.map_congr_left fun x hx => pval_old h3 (by rw [h1]; exact List.mem_append_right _ hx) t v
  simp only [List.map_append, List.map_cons, List.map_nil]
  rw [pval_new h3 hn, e, ← List.append_assoc, ← h2]

/-- A matching at block g: its map reads as q, ads were added to p0. -/
def MS (w : World) (base g : Nat) (p0 q : PL) (ads : List Int) : Prop :=
  AD p0 q ads ∧ ∃ (mb n : Nat) (v : Value) (D : DataW Unit), Box w g #[.map (some mb), v] 98 ∧ w.ownsMap Tryz.prog 3 (plainElem Tryz.prog 3) mb n D ∧ w.ownsRow base 3 1 v ads.length (ads.map (Value.int .i64)) ∧
    LK D q ∧ n ≤ q.1.length ∧ base ≤ mb ∧ base ≤ g

theorem mst_cases (q : PL) (t v : Int) :
    (inB t 10 17 = false ∧ mst q t v = if t = v then some q else none) ∨ (inB t 10 17 = true ∧ t ∈ q.1 ∧ mst q t v = if bval q.1 q.2 t = v then some q else none) ∨ (inB t 10 17 = true ∧ t ∉ q.1 ∧ mst q t v = some (q.1 ++ [t], q.2 ++ [v])) := by
  unfold mst
  by_cases h : inB t 10 17 = true
  · by_cases hm : t ∈ q.1
    · exact .inr (.inl ⟨h, hm, by simp [h, hm]⟩)
    · exact .inr (.inr ⟨h, hm, by simp [h, hm]⟩)
  · have h' : inB t 10 17 = false := by simpa using h
    exact .inl ⟨h', by simp [h']⟩

/-- What one term against one value leaves. -/
def MTOut (w : World) (base g : Nat) (p0 q : PL) (r : Option PL) (e : Ending) (w' : World) : Prop :=
  ∃ q2 ads2, ((r = none ∧ e = .returned (.bool false) ∧ q2 = q) ∨ (r = some q2 ∧ e = .returned (.bool true))) ∧ MS w' base g p0 q2 ads2 ∧ Trn base w w'

theorem ownsMap_trn {w w' : World} {mb n : Nat} {D : DataW Unit} (h : w.ownsMap Tryz.prog 3 (plainElem Tryz.prog 3) mb n D) (hg : ∀ es ck, w.heap[mb]? = some (.map es ck) → w'.heap[mb]? = w.heap[mb]?) : w'.ownsMap Tryz.prog 3 (plainElem Tryz.prog 3) mb n D := by
  obtain ⟨es, ck, hb, r⟩ := h
  exact ⟨es, ck, (hg es ck hb).trans hb, r⟩
theorem ownsMap_block {w : World} {mb n : Nat} {D : DataW Unit} (h : w.ownsMap Tryz.prog 3 (plainElem Tryz.prog 3) mb n D) : ∃ es ck, w.heap[mb]? = some (.map es ck) := by
  obtain ⟨es, ck, hb, _⟩ := h
  exact ⟨es, ck, hb⟩

theorem ownsRow_setBox {w : World} {base g i : Nat} {v u : Value} {n : Nat} {cs : List Value} {bx : Array Value} (h : w.ownsRow base 3 1 v n cs) (hb : Box w g bx 98) : (w.setCell ⟨g, i, none⟩ u).ownsRow base 3 1 v n cs := by
  refine ⟨h.1, ?_⟩
  rcases h.2 with hn | ⟨k, cap, cur, hv, hbk, hk, r⟩
  · exact .inl hn
  · refine .inr ⟨k, cap, cur, hv, hbk, ?_, r⟩
    rw [Below.heap_setCell _ _ _ _ (fun e => by
      have e' : k = g := e
      unfold Box at hb
      rw [e', hb] at hk
      injection hk with hk
      injection hk with _ h2
      exact absurd h2 (by decide))]
    exact hk

set_option maxRecDepth 100000 in
set_option maxHeartbeats 2000000 in
theorem matchTerm_any (base g : Nat) (p0 q : PL) (ads : List Int) (t v : Int) (ht : wf t) (hv : wf v) (hq : q.1.length ≤ 4194304) (ha : ads.length ≤ 2097152) (w : World) (hbw : base ≤ w.heap.size) (h : MS w base g p0 q ads) :
    Calls Tryz.prog 100 #[.pointer (some ⟨g, 0, none⟩), .int .i64 t, .int .i64 v] w (MTOut w base g p0 q (mst q t v)) := by
  obtain ⟨i0, hi, hz0, hz1, hz2⟩ := info_parts int_info
  have H := Lib.hid h
  obtain ⟨hAD, mb, n, vv, D, hB, hM, hR, hL, hn, hmb, hgb⟩ := h
  have g0 := hB.cell 0
  have g1 := hB.cell 1
  have g3 := hB.frozen 1
  have glt := hB.lt
  simp only [List.getElem?_toArray, List.getElem?_cons_zero, List.getElem?_cons_succ] at g0 g1
  have HB := Lib.hid hB
  have HM := Lib.hid hM
  have HR := Lib.hid hR
  have HL := Lib.hid hL
  have HA := Lib.hid hAD
  clear hB hM hR hL hAD
  rcases mst_cases q t v with ⟨h1, hm⟩ | ⟨h1, hin, hm⟩ | ⟨h1, hin, hm⟩
  · have T1 := Lib.hid h1
    have MM := Lib.hid hm
    clear h1 hm g0 g1 g3
    go_enter Tryz.func100, Tryz.ntmps100
    go_wp2_with fail
    refine (impl_IsVar t _).mono ?_
    rintro e w1 ⟨he, rfl⟩
    rw [T1.out] at he
    subst he
    by_cases hs : t = v
    · have d1 : (t == v) = true := by simpa using hs
      have E := Lib.hid (show mst q t v = some q by rw [MM.out, if_pos hs])
      clear hs
      go_wp2
      go_ret
      exact ⟨q, ads, .inr ⟨E.out, rfl⟩, H.out, Trn.refl _ _⟩
    · have d1 : (t == v) = false := by simpa using hs
      have E := Lib.hid (show mst q t v = none by rw [MM.out, if_neg hs])
      clear hs
      go_wp2
      go_ret
      exact ⟨q, ads, .inl ⟨E.out, rfl, rfl⟩, H.out, Trn.refl _ _⟩
  · have T1 := Lib.hid h1
    have MM := Lib.hid hm
    have L1 := Lib.hid ((HL.out.2 t).1.trans (decide_eq_true hin))
    have L2 := Lib.hid ((HL.out.2 t).2 hin)
    have BV := Lib.hid (bval_mem HA.out.2.2 h1 hin)
    clear h1 hm hin
    go_enter Tryz.func100, Tryz.ntmps100
    go_wp2_with fail
    refine (impl_IsVar t _).mono ?_
    rintro e w1 ⟨he, rfl⟩
    rw [T1.out] at he
    subst he
    go_wp2_with (at_lookup; refine wpList_lookup_own_ok_int _ rfl _ _ 96 rfl 3 3 .i64 lawM Tryz.underlying96 Tryz.underlying3 (zeroM _) mb n D rfl HM.out _ _ rfl (keyOf_int_mk Tryz.underlying3 ht) ?_; intro c hat hwc
                 have hc : c = pval q t := by
                   have h2 := hat.symm.trans L2.out
                   injection h2 with h2
                   injection h2
                 have HC := Lib.hid hc
                 rw [L1.out]
                 clear hat hc)
    by_cases hs : c = v
    · have d1 : (c == v) = true := by simpa using hs
      have E := Lib.hid (show mst q t v = some q by rw [MM.out, if_pos (by rw [BV.out, ← HC.out]; exact hs)])
      clear hs
      go_wp2
      go_ret
      exact ⟨q, ads, .inr ⟨E.out, show Ending.returned (.bool (c == v)) = .returned (.bool true) by rw [d1]⟩, H.out, Trn.refl _ _⟩
    · have d1 : (c == v) = false := by simpa using hs
      have E := Lib.hid (show mst q t v = none by rw [MM.out, if_neg (by rw [BV.out, ← HC.out]; exact hs)])
      clear hs
      go_wp2
      go_ret
      exact ⟨q, ads, .inl ⟨E.out, show Ending.returned (.bool (c == v)) = .returned (.bool false) by rw [d1], rfl⟩, H.out, Trn.refl _ _⟩
  · have T1 := Lib.hid h1
    have MM := Lib.hid hm
    have L1 := Lib.hid ((HL.out.2 t).1.trans (decide_eq_false hin))
    have HIN := Lib.hid hin
    obtain ⟨es, ck, hes⟩ := ownsMap_block HM.out
    have HES := Lib.hid hes
    clear h1 hm hin hes
    go_enter Tryz.func100, Tryz.ntmps100
    go_wp2_with fail
    refine (impl_IsVar t _).mono ?_
    rintro e w1 ⟨he, rfl⟩
    rw [T1.out] at he
    subst he
    go_wp2_with (first
      | (at_lookup; refine wpList_lookup_own_ok_int _ rfl _ _ 96 rfl 3 3 .i64 lawM Tryz.underlying96 Tryz.underlying3 (zeroM _) mb n D rfl HM.out _ _ rfl (keyOf_int_mk Tryz.underlying3 ht) ?_; intro c hat hwc
         rw [L1.out]
         clear hat hwc)
      | (at_mapUpdate
         go_loud (
           refine wpList_mapUpdate_own _ rfl _ _ _ 96 rfl 3 3 lawM Tryz.underlying96 _ mb n D rfl HM.out (by unfold maxLen; omega) _ _ _ rfl rfl (keyOf_int_mk Tryz.underlying3 ht) _ [] (plainElem_int Tryz.underlying3 hv) ?_; intro w1 hown1 hgrow1
           have T2 := Lib.hid (Trn.grown_map (base := base) hgrow1 hmb HES.out)
           have HM1 := Lib.hid hown1
           have hbx : Box w1 g #[.map (some mb), vv] 98 := (hgrow1.block g glt (fun e => by
             injection e with e
             have h1 := HB.out
             have h2 := HES.out
             unfold Box at h1
             rw [e] at h1
             rw [h1] at h2
             injection h2 with h2
             cases h2)).trans HB.out
           have HB1 := Lib.hid hbx
           have hrow : w1.ownsRow base 3 1 vv ads.length (ads.map (Value.int .i64)) := HR.out.kept hgrow1 (.inr fun e => by
             rcases HR.out.2 with ⟨rfl, _⟩ | ⟨gg, cap, cur, rfl, _, hh, _⟩
             · simp [Value.ownBlock] at e
             · have hgk : gg = mb := own_some (by rw [e])
               rw [hgk] at hh
               have h2 := HES.out
               rw [hh] at h2
               injection h2 with h2
               cases h2)
           have HR1 := Lib.hid hrow
           have k0 := hbx.cell 0
           have k1 := hbx.cell 1
           have k3 := hbx.frozen 1
           have klt := hbx.lt
           simp only [List.getElem?_toArray, List.getElem?_cons_zero, List.getElem?_cons_succ] at k0 k1
           have hb1 := T2.out.size
           clear hown1 hgrow1 hbx hrow g0 g1 g3))
      | (at_builtin
         go_loud (
           refine wpList_append_own_at _ rfl _ _ 22 rfl base 3 i0 (.int .i64 0) 1 8 Tryz.underlying22 hi hz0 hz1 hz2 rfl (by omega) vv ads.length _ rfl (HR1.out.alloc _) ⟨w1.heap.size, 0, none⟩ 1 1 [.int .i64 t] rfl rfl (cell_one_new _ _ _) (by intro u hu; simp at hu; subst hu; rfl) (by unfold maxLen; omega) (by omega) (by (try simp) <;> omega) ?_; intro v2 w2 hown2 hgrow2 hnil2 hloc2
           have T3 := Lib.hid (T2.out.trans ((Trn.of_below (below_alloc w1 _)).trans (Trn.grown_row hgrow2 (HR1.out.alloc (.cells #[.int .i64 t] 3)))))
           have hbx : Box w2 g #[.map (some mb), vv] 98 := (hgrow2.block g (by simp; omega) (fun e => by
             rcases HR1.out.2 with ⟨rfl, _⟩ | ⟨gg, cap, cur, rfl, _, hh, _⟩
             · simp [Value.ownBlock] at e
             · have hgk : gg = g := own_some e.symm
               rw [hgk] at hh
               have h1 := HB1.out
               unfold Box at h1
               rw [h1] at hh
               injection hh with hh
               injection hh with _ h2
               exact absurd h2 (by decide))).trans (HB1.out.step (below_alloc _ _))
           have HB2 := Lib.hid hbx
           have HM2 := Lib.hid (World.ownsMap.kept (World.ownsMap.alloc HM1.out (.cells #[.int .i64 t] 3)) hgrow2 (fun e => by
             rcases HR1.out.2 with ⟨rfl, _⟩ | ⟨gg, cap, cur, rfl, _, hh, _⟩
             · simp [Value.ownBlock] at e
             · have hgk : gg = mb := own_some e.symm
               rw [hgk] at hh
               obtain ⟨es1, ck1, h2⟩ := ownsMap_block HM1.out
               rw [hh] at h2
               injection h2 with h2
               cases h2))
           have HR2 := Lib.hid hown2
           have k4 := hbx.frozen 1
           have k5 := hbx.cell 1
           simp only [List.getElem?_toArray, List.getElem?_cons_zero, List.getElem?_cons_succ] at k5
           have klt2 := hbx.lt
           have hv2 : ∃ X n c, v2 = .slice X n c := by
             rcases hown2.2 with ⟨h, _⟩ | ⟨_, _, _, h, _⟩ <;> exact ⟨_, _, _, h⟩
           obtain ⟨X2, n2, c2, rfl⟩ := hv2
           clear hown2 hgrow2 hbx k0 k1 k3 hnil2 hloc2)))
    go_ret
    exact ⟨_, ads ++ [t], .inr ⟨MM.out, rfl⟩, ⟨HA.out.add HIN.out, mb, n + 1, _, _, HB2.out.set 1 (.slice X2 n2 c2), ownsMap_trn HM2.out (fun es ck h => Below.heap_setCell _ _ _ _ (fun e => by
      have h1 := HB2.out
      unfold Box at h1
      have e' : mb = g := e
      rw [e'] at h
      rw [h1] at h
      injection h with h
      cases h)), by simpa using ownsRow_setBox HR2.out HB2.out, HL.out.put HA.out.2.2 HIN.out, by simp; omega, hmb, hgb⟩, T3.out.trans (Trn.set hgb HB2.out 1 _)⟩
end Go.Proofs.YtighalbnpgmdfaaGreat
