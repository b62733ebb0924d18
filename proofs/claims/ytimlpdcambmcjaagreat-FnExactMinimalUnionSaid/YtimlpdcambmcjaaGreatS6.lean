/- What match and startMatching leave. Conditions: none beyond each theorem's own. What startMatching leaves. Conditions: none beyond each theorem's own. Lists of lists of numbers in memory: their size, their copy, their comparison by the law. Conditions: none beyond each theorem's own. Marks on lists of facts. Conditions: none beyond each theorem's own. -/
import Derived.Test.YtimlpdcambmcjaaGreatS5
import Derived.Test.YtimlpdcambmcjaaGreatS3

namespace Go.Proofs.YtimlpdcambmcjaaGreat
open Go.ChangeShapes Go.WideShapes Go.ChangeAt Go.RowKit Go.Sort
open Go.Maps (Keyed int_keyed keyOf_int_mk)
set_option linter.unusedVariables false
set_option linter.unusedSimpArgs false

/-- What an atom against a fact leaves of a matching. -/
def matG (q : PL) (r : Int) (ts : List Int) (r' : Int) (vs : List Int) : Option PL := if r = r' ∧ ts.length = vs.length then mgo q ts vs else none
theorem matG_no {q : PL} {r r' : Int} {ts vs : List Int} (h : ¬ (r = r' ∧ ts.length = vs.length)) : matG q r ts r' vs = none := if_neg h
theorem Ints.trn {w w' : World} {base lo : Nat} {A : Option Addr} {xs : List Int} (h : Ints w lo base A xs) (hb : base ≤ w.heap.size) (d : Trn base w w') : Ints w' lo base A xs := h.keep fun b _ h2 => d.block b (by omega) (.inl h2)
theorem AD.lens {p0 q : PL} {ads : List Int} (h : AD p0 q ads) : q.1.length = p0.1.length + ads.length := by rw [h.1, List.length_append]

theorem getD_mem (l : List Int) {k : Nat} (h : k < l.length) : l.getD k 0 ∈ l := by
  rw [List.getD_eq_getElem?_getD, List.getElem?_eq_getElem h]
  exact List.getElem_mem h
theorem ownsRow_below {w w' : World} {base : Nat} {v : Value} {n : Nat} {cs : List Value} (h : w.ownsRow base 3 1 v n cs) (hb : Below w.heap.size w w') : w'.ownsRow base 3 1 v n cs := by
  refine ⟨h.1, ?_⟩
  rcases h.2 with hn | ⟨k, cap, cur, hv, hbk, hk, r⟩
  · exact .inl hn
  · exact .inr ⟨k, cap, cur, hv, hbk, (hb.block k (Array.getElem?_eq_some_iff.1 hk).1).trans hk, r⟩
theorem MS.below {w w' : World} {base g : Nat} {p0 q : PL} {ads : List Int} (hbw : base ≤ w.heap.size) (h : MS w base g p0 q ads) (hb : Below w.heap.size w w') : MS w' base g p0 q ads := by
  obtain ⟨h1, mb, n, v, D, hB, hM, hR, hr⟩ := h
  exact ⟨h1, mb, n, v, D, hB.step hb, ownsMap_trn hM (fun es ck e => hb.block mb (Array.getElem?_eq_some_iff.1 e).1), ownsRow_below hR hb, hr⟩
theorem MS.ad {w : World} {base g : Nat} {p0 q : PL} {ads : List Int} (h : MS w base g p0 q ads) : AD p0 q ads := h.1

/-- What an atom against a fact leaves: where it fails, some of the terms have matched. -/
def MGOut (w : World) (base g : Nat) (p0 q : PL) (ts vs : List Int) (r : Option PL) (e : Ending) (w' : World) : Prop :=
  ∃ q2 ads2, ((r = none ∧ e = .returned (.bool false) ∧ ∃ k, mgo q (ts.take k) (vs.take k) = some q2) ∨ (r = some q2 ∧ e = .returned (.bool true))) ∧ MS w' base g p0 q2 ads2 ∧ Trn base w w'
set_option maxRecDepth 100000 in
set_option maxHeartbeats 2000000 in
theorem match_any (base g : Nat) (p0 q : PL) (ads : List Int) (A B : Option Addr) (c d : Nat) (r r' : Int) (ts vs : List Int) (hts : ∀ x ∈ ts, wf x) (hvs : ∀ x ∈ vs, wf x) (hl : q.1.length + ts.length ≤ 2097152) (hlv : vs.length ≤ 1048576)
    (w : World) (hbw : base ≤ w.heap.size) (hA : Ints w 0 base A ts) (hB : Ints w 0 base B vs) (h : MS w base g p0 q ads) :
    Calls Tryz.prog 146 #[.pointer (some ⟨g, 0, none⟩), .agg #[.int .i64 r, .slice A ts.length c], .agg #[.int .i64 r', .slice B vs.length d]] w (MGOut w base g p0 q ts vs (matG q r ts r' vs)) := by
  have B0 := Lib.hid (step (below_alloc w (.cells #[.int .i64 r, .slice A ts.length c] 67)) (below_alloc _ (.cells #[.int .i64 r', .slice B vs.length d] 77)))
  have H0 := Lib.hid h
  have M0 := Lib.hid (MS.below hbw h B0.out)
  have hq0 := h.ad.2.2
  clear h
  by_cases hg : r = r' ∧ ts.length = vs.length
  · have GE := Lib.hid (show matG q r ts r' vs = mgo q ts vs from if_pos hg)
    obtain ⟨hr, hlen⟩ := hg
    subst hr
    have HL := Lib.hid hlen
    have d0 : ((ts.length : Int) != (vs.length : Int)) = false := by simp; omega
    have XF := Lib.hid (Box.new (w.alloc (.cells #[.int .i64 r, .slice A ts.length c] 67)) #[.int .i64 r, .slice B vs.length d] 77)
    rw [al_size] at XF
    have HA := Lib.hid (hA.below B0.out hbw)
    have HB := Lib.hid (hB.below B0.out hbw)
    have HT := Lib.hid hts
    have HV := Lib.hid hvs
    have hlv' : (vs.length : Int) ≤ 1048576 := by omega
    have hs0 : base ≤ ((w.alloc (.cells #[.int .i64 r, .slice A ts.length c] 67)).alloc (.cells #[.int .i64 r, .slice B vs.length d] 77)).heap.size := Nat.le_trans hbw B0.out.size
    clear hA hB hts hvs hlen
    go_enter Tryz.func146, Tryz.ntmps146
    go_wp2
    go_loopw [7, 8, 26] (fun _ _ i wr => ∃ (k : Nat) (qk : PL) (adk : List Int), k ≤ ts.length ∧ i = .int .i64 k ∧ Hid (mgo q (ts.take k) (vs.take k) = some qk) ∧ Hid (MS wr base g p0 qk adk) ∧ Hid (Trn base ((w.alloc (.cells #[.int .i64 r, .slice A ts.length c] 67)).alloc (.cells #[.int .i64 r, .slice B vs.length d] 77)) wr)) (fun _ _ i _ => ts.length - (intOf i).toNat)
    case atStart => exact ⟨0, q, ads, by omega, rfl, Lib.hid (by simp [mgo]), M0, Lib.hid (Trn.refl _ _)⟩
    case round =>
      obtain ⟨k, qk, adk, hk, rfl, hm, hms, htr⟩ := hrel
      by_cases hlt : k < ts.length
      · have hk0 : (0 : Int) ≤ (k : Int) := by omega
        have hk1 : (k : Int) < (ts.length : Int) := by omega
        have hlt2 : k < vs.length := by have := HL.out; omega
        have hk2 : (k : Int) < (vs.length : Int) := by omega
        have hbk : base ≤ wr.heap.size := Nat.le_trans hs0 htr.out.size
        have X := Lib.hid (XF.out.trn htr.out (by decide) (by decide))
        have x1 := X.out.cell 1
        have x2 := X.out.frozen 1
        simp only [List.getElem?_toArray, List.getElem?_cons_zero, List.getElem?_cons_succ] at x1
        obtain ⟨b, off, rfl, _, _, e1⟩ := (HA.out.trn hs0 htr.out).at_ hlt
        obtain ⟨b', off', rfl, _, _, e2⟩ := (HB.out.trn hs0 htr.out).at_ hlt2
        have W1 := Lib.hid (HT.out _ (getD_mem ts hlt))
        have W2 := Lib.hid (HV.out _ (getD_mem vs hlt2))
        generalize hx : ts.getD k 0 = x at e1 W1
        generalize hy : vs.getD k 0 = y at e2 W2
        have HX := Lib.hid hx
        have HY := Lib.hid hy
        have ql := mgo_len _ _ _ _ hm.out hq0
        have al := hms.out.ad.lens
        have tl : (ts.take k).length ≤ ts.length := by rw [List.length_take]; omega
        clear hx hy
        go_wp2_with fail
        refine (matchTerm_any base g p0 qk adk x y W1.out W2.out (by omega) (by omega) _ hbk hms.out).mono ?_
        rintro e w1 ⟨q2, ads2, hr, hms2, htr2⟩
        have HM2 := Lib.hid hms2
        have HT2 := Lib.hid htr2
        clear hms2 htr2
        rcases hr with ⟨hn, rfl, hqq⟩ | ⟨hn, rfl⟩
        · have HN := Lib.hid hn
          have HQQ := Lib.hid hqq
          clear hn hqq
          go_wp2
          go_ret
          exact ⟨q2, ads2, .inl ⟨by rw [GE.out, mgo_fail HL.out hlt HX.out HY.out hm.out HN.out], rfl, k, by rw [HQQ.out]; exact hm.out⟩, HM2.out, ((Trn.of_below B0.out).mono hbw).trans (htr.out.trans HT2.out)⟩
        · have HN := Lib.hid hn
          clear hn
          go_wp2
          go_round
          case rel => exact ⟨k + 1, q2, ads2, by omega, by go_num, Lib.hid (by rw [mgo_step HL.out hlt HX.out HY.out hm.out, HN.out]), HM2, Lib.hid (htr.out.trans HT2.out)⟩
          case measure => simp [intOf]; omega
      · obtain rfl : k = ts.length := by omega
        go_wp2
        go_ret
        refine ⟨qk, adk, .inr ⟨?_, rfl⟩, hms.out, (Trn.of_below B0.out).trans htr.out⟩
        have := hm.out
        rw [List.take_length, HL.out, List.take_length] at this
        rw [GE.out, this]
  · have GE := Lib.hid (matG_no (q := q) hg)
    have HG := Lib.hid hg
    have hd : r = r' → ((ts.length : Int) != (vs.length : Int)) = true := fun e => by
      have := fun h => HG.out ⟨e, h⟩
      simp; omega
    clear hg
    by_cases hr : r = r'
    · subst hr
      have d0 := hd rfl
      clear hd
      go_enter Tryz.func146, Tryz.ntmps146
      go_wp2
      go_ret
      exact ⟨q, ads, .inl ⟨GE.out, rfl, 0, by simp [mgo]⟩, M0.out, Trn.of_below B0.out⟩
    · have d0 : (r != r') = true := by simpa using hr
      clear hd
      go_enter Tryz.func146, Tryz.ntmps146
      go_wp2
      go_ret
      exact ⟨q, ads, .inl ⟨GE.out, rfl, 0, by simp [mgo]⟩, M0.out, Trn.of_below B0.out⟩
end Go.Proofs.YtimlpdcambmcjaaGreat

namespace Go.Proofs.YtimlpdcambmcjaaGreat
open Go.ChangeShapes Go.WideShapes Go.ChangeAt Go.RowKit Go.Sort
open Go.Maps (Keyed int_keyed keyOf_int_mk)
set_option linter.unusedVariables false
set_option linter.unusedSimpArgs false

theorem LK.skip {D : DataW Unit} {p : PL} (h : LK D p) (hl : p.1.length = p.2.length) {t v : Int} (hin : t ∈ p.1) : LK D (p.1 ++ [t], p.2 ++ [v]) := ⟨h.1, fun x => by
  have e : x ∈ p.1 ++ [t] ↔ x ∈ p.1 := by
    simp only [List.mem_append, List.mem_singleton]
    exact ⟨fun h => h.elim id (fun h => h ▸ hin), .inl⟩
  refine ⟨?_, fun hx => ?_⟩
  · rw [(h.2 x).1]
    exact decide_eq_decide.2 e.symm
  · rw [(h.2 x).2 (e.1 hx), pval_old hl (e.1 hx)]⟩
theorem LK.nil : LK (.map []) ([], []) := ⟨⟨[], rfl⟩, fun x => ⟨rfl, fun h => by simp at h⟩⟩
theorem take_lens {ts vs : List Int} (h : ts.length = vs.length) (k : Nat) : (ts.take k).length = (vs.take k).length := by rw [List.length_take, List.length_take, h]

set_option maxRecDepth 100000 in
set_option maxHeartbeats 2000000 in
theorem start_any (A B : Option Addr) (c d : Nat) (ts vs : List Int) (hts : ∀ x ∈ ts, wf x) (hvs : ∀ x ∈ vs, wf x) (hlen : ts.length = vs.length) (hl : ts.length ≤ 1048576) (w : World) (hA : RI w A ts) (hB : RI w B vs) :
    Calls Tryz.prog 144 #[.agg #[.slice A ts.length c, .slice B vs.length d]] w fun e w' => ∃ g, e = .returned (.pointer (some ⟨g, 0, none⟩)) ∧ MS w' w.heap.size g (ts, vs) (ts, vs) [] ∧ Below w.heap.size w w' := by
  have hmm := @run_makeMap Tryz.prog
  have HL := Lib.hid hlen
  have HA := Lib.hid hA
  have HB := Lib.hid hB
  have HT := Lib.hid hts
  have HV := Lib.hid hvs
  have hlv : (vs.length : Int) ≤ 1048576 := by omega
  have hlt' : (ts.length : Int) ≤ 1048576 := by omega
  have B0 := Lib.hid (step (below_alloc w (.cells #[.slice A ts.length c, .slice B vs.length d] 100)) (below_alloc _ (.map #[] 0)))
  have X0 := Lib.hid ((Box.new w #[.slice A ts.length c, .slice B vs.length d] 100).step (below_alloc _ (.map #[] 0)))
  have M0 := Lib.hid (World.ownsMap_made (w.alloc (.cells #[.slice A ts.length c, .slice B vs.length d] 100)) Tryz.prog 3 (plainElem (H := Unit) Tryz.prog 3))
  rw [al_size] at M0
  obtain ⟨mb, hmb⟩ : ∃ mb, mb = w.heap.size + 1 := ⟨_, rfl⟩
  rw [← hmb] at M0
  have MB := Lib.hid hmb
  clear hA hB hts hvs hlen
  go_enter Tryz.func144, Tryz.ntmps144
  go_wp2
  rw [← hmb]
  clear hmb
  go_loopw [4, 5, 6, 7, 12] (fun _ _ _ _ i wr => ∃ (k n : Nat) (D : DataW Unit), k ≤ ts.length ∧ i = .int .i64 k ∧ Hid (wr.ownsMap Tryz.prog 3 (plainElem Tryz.prog 3) mb n D) ∧ n ≤ k ∧ Hid (LK D (ts.take k, vs.take k)) ∧ Hid (Below w.heap.size w wr) ∧ Hid (Box wr w.heap.size #[.slice A ts.length c, .slice B vs.length d] 100)) (fun _ _ _ _ i _ => ts.length - (intOf i).toNat)
  case atStart => exact ⟨0, 0, _, by omega, rfl, M0, Nat.le_refl _, Lib.hid LK.nil, B0, X0⟩
  case round =>
    obtain ⟨k, n, D, hk, rfl, hM, hn, hL, hBl, hX⟩ := hrel
    by_cases hlt : k < ts.length
    · have hlt2 : k < vs.length := by have := HL.out; omega
      have hk0 : (0 : Int) ≤ (k : Int) := by omega
      have hk1 : (k : Int) < (ts.length : Int) := by omega
      have hk2 : (k : Int) < (vs.length : Int) := by omega
      have x1 := hX.out.cell 1
      have x2 := hX.out.frozen 1
      simp only [List.getElem?_toArray, List.getElem?_cons_zero, List.getElem?_cons_succ] at x1
      obtain ⟨b, off, rfl, _, e1⟩ := (HA.out.step hBl.out).at_ hlt
      obtain ⟨b', off', rfl, _, e2⟩ := (HB.out.step hBl.out).at_ hlt2
      have W1 := Lib.hid (HT.out _ (getD_mem ts hlt))
      have W2 := Lib.hid (HV.out _ (getD_mem vs hlt2))
      generalize hx : ts.getD k 0 = x at e1 W1
      generalize hy : vs.getD k 0 = y at e2 W2
      have HX := Lib.hid hx
      have HY := Lib.hid hy
      clear hx hy
      by_cases hin : x ∈ ts.take k
      · have L1 := Lib.hid ((hL.out.2 x).1.trans (decide_eq_true hin))
        have HI := Lib.hid hin
        clear hin
        go_wp2_with (at_lookup; refine wpList_lookup_own_ok_int _ rfl _ _ 152 rfl 3 3 .i64 lawM Tryz.underlying152 Tryz.underlying3 (zeroM _) mb n D rfl hM.out _ _ rfl (keyOf_int_mk Tryz.underlying3 W1.out) ?_; intro c hat hwc
                     rw [L1.out]
                     clear hat hwc)
        go_round
        case rel => exact ⟨k + 1, n, D, by omega, by go_num, hM, by omega, Lib.hid (by rw [takeI' ts hlt HX.out, takeI' vs hlt2 HY.out]; exact hL.out.skip (take_lens HL.out k) HI.out), hBl, hX⟩
        case measure => simp [intOf]; omega
      · have L1 := Lib.hid ((hL.out.2 x).1.trans (decide_eq_false hin))
        have HI := Lib.hid hin
        clear hin
        go_wp2_with (first
          | (at_lookup; refine wpList_lookup_own_ok_int _ rfl _ _ 152 rfl 3 3 .i64 lawM Tryz.underlying152 Tryz.underlying3 (zeroM _) mb n D rfl hM.out _ _ rfl (keyOf_int_mk Tryz.underlying3 W1.out) ?_; intro c hat hwc
             rw [L1.out]
             clear hat hwc)
          | (at_mapUpdate
             go_loud (
               refine wpList_mapUpdate_own _ rfl _ _ _ 152 rfl 3 3 lawM Tryz.underlying152 _ mb n D rfl hM.out (by unfold maxLen; omega) _ _ _ rfl rfl (keyOf_int_mk Tryz.underlying3 W1.out) _ [] (plainElem_int Tryz.underlying3 W2.out) ?_; intro w1 hown1 hgrow1
               have HM1 := Lib.hid hown1
               have hb1 : Below w.heap.size w w1 := hBl.out.grown hgrow1 (by have := hBl.out.size; omega) (fun k hk => by injection hk with hk; have := MB.out; omega)
               have HB1 := Lib.hid hb1
               have HX1 := Lib.hid ((hgrow1.block _ hX.out.lt (fun e => by injection e with e; have := MB.out; omega)).trans hX.out)
               clear hown1 hgrow1 hb1)))
        go_round
        case rel => exact ⟨k + 1, n + 1, _, by omega, by go_num, HM1, by omega, Lib.hid (by rw [takeI' ts hlt HX.out, takeI' vs hlt2 HY.out]; exact hL.out.put (take_lens HL.out k) HI.out), HB1, HX1⟩
        case measure => simp [intOf]; omega
    · obtain rfl : k = ts.length := by omega
      have HL2 := Lib.hid (show LK D (ts, vs) by have := hL.out; rwa [List.take_length, HL.out, List.take_length] at this)
      go_wp2
      go_ret
      exact ⟨_, rfl, ⟨AD.start HL.out, mb, n, _, D, Box.new _ _ _, hM.out.alloc _, World.ownsRow_nil _ _ _ _, HL2.out, hn, by have := MB.out; omega, hBl.out.size⟩, step hBl.out (below_alloc _ _)⟩
end Go.Proofs.YtimlpdcambmcjaaGreat

namespace Go.Proofs.YtimlpdcambmcjaaGreat
open Go.ChangeShapes Go.WideShapes Go.ChangeAt Go.RowKit
set_option linter.unusedVariables false
set_option linter.unusedSimpArgs false

abbrev TL := List (List Int)
/-- At the address A lie the lists ts, all of it in blocks from lo to below hi. -/
def Tups (w : World) (lo hi : Nat) (A : Option Addr) (ts : TL) : Prop :=
  ts ≠ [] → ∃ b off, A = some ⟨b, off, none⟩ ∧ lo ≤ b ∧ b < hi ∧ ∀ k, k < ts.length → ∃ B c, w.cell? ⟨b, off + k, none⟩ = some (.slice B (ts.getD k []).length c) ∧ (ts.getD k []).length ≤ c ∧ c ≤ maxLen ∧ Ints w lo hi B (ts.getD k [])
theorem Tups.keep {w w' : World} {lo hi : Nat} {A : Option Addr} {ts : TL} (h : Tups w lo hi A ts) (hk : ∀ b, lo ≤ b → b < hi → w'.heap[b]? = w.heap[b]?) : Tups w' lo hi A ts := fun hx => by
  obtain ⟨b, off, h1, h2, h3, h4⟩ := h hx
  refine ⟨b, off, h1, h2, h3, fun k hkx => ?_⟩
  obtain ⟨B, c, h6, h7, h8, h9⟩ := h4 k hkx
  exact ⟨B, c, (World.cell?_of_block (w := w) (a := ⟨b, off + k, none⟩) (hk b h2 h3)).trans h6, h7, h8, h9.keep hk⟩
theorem Tups.mono {w : World} {lo hi lo' hi' : Nat} {A : Option Addr} {ts : TL} (h : Tups w lo hi A ts) (h1 : lo' ≤ lo) (h2 : hi ≤ hi') : Tups w lo' hi' A ts := fun hx => by
  obtain ⟨b, off, e, h3, h4, h5⟩ := h hx
  refine ⟨b, off, e, by omega, by omega, fun k hk => ?_⟩
  obtain ⟨B, c, g2, g3, g4, g5⟩ := h5 k hk
  exact ⟨B, c, g2, g3, g4, g5.mono h1 h2⟩
/-- At A lie the lists ts. -/
def RT (w : World) (A : Option Addr) (ts : TL) : Prop := Tups w 0 w.heap.size A ts
theorem RT.step {w w' : World} {A : Option Addr} {ts : TL} (h : RT w A ts) (b : Below w.heap.size w w') : RT w' A ts := (Tups.keep h fun k _ h2 => b.block k h2).mono (Nat.le_refl _) b.size
theorem RT.at_ {w : World} {A : Option Addr} {ts : TL} (h : RT w A ts) {k : Nat} (hk : k < ts.length) {xs : List Int} (hf : ts.getD k [] = xs) :
    ∃ b off B c, A = some ⟨b, off, none⟩ ∧ b < w.heap.size ∧ w.cell? ⟨b, off + k, none⟩ = some (.slice B xs.length c) ∧ xs.length ≤ c ∧ c ≤ maxLen ∧ RI w B xs := by
  obtain ⟨b, off, h1, h2, h3, h4⟩ := h (by rintro rfl; simp at hk)
  obtain ⟨B, c, h6, h7, h8, h9⟩ := h4 k hk
  subst hf
  exact ⟨b, off, B, c, h1, h3, h6, h7, h8, h9⟩

section
variable {H : Type} {enc : TypeId × Value → H} {w : World}
set_option maxRecDepth 100000 in
theorem open_tupsT {r : Reach} {base : Nat} {v : Value} {d : DataW H} {p : List MemPlace} (hv : Value.okWide Tryz.prog w r base 42 v) (h : DataW.Trod enc Tryz.prog w 0 (fun _ => true) true 42 v d p) :
    ∃ (A : Option Addr) (c : Nat) (ts : TL), v = .slice A ts.length c ∧ ts.length ≤ c ∧ c ≤ maxLen ∧ RT w A ts := by
  obtain ⟨fuel, hf⟩ := h
  obtain ⟨A0, l0, c0, rfl⟩ := okWide_slice Tryz.underlying42 hv
  have hC : Tryz.prog.cellsOf 22 = 1 := by kernel_rfl
  rcases Go.Deep.open_slice Tryz.underlying42 hf with ⟨hv, _⟩ | ⟨a, len, cap, m, n, D, Pl, hv, _, hl, hm, hmm, _, hi⟩
  · injection hv with hv
    exact ⟨none, 0, [], hv, Nat.le_refl _, by unfold maxLen; omega, fun h => absurd rfl h⟩
  · injection hv with hv
    rw [hC] at hi
    simp only [if_true] at hmm
    have each : ∀ i, i < len → ∃ x : List Int, ∃ B c', w.cell? (a.add (i * 1)) = some (.slice B x.length c') ∧ x.length ≤ c' ∧ c' ≤ maxLen ∧ Ints w 0 w.heap.size B x := by
      intro i hil
      obtain ⟨cs, hc, ht⟩ := hi i (by omega)
      obtain ⟨_, hcl, hat⟩ := World.cells?_some hc
      have k1 : Tryz.prog.cellsOf 3 = 1 := by kernel_rfl
      have e0 := hat 0 (by omega)
      match cs, hcl with
      | [u0], _ =>
        obtain ⟨B, c', xs, hv1, hl, hm, hii⟩ := open_nums (v := u0) Tryz.underlying22 Tryz.underlying3 k1 ht
        subst hv1
        refine ⟨xs, B, c', ?_, hl, hm, hii⟩
        simpa [Go.Deep.add_add] using e0
    obtain ⟨f, hfx⟩ := Go.Deep.choose_lt each
    have hlen : ((List.range len).map f).length = len := by simp
    refine ⟨some a, cap, (List.range len).map f, by rw [hlen]; exact hv, by rw [hlen]; exact hl, hm, fun hne => ?_⟩
    have hpos : 0 < len := by
      rcases Nat.eq_zero_or_pos len with h0 | h0
      · subst h0; simp at hne
      · exact h0
    obtain ⟨b, off, spot⟩ := a
    obtain ⟨_, _, hc0, _⟩ := hfx 0 hpos
    have hspot : spot = none := by simpa [Addr.add] using World.cell?_spot hc0
    subst hspot
    have hb := World.block_lt_of_cell? w _ hc0
    refine ⟨b, off, rfl, by omega, by simpa [Addr.add] using hb, fun k hk => ?_⟩
    have hk' : k < len := by rw [hlen] at hk; exact hk
    have e : ∀ j, (⟨b, off, none⟩ : Addr).add j = ⟨b, off + j, none⟩ := fun j => by unfold Addr.add; split <;> simp_all
    obtain ⟨B, c', g2, g3, g4, g5⟩ := hfx k hk'
    rw [e, Nat.mul_one] at g2
    have hx : ((List.range len).map f).getD k [] = f k := by simp [List.getD_eq_getElem?_getD, hk']
    rw [hx]
    exact ⟨B, c', g2, g3, g4, g5⟩
end

def sumT (l : TL) : Nat := (l.map fun f => f.length).sum
/-- How many values a list of lists holds, each list counted, too. -/
def szT (l : TL) : Int := (l.length : Int) + (sumT l : Int)
theorem szT_nonneg (l : TL) : 0 ≤ szT l := by unfold szT; omega
theorem szT_len {l : TL} (h : szT l ≤ 1048576) : l.length ≤ 1048576 := by unfold szT at h; omega
theorem sumT_take (l : TL) (k : Nat) (hk : k < l.length) : sumT (l.take (k + 1)) = sumT (l.take k) + (l.getD k []).length := by
  unfold sumT
  rw [List.take_succ_eq_append_getElem hk, List.map_append, List.sum_append]
  simp [List.getD_eq_getElem?_getD, hk]
theorem sumT_le (l : TL) (k : Nat) : sumT (l.take k) ≤ sumT l := by
  have : sumT l = sumT (l.take k) + sumT (l.drop k) := by
    unfold sumT
    rw [← List.sum_append, ← List.map_append, List.take_append_drop]
  omega
theorem szT_elem {l : TL} (h : szT l ≤ 1048576) {k : Nat} (hk : k < l.length) : (l.getD k []).length ≤ 1048576 := by
  have h1 := sumT_take l k hk
  have h2 := sumT_le l (k + 1)
  unfold szT at h
  omega

set_option maxRecDepth 100000 in
theorem ints_info : (Tryz.prog.info? 22).map (fun i => (i.zero, i.size, i.bytes)) = some (some (.slice none 0 0), 1, 24) := by kernel_rfl

/-- Block g begins with the first k of the lists ts, their numbers each in a block of its own, all from lo to below hi. -/
def OwnT (w : World) (lo hi g m k : Nat) (ts : TL) : Prop :=
  lo ≤ g ∧ g < hi ∧ ∃ (F : Nat → Value) (bs : Nat → Nat), w.rowIs g 22 m F ∧ (∀ j, j < k → OwnV w lo hi (F j) (bs j) (ts.getD j [])) ∧
    (∀ i j, i < j → j < k → 0 < (ts.getD i []).length → 0 < (ts.getD j []).length → bs i ≠ bs j)

theorem OwnT.tups {w : World} {lo hi g m : Nat} {ts : TL} (h : OwnT w lo hi g m ts.length ts) (hm : ts.length ≤ m) : Tups w lo hi (some ⟨g, 0, none⟩) ts := fun _ => by
  obtain ⟨h1, h2, F, bs, hr, he, _⟩ := h
  refine ⟨g, 0, rfl, h1, h2, fun k hk => ?_⟩
  have e1 := he k hk
  obtain ⟨A, c, hv, _⟩ := id e1
  rw [hv] at e1
  obtain ⟨_, hc, hcm, hi⟩ := e1.ints
  refine ⟨A, c, ?_, hc, hcm, hi⟩
  rw [Nat.zero_add, World.rowIs.cell hr (show k < m by omega), hv]
theorem OwnT.rt {w : World} {lo g m : Nat} {ts : TL} (h : OwnT w lo w.heap.size g m ts.length ts) (hm : ts.length ≤ m) : RT w (some ⟨g, 0, none⟩) ts := (h.tups hm).mono (Nat.zero_le _) (Nat.le_refl _)

/-- One list more is stored. -/
theorem ownT_step {wr u : World} {lo g m k : Nat} {ts : TL} (h : OwnT wr lo wr.heap.size g m k ts) (hkm : k < m) {xs : List Int} (hf : ts.getD k [] = xs) (hb : Below wr.heap.size wr u)
    {v : Value} {q : Nat} (hv : OwnV u lo u.heap.size v q xs) (hq : 0 < xs.length → wr.heap.size ≤ q) :
    OwnT (u.setCell ⟨g, k, none⟩ v) lo (u.setCell ⟨g, k, none⟩ v).heap.size g m (k + 1) ts := by
  rw [set_size]
  obtain ⟨h1, h2, F, bs, hr, he, hd⟩ := h
  have hs := hb.size
  have hr2 : u.rowIs g 22 m F := World.rowIs.of_block hr (hb.block g h2)
  have far : ∀ b, b ≠ g → (u.setCell ⟨g, k, none⟩ v).heap[b]? = u.heap[b]? := fun b hbg => Below.heap_setCell _ ⟨g, k, none⟩ _ b hbg
  have ne : ∀ b, (∃ c, u.heap[b]? = some (.cells c 3 (0, 0))) → b ≠ g := by
    rintro b ⟨c, hc⟩ rfl
    obtain ⟨c2, hc2, _⟩ := hr2
    rw [hc] at hc2
    injection hc2 with hc2
    injection hc2 with _ ht
    exact absurd ht (by decide)
  have hlt : ∀ j, j < k → 0 < (ts.getD j []).length → bs j < wr.heap.size := fun j hj hp => by
    obtain ⟨A, c, _, _, _, hx⟩ := he j hj
    exact (hx hp).2.2.1
  refine ⟨h1, by omega, _, fun j => if j = k then q else bs j, hr2.set k _, fun j hj => ?_, fun i j hij hj hi0 hj0 => ?_⟩
  · by_cases e : j = k
    · subst e
      simp only [if_pos, hf]
      exact hv.keep fun _ _ hc => far _ (ne _ hc)
    · simp only [e, if_false]
      have e2 : OwnV u lo wr.heap.size (F j) (bs j) (ts.getD j []) := (he j (by omega)).keep fun _ a _ => hb.block _ a
      exact (e2.mono (Nat.le_refl _) hs).keep fun _ _ hc => far _ (ne _ hc)
  · by_cases e : j = k
    · subst e
      have e' : i ≠ j := by omega
      simp only [if_pos, e', if_false]
      have := hlt i hij hi0
      rw [hf] at hj0
      have := hq hj0
      omega
    · have e' : i ≠ k := by omega
      simp only [e, e', if_false]
      exact hd i j hij (by omega) hi0 hj0

theorem makeTups (n : Nat) (hn : n ≤ 1048576) :
    ∃ C : Array Value, (∀ i, i < n → C[i]? = some (.slice none 0 0)) ∧ C.size = n ∧ ∀ W : World, (Instr.makeSlice 42 (.int .i64 (n : Int)) (.int .i64 (n : Int))).run Tryz.prog W = .ok (.slice (some ⟨W.heap.size, 0, none⟩) n n) (W.alloc (.cells C 22)) := by
  obtain ⟨i0, hi, hz0, hz1, hz2⟩ := info_parts ints_info
  refine ⟨madeCells #[.slice none 0 0] (n * 1), fun i hin => ?_, by rw [size_madeCells]; omega, fun W => ?_⟩
  · simp [madeCells, hin, Nat.mod_one]
  · have h := run_make (P := Tryz.prog) W 42 22 i0 (.slice none 0 0) Tryz.underlying42 hi hz0 .i64 .i64 (n : Int) (n : Int) (by omega) (by omega) (by rw [hz2]; omega) (by omega)
    rw [hz1, show ((n : Int)).toNat = n by omega] at h
    exact h

theorem ownT_new (w : World) (n : Nat) (C : Array Value) (hC : ∀ i, i < n → C[i]? = some (.slice none 0 0)) (hS : C.size = n) (ts : TL) :
    OwnT (w.alloc (.cells C 22)) w.heap.size (w.alloc (.cells C 22)).heap.size w.heap.size n 0 ts :=
  ⟨Nat.le_refl _, by simp, fun _ => .slice none 0 0, fun _ => 0, ⟨C, by rw [heap_alloc_new], hS, fun i hi => hC i hi⟩, fun j hj => by omega, fun i j _ hj => by omega⟩

set_option maxRecDepth 100000 in
set_option maxHeartbeats 1000000 in
theorem eqIntSS_r (A A' : Option Addr) (c c' : Nat) (ts : TL) (hz : szT ts ≤ 1048576) (w : World) (h : RT w A ts) (h' : RT w A' ts) :
    Calls Tryz.prog 23 #[.slice A ts.length c, .slice A' ts.length c'] w fun e w' => e = .returned (.bool true) ∧ Below w.heap.size w w' := by
  have hl := szT_len hz
  have hl' : (ts.length : Int) ≤ 1048576 := by omega
  have HI := Lib.hid h
  have HJ := Lib.hid h'
  clear h h'
  go_enter Tryz.func23, Tryz.ntmps23
  go_wp2
  go_loopw [5] (fun i wr => ∃ k : Nat, k ≤ ts.length ∧ i = .int .i64 k ∧ Below w.heap.size w wr) (fun i _ => ts.length - (intOf i).toNat)
  case atStart => exact ⟨0, by omega, rfl, Below.refl _ _⟩
  case round =>
    obtain ⟨k, hk, rfl, hb⟩ := hrel
    by_cases hlt : k < ts.length
    · generalize hf : ts.getD k [] = xs
      have hxl : xs.length ≤ 1048576 := by have := szT_elem hz hlt; rw [hf] at this; exact this
      obtain ⟨b, off, B, c2, rfl, n1, e1, _, _, hI⟩ := (HI.out.step hb).at_ hlt hf
      obtain ⟨b', off', B', c2', rfl, n2, e1', _, _, hI'⟩ := (HJ.out.step hb).at_ hlt hf
      have HX := Lib.hid hI
      have HX' := Lib.hid hI'
      clear hf hI hI'
      have hk0 : (0 : Int) ≤ (k : Int) := by omega
      have hk1 : (k : Int) < (ts.length : Int) := by omega
      go_wp2
      go_region_held3 (fun w' => w'.cell? ⟨b, off + k, none⟩ = some (.slice B xs.length c2) ∧ w'.cell? ⟨b', off' + k, none⟩ = some (.slice B' xs.length c2'))
        (first
          | go_keep
          | (go_split_ands; refine ⟨?_, ?_⟩ <;> (rw [d.cell (by (try simp) <;> omega)]; assumption)))
        (first
          | (go_at_call 13; refine (eqIntS_r B B' c2 c2' xs hxl _ (by first | exact HX.out | exact HX.out.step (below_drew _)) (by first | exact HX'.out | exact HX'.out.step (below_drew _))).mono ?_; rintro e u ⟨rfl, d⟩))
      have hb2 : Below w.heap.size w u := by first | exact step hb d | exact step hb (und d)
      clear d
      go_wp2
      go_roundw
      case rel => exact ⟨k + 1, by omega, by go_num, by first | exact hb2 | exact hb2.drew⟩
      case measure => simp [intOf]; omega
    · obtain rfl : k = ts.length := by omega
      go_wp2
      go_ret
      exact ⟨rfl, hb⟩
end Go.Proofs.YtimlpdcambmcjaaGreat

namespace Go.Proofs.YtimlpdcambmcjaaGreat
open Go.ChangeShapes Go.WideShapes Go.ChangeAt Go.RowKit Go.Sort
set_option linter.unusedVariables false
set_option linter.unusedSimpArgs false

/-- The first mark of fact k. -/
def offs (q : Int) (fs : FL) (k : Nat) : Int := q + k + (sumN (fs.take k) : Int)
theorem offs_succ (q : Int) (fs : FL) (k : Nat) (hk : k < fs.length) : offs q fs (k + 1) = offs q fs k + 1 + ((fs.getD k (0, [])).2.length : Int) := by
  unfold offs
  rw [sumN_take fs k hk]
  omega
theorem offs_end (q : Int) (fs : FL) : offs q fs fs.length = q + szF fs := by
  unfold offs szF
  rw [take_all]
  omega
theorem offs_rng (q : Int) (fs : FL) (k : Nat) (hk : k ≤ fs.length) : q ≤ offs q fs k ∧ offs q fs k ≤ q + szF fs := by
  have := sumN_le fs k
  unfold offs szF
  omega
/-- The fact of place j, marked. -/
def mkE (q : Int) (fs : FL) (j : Nat) : Int × List Int := (offs q fs j, marks (offs q fs j + 1) (fs.getD j (0, [])).2.length)
/-- The first k facts are marked. -/
def mkK (q : Int) (fs : FL) (k : Nat) : FL := (List.range fs.length).map fun j => if j < k then mkE q fs j else fs.getD j (0, [])
theorem mkK_length (q : Int) (fs : FL) (k : Nat) : (mkK q fs k).length = fs.length := by simp [mkK]
theorem mkK_getD (q : Int) (fs : FL) (k j : Nat) (hj : j < fs.length) : (mkK q fs k).getD j (0, []) = if j < k then mkE q fs j else fs.getD j (0, []) := by
  simp [mkK, List.getD_eq_getElem?_getD, hj]

theorem OwnP.congr {w : World} {lo hi g m k : Nat} {fs gs : FL} (h : OwnP w lo hi g m k fs) (e : ∀ j, j < k → gs.getD j (0, []) = fs.getD j (0, [])) : OwnP w lo hi g m k gs := by
  obtain ⟨h1, h2, F, bs, hr, he, hd⟩ := h
  refine ⟨h1, h2, F, bs, hr, fun j hj => by rw [e j hj]; exact he j hj, fun i j hij hj => ?_⟩
  rw [e i (by omega), e j hj]
  exact hd i j hij hj

set_option maxRecDepth 100000 in
theorem markIntS_zero (A : Option Addr) (c : Nat) (q : Int) (w : World) (h0 : 0 ≤ q) (h1 : q ≤ 1099511627776) :
    Calls Tryz.prog 14 #[.slice A 0 c, .int .i64 q] w fun e w' => e = .returned (.int .i64 q) ∧ w = w' := by
  go_enter Tryz.func14, Tryz.ntmps14
  go_wp2
  refine wp_loop_rounds 1 ?_
  rw [rounds_succ]
  go_wp2
  go_ret
  exact ⟨rfl, rfl⟩

/-- Fact k is marked: its number first, then its values. -/
theorem mark_step {w w2 : World} {lo hi g m k : Nat} {q : Int} {fs : FL} {F : Nat → Value} {bs : Nat → Nat} (h1 : lo ≤ g) (h2 : g < hi) (hr : w.rowIs g 77 m F)
    (he : ∀ j, j < fs.length → F (j * 2) = .int .i64 ((mkK q fs k).getD j (0, [])).1 ∧ OwnV w lo hi (F (j * 2 + 1)) (bs j) ((mkK q fs k).getD j (0, [])).2)
    (hd : ∀ i j, i < j → j < fs.length → 0 < ((mkK q fs k).getD i (0, [])).2.length → 0 < ((mkK q fs k).getD j (0, [])).2.length → bs i ≠ bs j)
    (hk : k < fs.length) (hm : fs.length * 2 ≤ m)
    (hw : (0 < (fs.getD k (0, [])).2.length ∧ Within (bs k) (bs k + 1) (w.setCell ⟨g, k * 2, none⟩ (.int .i64 (offs q fs k))) w2 ∧
        ∃ (mk : Nat) (Fk : Nat → Value), (fs.getD k (0, [])).2.length ≤ mk ∧ w2.rowIs (bs k) 3 mk (fun i => if i < (fs.getD k (0, [])).2.length then .int .i64 (offs q fs k + 1 + i) else Fk i)) ∨
      ((fs.getD k (0, [])).2.length = 0 ∧ w2 = w.setCell ⟨g, k * 2, none⟩ (.int .i64 (offs q fs k)))) :
    OwnP w2 lo hi g m fs.length (mkK q fs (k + 1)) ∧ Within lo hi w w2 := by
  have hk0 := he k hk
  rw [mkK_getD q fs k k hk, if_neg (by omega)] at hk0
  have lens : ∀ j, j < fs.length → ∀ k', ((mkK q fs k').getD j (0, [])).2.length = (fs.getD j (0, [])).2.length := fun j hj k' => by
    rw [mkK_getD q fs k' j hj]
    split
    · rw [mkE, marks_length]
    · rfl
  have hwithin : Within lo hi w w2 := by
    have h0 : Within lo hi w (w.setCell ⟨g, k * 2, none⟩ (.int .i64 (offs q fs k))) := (Within.refl _ _ _).set h1 h2 _
    rcases hw with ⟨hp, hwi, _⟩ | ⟨_, rfl⟩
    · obtain ⟨a, b⟩ := hk0.2.rng hp
      exact h0.trans (hwi.mono a (by omega))
    · exact h0
  have hne : ∀ j, j < fs.length → 0 < (fs.getD j (0, [])).2.length → bs j ≠ g := fun j hj hp e => by
    obtain ⟨_, A, c, _, _, _, hx⟩ := he j hj
    obtain ⟨_, _, _, mm, FF, _, hrow, _⟩ := hx (by rw [lens j hj]; exact hp)
    obtain ⟨c1, hc1, _⟩ := hrow
    obtain ⟨c2, hc2, _⟩ := hr
    rw [e] at hc1
    rw [hc1] at hc2
    injection hc2 with hc2
    injection hc2 with _ ht
    exact absurd ht (by decide)
  have hrow1 := hr.set (k * 2) (.int .i64 (offs q fs k))
  have hg2 : w2.rowIs g 77 m (fun j => if j = k * 2 then .int .i64 (offs q fs k) else F j) := by
    rcases hw with ⟨hp, hwi, _⟩ | ⟨_, rfl⟩
    · have hn := hne k hk hp
      exact World.rowIs.of_block hrow1 (hwi.block g (by omega))
    · exact hrow1
  refine ⟨⟨h1, h2, _, bs, hg2, fun j hj => ?_, fun i j hij hj hi0 hj0 => ?_⟩, hwithin⟩
  · have t1 : ¬ (j * 2 + 1 = k * 2) := by omega
    simp only [t1, if_false]
    by_cases e : j = k
    · subst e
      rw [show (mkK q fs (j + 1)).getD j (0, []) = mkE q fs j from (mkK_getD q fs (j + 1) j hj).trans (if_pos (by omega))]
      refine ⟨if_pos rfl, ?_⟩
      obtain ⟨A, c, hv, hc, hcm, hx⟩ := hk0.2
      refine ⟨A, c, by rw [hv, mkE, marks_length], by rw [mkE, marks_length]; exact hc, hcm, fun hp => ?_⟩
      rw [mkE, marks_length] at hp
      rcases hw with ⟨_, hwi, mk, Fk, hmk, hrk⟩ | ⟨h0, _⟩
      · obtain ⟨a1, a2, a3, _⟩ := hx hp
        refine ⟨a1, a2, a3, mk, _, by rw [mkE, marks_length]; exact hmk, hrk, fun i hi => ?_⟩
        rw [mkE, marks_length] at hi
        rw [mkE, marks_getD _ _ _ hi, if_pos hi]
      · omega
    · have t2 : ¬ (j * 2 = k * 2) := by omega
      simp only [t2, if_false]
      rw [mkK_getD q fs (k + 1) j hj]
      have hj1 := he j hj
      rw [mkK_getD q fs k j hj] at hj1
      have e2 : (if j < k + 1 then mkE q fs j else fs.getD j (0, [])) = (if j < k then mkE q fs j else fs.getD j (0, [])) := by
        by_cases h : j < k
        · rw [if_pos h, if_pos (by omega)]
        · rw [if_neg h, if_neg (by omega)]
      rw [e2]
      refine ⟨hj1.1, hj1.2.keep_len fun hp _ _ => ?_⟩
      have hp2 : 0 < (fs.getD j (0, [])).2.length := by
        have := lens j hj k
        rw [mkK_getD q fs k j hj] at this
        omega
      have hjg := hne j hj hp2
      have hs := Below.heap_setCell w ⟨g, k * 2, none⟩ (.int .i64 (offs q fs k)) (bs j) hjg
      rcases hw with ⟨hpk, hwi, _⟩ | ⟨_, rfl⟩
      · have hjk : bs j ≠ bs k := by
          rcases Nat.lt_or_gt_of_ne e with h | h
          · exact hd j k h hk (by rw [lens j hj]; exact hp2) (by rw [lens k hk]; exact hpk)
          · exact fun x => hd k j h hj (by rw [lens k hk]; exact hpk) (by rw [lens j hj]; exact hp2) x.symm
        exact (hwi.block (bs j) (by omega)).trans hs
      · exact hs
  · rw [lens i (by omega)] at hi0
    rw [lens j hj] at hj0
    exact hd i j hij hj (by rw [lens i (by omega)]; exact hi0) (by rw [lens j hj]; exact hj0)

set_option maxRecDepth 100000 in
set_option maxHeartbeats 1000000 in
theorem markFactS_any (lo hi g m c : Nat) (q : Int) (fs : FL) (hz : szF fs ≤ 1048577) (h0 : 0 ≤ q) (h1 : q ≤ 16777216) (hm : fs.length * 2 ≤ m) (w : World) (h : OwnP w lo hi g m fs.length fs) :
    Calls Tryz.prog 27 #[.slice (some ⟨g, 0, none⟩) fs.length c, .int .i64 q] w fun e w' => e = .returned (.int .i64 (q + szF fs)) ∧ OwnP w' lo hi g m fs.length (mkK q fs fs.length) ∧ Within lo hi w w' := by
  have hl : fs.length ≤ 1048577 := by unfold szF at hz; omega
  have hl' : (fs.length : Int) ≤ 1048577 := by omega
  have HI := Lib.hid (h.congr fun j hj => (mkK_getD q fs 0 j hj).trans (if_neg (by omega)))
  clear h
  go_enter Tryz.func27, Tryz.ntmps27
  go_wp2
  go_loopw [1, 5] (fun z i wr => ∃ k : Nat, k ≤ fs.length ∧ i = .int .i64 k ∧ z = .int .i64 (offs q fs k) ∧ OwnP wr lo hi g m fs.length (mkK q fs k) ∧ Within lo hi w wr) (fun _ i _ => fs.length - (intOf i).toNat)
  case atStart => exact ⟨0, by omega, rfl, by simp [offs, sumN], HI.out, Within.refl _ _ _⟩
  case round =>
    obtain ⟨k, hk, rfl, rfl, ho, hw⟩ := hrel
    have OR := offs_rng q fs k hk
    by_cases hlt : k < fs.length
    · obtain ⟨hlo, hhi, F, bs, hr, he, hd⟩ := ho
      have hk1 := he k hlt
      rw [mkK_getD q fs k k hlt, if_neg (by omega)] at hk1
      have OS := offs_succ q fs k hlt
      have OR2 := offs_rng q fs (k + 1) (by omega)
      obtain ⟨A, cc, hv, hxc, hxm, hx⟩ := hk1.2
      have MS := Lib.hid fun (w2 : World) => mark_step (w := wr) (w2 := w2) hlo hhi hr he hd hlt hm
      have q0 := hr.cell (show k * 2 < m by omega)
      have q1 := hr.cell (show k * 2 + 1 < m by omega)
      rw [hv] at q1
      have q2 := hr.frozen (k * 2)
      have HW := Lib.hid hw
      have NG := Lib.hid (fun hp => (hx hp).1)
      have NR := Lib.hid (fun hp => (hx hp).2.2.2)
      have NE := Lib.hid (show 0 < (fs.getD k (0, [])).2.length → bs k ≠ g from fun hp e => by
        obtain ⟨_, _, _, mm, FF, _, hrow, _⟩ := hx hp
        obtain ⟨c1, hc1, _⟩ := hrow
        obtain ⟨c2, hc2, _⟩ := hr
        rw [e] at hc1
        rw [hc1] at hc2
        injection hc2 with hc2
        injection hc2 with _ ht
        exact absurd ht (by decide))
      have hxl : (fs.getD k (0, [])).2.length ≤ 1048576 := by
        have h1 := sumN_take fs k hlt
        have h2 := sumN_le fs (k + 1)
        unfold szF at hz
        omega
      generalize hxs : (fs.getD k (0, [])).2 = xs at MS NG NR NE OS q1 hxl
      generalize ho : offs q fs k = o at OR OS MS ⊢
      have HS := Lib.hid OS
      have o1 := OR.1
      have o2 : o ≤ 33554432 := by omega
      have o3 : (xs.length : Int) ≤ 1048576 := by omega
      clear hv hx hr he hd hw hk1 hxs ho OS OR OR2
      by_cases hx0 : xs.length = 0
      · have hx1 : xs = [] := List.eq_nil_of_length_eq_zero hx0
        subst hx1
        go_wp2_with fail
        refine (markIntS_zero A cc (o + 1) _ (by omega) (by omega)).mono ?_
        rintro e u ⟨rfl, rfl⟩
        have M := MS.out (wr.setCell ⟨g, k * 2, none⟩ (.int .i64 o)) (.inr ⟨rfl, rfl⟩)
        have HM := Lib.hid M
        clear M
        go_wp2
        go_roundw
        case rel => exact ⟨k + 1, by omega, by go_num, by rw [HS.out]; simp, HM.out.1, HW.out.trans HM.out.2⟩
        case measure => simp [intOf]; omega
      · have hxp : 0 < xs.length := by omega
        obtain ⟨mk, Fk, hmk, hrow, _⟩ := NR.out hxp
        have nA := NG.out hxp
        subst nA
        have hne := NE.out hxp
        have HROW := Lib.hid hrow
        have HR1 := Lib.hid (World.rowIs.of_block hrow (Below.heap_setCell wr ⟨g, k * 2, none⟩ (.int .i64 o) (bs k) hne))
        clear hrow hx0
        go_wp2_with fail
        refine (markIntS_any (some ⟨bs k, 0, none⟩) (bs k) cc xs.length mk (o + 1) _ hxl (by omega) (by omega) Fk (fun _ => rfl) hmk (fun _ => HR1.out)).mono ?_
        rintro e u ⟨rfl, hwi, hru⟩
        have HM := Lib.hid (MS.out u (.inl ⟨hxp, hwi, mk, Fk, hmk, hru hxp⟩))
        clear hwi hru
        go_wp2
        go_roundw
        case rel => exact ⟨k + 1, by omega, by go_num, by rw [HS.out], HM.out.1, HW.out.trans HM.out.2⟩
        case measure => simp [intOf]; omega
    · obtain rfl : k = fs.length := by omega
      go_wp2
      go_ret
      exact ⟨ret_int (offs_end q fs), ho, hw⟩

/-- Marks are found again. -/
theorem held_ints {w : World} {lo hi : Nat} {A : Option Addr} {k : Int} {n : Nat} {xs : List Int} (h : Ints w lo hi A xs) (e : xs = marks k n) : Ints w lo hi A (marks k n) := e ▸ h

end Go.Proofs.YtimlpdcambmcjaaGreat
