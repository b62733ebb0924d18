/- What match and startMatching leave. Conditions: none beyond each theorem's own. -/
import Derived.Test.YtighalbnpgmdfaaGreatMch
namespace Go.Proofs.YtighalbnpgmdfaaGreat
open Go.ChangeShapes Go.WideShapes Go.ChangeAt Go.RowKit Go.Sort
open Go.Maps (Keyed int_keyed keyOf_int_mk)
set_option linter.unusedVariables false
set_option linter.unusedSimpArgs false

/-- What an atom against a fact leaves of a matching. -/
def matG (q : PL) (r : Int) (ts : List Int) (r' : Int) (vs : List Int) : Option PL := if r = r' ∧ ts.length = vs.length then mgo q ts vs else none
theorem matG_no {q : PL} {r r' : Int} {ts vs : List Int} (h : ¬ (r = r' ∧ ts.length = vs.length)) : matG q r ts r' vs = none := if_neg h
theorem Ints.trn {w w' : World} {base lo : Nat} {A : Option Addr} {xs : List Int} (h : Ints w lo base A xs) (hb : base ≤ w.heap.size) (d : Trn base w w') : Ints w' lo base A xs := h.keep fun b _ h2 => d.block b (by omega) (.inl h2)
theorem AD.lens {p0 q : PL} {ads : List Int} (h : AD p0 q ads) : q.1.length = p0.1.length + ads.length := by rw [h.1, List.length_append]

theorem getD_mem (l : List Int) {k : Nat} (h : k < l.length) : l.getD k 0 ∈ l := by
  rw [List.getD_eq_getElem?_getD, List.getElem?_eq_getElem h]
  exact List.getElem_mem h
theorem ownsRow_below {w w' : World} {base : Nat} {v : Value} {n : Nat} {cs : List Value} (h : w.ownsRow base 3 1 v n cs) (hb : Below w.heap.size w w') : w'.ownsRow base 3 1 v n cs := by
  refine ⟨h.1, ?_⟩
  rcases h.2 with hn | ⟨k, cap, cur, hv, hbk, hk, r⟩
  · exact .inl hn
  · exact .inr ⟨k, cap, cur, hv, hbk, (hb.block k (Array.getElem?_eq_some_iff.1 hk).1).trans hk, r⟩
theorem MS.below {w w' : World} {base g : Nat} {p0 q : PL} {ads : List Int} (hbw : base ≤ w.heap.size) (h : MS w base g p0 q ads) (hb : Below w.heap.size w w') : MS w' base g p0 q ads := by
  obtain ⟨h1, mb, n, v, D, hB, hM, hR, hr⟩ := h
  exact ⟨h1, mb, n, v, D, hB.step hb, ownsMap_trn hM (fun es ck e => hb.block mb (Array.getElem?_eq_some_iff.1 e).1), ownsRow_below hR hb, hr⟩
theorem MS.ad {w : World} {base g : Nat} {p0 q : PL} {ads : List Int} (h : MS w base g p0 q ads) : AD p0 q ads := h.1

/-- What an atom against a fact leaves: where it fails, some of the terms have matched. -/
def MGOut (w : World) (base g : Nat) (p0 q : PL) (ts vs : List Int) (r : Option PL) (e : Ending) (w' : World) : Prop :=
  ∃ q2 ads2, ((r = none ∧ e = .returned (.bool false) ∧ ∃ k, mgo q (ts.take k) (vs.take k) = some q2) ∨ (r = some q2 ∧ e = .returned (.bool true))) ∧ MS w' base g p0 q2 ads2 ∧ Trn base w w'
set_option maxRecDepth 100000 in
set_option maxHeartbeats 2000000 in
theorem match_any (base g : Nat) (p0 q : PL) (ads : List Int) (A B : Option Addr) (c d : Nat) (r r' : Int) (ts vs : List Int) (hts : ∀ x ∈ ts, wf x) (hvs : ∀ x ∈ vs, wf x) (hl : q.1.length + ts.length ≤ 2097152) (hlv : vs.length ≤ 1048576)
    (w : World) (hbw : base ≤ w.heap.size) (hA : Ints w 0 base A ts) (hB : Ints w 0 base B vs) (h : MS w base g p0 q ads) :
    Calls Tryz.prog 70 #[.pointer (some ⟨g, 0, none⟩), .agg #[.int .i64 r, .slice A ts.length c], .agg #[.int .i64 r', .slice B vs.length d]] w (MGOut w base g p0 q ts vs (matG q r ts r' vs)) := by
  have B0 := Lib.hid (step (below_alloc w (.cells #[.int .i64 r, .slice A ts.length c] 81)) (below_alloc _ (.cells #[.int .i64 r', .slice B vs.length d] 59)))
  have H0 := Lib.hid h
  have M0 := Lib.hid (MS.below hbw h B0.out)
  have hq0 := h.ad.2.2
  clear h
  by_cases hg : r = r' ∧ ts.length = vs.length
  · have GE := Lib.hid (show matG q r ts r' vs = mgo q ts vs from if_pos hg)
    obtain ⟨hr, hlen⟩ := hg
    subst hr
    have HL := Lib.hid hlen
    have d0 : ((ts.length : Int) != (vs.length : Int)) = false := by simp; omega
    have XF := Lib.hid (Box.new (w.alloc (.cells #[.int .i64 r, .slice A ts.length c] 81)) #[.int .i64 r, .slice B vs.length d] 59)
    rw [al_size] at XF
    have HA := Lib.hid (hA.below B0.out hbw)
    have HB := Lib.hid (hB.below B0.out hbw)
    have HT := Lib.hid hts
    have HV := Lib.hid hvs
    have hlv' : (vs.length : Int) ≤ 1048576 := by omega
    have hs0 : base ≤ ((w.alloc (.cells #[.int .i64 r, .slice A ts.length c] 81)).alloc (.cells #[.int .i64 r, .slice B vs.length d] 59)).heap.size := Nat.le_trans hbw B0.out.size
    clear hA hB hts hvs hlen
    go_enter Tryz.func70, Tryz.ntmps70
    go_wp2
    go_loopw [7, 8, 26] (fun _ _ i wr => ∃ (k : Nat) (qk : PL) (adk : List Int), k ≤ ts.length ∧ i = .int .i64 k ∧ Hid (mgo q (ts.take k) (vs.take k) = some qk) ∧ Hid (MS wr base g p0 qk adk) ∧ Hid (Trn base ((w.alloc (.cells #[.int .i64 r, .slice A ts.length c] 81)).alloc (.cells #[.int .i64 r, .slice B vs.length d] 59)) wr)) (fun _ _ i _ => ts.length - (intOf i).toNat)
    case atStart => exact ⟨0, q, ads, by omega, rfl, Lib.hid (by simp [mgo]), M0, Lib.hid (Trn.refl _ _)⟩
    case round =>
      obtain ⟨k, qk, adk, hk, rfl, hm, hms, htr⟩ := hrel
      by_cases hlt : k < ts.length
      · have hk0 : (0 : Int) ≤ (k : Int) := by omega
        have hk1 : (k : Int) < (ts.length : Int) := by omega
        have hlt2 : k < vs.length := by have := HL.out; omega
        have hk2 : (k : Int) < (vs.length : Int) := by omega
        have hbk : base ≤ wr.heap.size := Nat.le_trans hs0 htr.out.size
        have X := Lib.hid (XF.out.trn htr.out (by decide) (by decide))
        have x1 := X.out.cell 1
        have x2 := X.out.frozen 1
        simp only [List.getElem?_toArray, List.getElem?_cons_zero, List.getElem?_cons_succ] at x1
        obtain ⟨b, off, rfl, _, _, e1⟩ := (HA.out.trn hs0 htr.out).at_ hlt
        obtain ⟨b', off', rfl, _, _, e2⟩ := (HB.out.trn hs0 htr.out).at_ hlt2
        have W1 := Lib.hid (HT.out _ (getD_mem ts hlt))
        have W2 := Lib.hid (HV.out _ (getD_mem vs hlt2))
        generalize hx : ts.getD k 0 = x at e1 W1
        generalize hy : vs.getD k 0 = y at e2 W2
        have HX := Lib.hid hx
        have HY := Lib.hid hy
        have ql := mgo_len _ _ _ _ hm.out hq0
        have al := hms.out.ad.lens
        have tl : (ts.take k).length ≤ ts.length := by rw [List.length_take]; omega
        clear hx hy
        go_wp2_with fail
        refine (matchTerm_any base g p0 qk adk x y W1.out W2.out (by omega) (by omega) _ hbk hms.out).mono ?_
        rintro e w1 ⟨q2, ads2, hr, hms2, htr2⟩
        have HM2 := Lib.hid hms2
        have HT2 := Lib.hid htr2
        clear hms2 htr2
        rcases hr with ⟨hn, rfl, hqq⟩ | ⟨hn, rfl⟩
        · have HN := Lib.hid hn
          have HQQ := Lib.hid hqq
          clear hn hqq
          go_wp2
          go_ret
          exact ⟨q2, ads2, .inl ⟨by rw [GE.out, mgo_fail HL.out hlt HX.out HY.out hm.out HN.out], rfl, k, by rw [HQQ.out]; exact hm.out⟩, HM2.out, ((Trn.of_below B0.out).mono hbw).trans (htr.out.trans HT2.out)⟩
        · have HN := Lib.hid hn
          clear hn
          go_wp2
          go_round
          case rel => exact ⟨k + 1, q2, ads2, by omega, by go_num, Lib.hid (by rw [mgo_step HL.out hlt HX.out HY.out hm.out, HN.out]), HM2, Lib.hid (htr.out.trans HT2.out)⟩
          case measure => simp [intOf]; omega
      · obtain rfl : k = ts.length := by omega
        go_wp2
        go_ret
        refine ⟨qk, adk, .inr ⟨?_, rfl⟩, hms.out, (Trn.of_below B0.out).trans htr.out⟩
        have := hm.out
        rw [List.take_length, HL.out, List.take_length] at this
        rw [GE.out, this]
  · have GE := Lib.hid (matG_no (q := q) hg)
    have HG := Lib.hid hg
    have hd : r = r' → ((ts.length : Int) != (vs.length : Int)) = true := fun e => by
      have := fun h => HG.out ⟨e, h⟩
      simp; omega
    clear hg
    by_cases hr : r = r'
    · subst hr
      have d0 := hd rfl
      clear hd
      go_enter Tryz.func70, Tryz.ntmps70
      go_wp2
      go_ret
      exact ⟨q, ads, .inl ⟨GE.out, rfl, 0, by simp [mgo]⟩, M0.out, Trn.of_below B0.out⟩
    · have d0 : (r != r') = true := by simpa using hr
      clear hd
      go_enter Tryz.func70, Tryz.ntmps70
      go_wp2
      go_ret
      exact ⟨q, ads, .inl ⟨GE.out, rfl, 0, by simp [mgo]⟩, M0.out, Trn.of_below B0.out⟩
end Go.Proofs.YtighalbnpgmdfaaGreat
