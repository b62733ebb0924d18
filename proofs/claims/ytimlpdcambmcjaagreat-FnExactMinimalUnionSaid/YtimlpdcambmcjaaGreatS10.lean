/- What forget leaves of a matching. Conditions: none beyond each theorem's own. The search for bindings with a list of choices, purely: what is still to come, and how many rounds. Conditions: none beyond each theorem's own. A row of choices of the call's own: read, grown, cut back, one of them turned. Conditions: none beyond each theorem's own. What the two functions that compare lists of numbers answer. Conditions: none beyond each theorem's own. -/
import Derived.Test.YtimlpdcambmcjaaGreatS6
import Derived.Test.YtimlpdcambmcjaaGreatS7
import Derived.Test.YtimlpdcambmcjaaGreatS8
import Derived.Test.YtimlpdcambmcjaaGreatS5
import Derived.Maps.AppendAt
import Derived.Test.YtimlpdcambmcjaaGreatS3

namespace Go.Proofs.YtimlpdcambmcjaaGreat
open Go.ChangeShapes Go.WideShapes Go.ChangeAt Go.RowKit Go.Sort
open Go.Maps (Keyed int_keyed keyOf_int_mk)
set_option linter.unusedVariables false
set_option linter.unusedSimpArgs false

/-- The binding without what came after its first k places. -/
def cutP (k : Nat) (q : PL) : PL := (q.1.take k, q.2.take k)
theorem pval_cut {q : PL} (hl : q.1.length = q.2.length) {k : Nat} {t : Int} (ht : t ∈ q.1.take k) : pval (cutP k q) t = pval q t := by
  unfold pval cutP
  have h1 : (q.1.take k).idxOf t = q.1.idxOf t := by
    have e : q.1 = q.1.take k ++ q.1.drop k := (List.take_append_drop k q.1).symm
    conv => rhs; rw [e]
    rw [List.idxOf_append, if_pos ht]
  have h2 := List.idxOf_lt_length_iff.2 ht
  show (q.2.take k).getD ((q.1.take k).idxOf t) 0 = _
  rw [h1] at h2 ⊢
  rw [List.length_take] at h2
  rw [List.getD_eq_getElem?_getD, List.getD_eq_getElem?_getD, List.getElem?_take, if_pos (by omega)]
theorem AD.cut {p0 q : PL} {ads : List Int} (h : AD p0 q ads) (h0 : p0.1.length = p0.2.length) {n : Nat} (hn : n ≤ ads.length) : AD p0 (cutP (p0.1.length + n) q) (ads.take n) := by
  obtain ⟨h1, h2, h3⟩ := h
  have e1 : q.1.take (p0.1.length + n) = p0.1 ++ ads.take n := by rw [h1, List.take_append, List.take_of_length_le (by omega)]; congr 1; congr 1; omega
  have e2 : q.2.take (p0.1.length + n) = p0.2 ++ (ads.take n).map (pval q) := by
    rw [h2, List.take_append, List.take_of_length_le (by omega), ← List.map_take]; congr 1; congr 1; congr 1; omega
  refine ⟨e1, ?_, by show (q.1.take _).length = (q.2.take _).length; rw [List.length_take, List.length_take, h3]⟩
  show q.2.take _ = _
  rw [e2]
  congr 1
  refine List.map_congr_left fun x hx => (pval_cut h3 ?_).symm
  rw [e1]
  exact List.mem_append_right _ hx

/-- The map reads as q without the variables S. -/
def DL (D : DataW Unit) (q : PL) (S : List Int) : Prop :=
  Maps.IsMap D ∧ ∀ t, Maps.has D (kt t) = (decide (t ∈ q.1) && !decide (t ∈ S)) ∧ (t ∈ q.1 → t ∉ S → D.atKey (kt t) (.lit (.int .i64 0)) = .lit (.int .i64 (pval q t)))
theorem DL.start {D : DataW Unit} {q : PL} (h : LK D q) : DL D q [] := ⟨h.1, fun t => ⟨by rw [(h.2 t).1]; simp, fun ht _ => (h.2 t).2 ht⟩⟩
theorem DL.del {D : DataW Unit} {q : PL} {S : List Int} (h : DL D q S) (x : Int) : DL (D.del (kt x)) q (S ++ [x]) := by
  refine ⟨h.1.del _, fun t => ?_⟩
  by_cases e : t = x
  · subst e
    refine ⟨by rw [Maps.has_del_same]; simp, fun _ hn => absurd (by simp) hn⟩
  · have ex : t ∈ S ++ [x] ↔ t ∈ S := by simp [e]
    refine ⟨?_, fun h1 h2 => ?_⟩
    · rw [Maps.has_del_other (kt_ne e), (h.2 t).1]
      congr 2
      exact decide_eq_decide.2 ex.symm
    · rw [Maps.atKey_del_other (kt_ne e)]
      exact (h.2 t).2 h1 fun hs => h2 (ex.2 hs)
theorem DL.done {D : DataW Unit} {q : PL} {k : Nat} (h : DL D q (q.1.drop k)) (hd : q.1.Nodup) (hl : q.1.length = q.2.length) : LK D (cutP k q) := by
  have hx : ∀ t, (t ∈ q.1 ∧ t ∉ q.1.drop k) ↔ t ∈ q.1.take k := by
    intro t
    have e : q.1 = q.1.take k ++ q.1.drop k := (List.take_append_drop k q.1).symm
    rw [e] at hd
    have hd' := (List.nodup_append.1 hd).2.2
    constructor
    · rintro ⟨h1, h2⟩
      rw [e] at h1
      rcases List.mem_append.1 h1 with h3 | h3
      · exact h3
      · exact absurd h3 h2
    · intro h1
      refine ⟨List.mem_of_mem_take h1, fun h2 => hd' t h1 t h2 rfl⟩
  refine ⟨h.1, fun t => ⟨?_, fun ht => ?_⟩⟩
  · rw [(h.2 t).1]
    show _ = decide (t ∈ q.1.take k)
    rw [Bool.eq_iff_iff]
    simp only [Bool.and_eq_true, Bool.not_eq_true', decide_eq_true_eq, decide_eq_false_iff_not]
    exact hx t
  · have := (hx t).2 ht
    rw [(h.2 t).2 this.1 this.2, pval_cut hl ht]
theorem ownsMap_fit {w : World} {mb n : Nat} {D : DataW Unit} (h : w.ownsMap Tryz.prog 3 (plainElem Tryz.prog 3) mb n D) : w.ownsMap Tryz.prog 3 (plainElem Tryz.prog 3) mb (Maps.size D) D := by
  obtain ⟨es, ck, h1, h2, h3, h4⟩ := h
  refine ⟨es, ck, h1, h2, ?_, h4⟩
  rw [h4, Maps.size_eq, length_sorted]
  simp
/-- What forget leaves. -/
def FgOut (w : World) (base g : Nat) (p0 q : PL) (ads : List Int) (n : Nat) (e : Ending) (w' : World) : Prop :=
  e = .returned (.tuple #[]) ∧ MS w' base g p0 (cutP (p0.1.length + n) q) (ads.take n) ∧ Trn base w w'
theorem Trn.map_turned {base mb : Nat} {w w' : World} (h : w.mapTurned w' mb) (hb : base ≤ mb) : Trn base w w' := by
  have hg := h.grown
  obtain ⟨es, ck, _, _, h1, _⟩ := h
  exact Trn.grown_map hg hb h1

set_option maxRecDepth 100000 in
set_option maxHeartbeats 4000000 in
theorem forget_any (base g : Nat) (p0 q : PL) (ads : List Int) (n : Nat) (hn : n ≤ ads.length) (h0 : p0.1.length = p0.2.length) (hd : q.1.Nodup) (hw : ∀ x ∈ ads, wf x) (ha : ads.length ≤ 2097152)
    (w : World) (hbw : base ≤ w.heap.size) (h : MS w base g p0 q ads) :
    Calls Tryz.prog 145 #[.pointer (some ⟨g, 0, none⟩), .int .i64 n] w (FgOut w base g p0 q ads n) := by
  obtain ⟨hAD, mb, m, vv, D, hB, hM, hR, hL, hm, hmb, hgb⟩ := h
  have HA := Lib.hid hAD
  have HB := Lib.hid hB
  have g0 := hB.cell 0
  have g1 := hB.cell 1
  have g3 := hB.frozen 1
  have glt := hB.lt
  simp only [List.getElem?_toArray, List.getElem?_cons_zero, List.getElem?_cons_succ] at g0 g1
  have CUT := Lib.hid (hAD.cut h0 hn)
  have ha' : (ads.length : Int) ≤ 2097152 := by omega
  have ql := hAD.lens
  rcases hR.2 with ⟨rfl, hl0⟩ | ⟨gr, cap, cur, rfl, hbk, hk, hnc, hcm, hcs, htk⟩
  · have hae : ads = [] := List.length_eq_zero_iff.1 hl0
    subst hae
    have hn0 : n = 0 := by simpa using hn
    subst hn0
    have hq : cutP (p0.1.length + 0) q = q := by
      have := hAD.2.2
      have e : p0.1.length + 0 = q.1.length := by simpa using ql.symm
      unfold cutP
      rw [e, List.take_length, this, List.take_length]
    have HQ := Lib.hid hq
    have H0 := Lib.hid (show MS (w.setCell ⟨g, 1, none⟩ (.slice none 0 0)) base g p0 (cutP (p0.1.length + 0) q) (([] : List Int).take 0) by
      rw [HQ.out]
      refine ⟨hAD, mb, m, _, D, ?_, ownsMap_trn hM (fun es ck e => Below.heap_setCell _ _ _ _ (fun e' => by
        have h1 := hB
        unfold Box at h1
        have e2 : mb = g := e'
        rw [← e2, e] at h1
        injection h1 with h1
        cases h1)), World.ownsRow_nil _ _ _ _, hL, hm, hmb, hgb⟩
      simpa using hB.set 1 (.slice none 0 0))
    clear hB hM hR hL hAD hq
    go_enter Tryz.func145, Tryz.ntmps145
    go_wp2
    go_loopw [5, 13] (fun _ i wr => i = .int .i64 0 ∧ wr = w) (fun _ _ _ => 0)
    case atStart => exact ⟨rfl, rfl⟩
    case round =>
      obtain ⟨rfl, rfl⟩ := hrel
      go_wp2
      go_end0
      exact ⟨rfl, H0.out, Trn.set hgb HB.out 1 _⟩
  · have HN := Lib.hid hn
    have hn' : (n : Int) ≤ (ads.length : Int) := by omega
    have hn0 : (0 : Int) ≤ (n : Int) := by omega
    have hcap : (ads.length : Int) ≤ (cap : Int) := by omega
    have HR := Lib.hid hR
    have HM := Lib.hid hM
    have HL := Lib.hid (DL.start hL)
    have HW := Lib.hid hw
    have HD := Lib.hid hd
    have SZ := Lib.hid (hM.size_le)
    have QL := Lib.hid hAD.2.2
    have EA := Lib.hid (show q.1.drop (p0.1.length + n) = ads.drop n by rw [hAD.1, List.drop_append, List.drop_eq_nil_iff.2 (by omega), List.nil_append]; congr 1; omega)
    have hmg : mb ≠ g := fun e => by
      obtain ⟨es, ck, h1⟩ := ownsMap_block hM
      unfold Box at hB
      rw [e, hB] at h1
      injection h1 with h1
      cases h1
    have hgr : gr ≠ g := fun e => by
      unfold Box at hB
      rw [e, hB] at hk
      injection hk with hk
      injection hk with _ h2
      exact absurd h2 (by decide)
    have hmr : mb ≠ gr := fun e => by
      obtain ⟨es, ck, h1⟩ := ownsMap_block hM
      rw [e, hk] at h1
      injection h1 with h1
      cases h1
    have grl : gr < w.heap.size := (Array.getElem?_eq_some_iff.1 hk).1
    have KEEP := Lib.hid (show ∀ W : World, W.heap[gr]? = w.heap[gr]? → W.ownsRow base 3 1 (.slice (some ⟨gr, 0, none⟩) (ads.take n).length cap) (ads.take n).length ((ads.take n).map (Value.int .i64)) from fun W hW => by
      have e : (ads.take n).length = n := by rw [List.length_take]; omega
      rw [e]
      refine ⟨by rw [List.length_map, e]; omega, .inr ⟨gr, cap, cur, rfl, hbk, hW.trans hk, by omega, hcm, hcs, ?_⟩⟩
      rw [List.map_take, ← htk, List.take_take]
      congr 1
      omega)
    have en : (ads.take n).length = n := by rw [List.length_take]; omega
    by_cases hcn : n < cap
    · have hcn' : (n : Int) < (cap : Int) := by omega
      clear hR hM hL hB hAD hd hw
      go_enter Tryz.func145, Tryz.ntmps145
      go_wp2
      go_loopw [5, 13] (fun _ i wr => ∃ (j : Nat) (D : DataW Unit), n + j ≤ ads.length ∧ i = .int .i64 j ∧ Hid (DL D q ((ads.drop n).take j)) ∧ Hid (wr.ownsMap Tryz.prog 3 (plainElem Tryz.prog 3) mb m D) ∧ Hid (Maps.size D + j ≤ q.1.length) ∧ Hid (∀ k, k < w.heap.size → k ≠ mb → wr.heap[k]? = w.heap[k]?) ∧ Hid (Trn base w wr)) (fun _ i _ => ads.length - n - (intOf i).toNat)
      case atStart => exact ⟨0, D, by omega, rfl, HL, HM, Lib.hid (by have := SZ.out; omega), Lib.hid (fun _ _ _ => rfl), Lib.hid (Trn.refl _ _)⟩
      case round =>
        clear HL HM SZ
        obtain ⟨j, D, hj, rfl, hDL, hM, hS, hK, hT⟩ := hrel
        have hj0 : (0 : Int) ≤ (j : Int) := by omega
        have x0 := (show Box wr g _ _ from (hK.out g glt (Ne.symm hmg)).trans HB.out).cell 0
        have x1 := (show Box wr g _ _ from (hK.out g glt (Ne.symm hmg)).trans HB.out).cell 1
        have x2 := (show Box wr g _ _ from (hK.out g glt (Ne.symm hmg)).trans HB.out).frozen 1
        simp only [List.getElem?_toArray, List.getElem?_cons_zero, List.getElem?_cons_succ] at x0 x1
        by_cases hlt : n + j < ads.length
        · have hj1 : (j : Int) < ((ads.length - n : Nat) : Int) := by omega
          have hcell : wr.cell? ⟨gr, n + j, none⟩ = some (.int .i64 (ads.getD (n + j) 0)) := by
            rw [World.cell?_of_block (hK.out gr grl (Ne.symm hmr)), World.ownsRow.cellAt HR.out (n + j) (by omega), List.getElem?_map]
            simp [List.getD_eq_getElem?_getD, hlt]
          have W1 := Lib.hid (HW.out _ (getD_mem ads hlt))
          have IN := Lib.hid (show ads.getD (n + j) 0 ∈ q.1 by rw [HA.out.1]; exact List.mem_append_right _ (getD_mem ads hlt))
          have NI := Lib.hid (show ads.getD (n + j) 0 ∉ (ads.drop n).take j by
            have hd2 : (ads.drop n).Nodup := by
              have := HD.out
              rw [HA.out.1] at this
              exact ((List.nodup_append.1 this).2.1).sublist (List.drop_sublist n ads)
            have hl2 : j < (ads.drop n).length := by rw [List.length_drop]; omega
            have e : ads.getD (n + j) 0 = (ads.drop n)[j] := by rw [List.getElem_drop]; simp [List.getD_eq_getElem?_getD, hlt]
            rw [e]
            intro hmem
            obtain ⟨i, hi, he⟩ := List.getElem_of_mem hmem
            rw [List.length_take] at hi
            rw [List.getElem_take] at he
            exact List.pairwise_iff_getElem.1 hd2 i j (by omega) hl2 (by omega) he)
          have TK := Lib.hid (show (ads.drop n).take (j + 1) = (ads.drop n).take j ++ [ads.getD (n + j) 0] by
            have hl2 : j < (ads.drop n).length := by rw [List.length_drop]; omega
            rw [List.take_succ_eq_append_getElem hl2, List.getElem_drop]
            simp [List.getD_eq_getElem?_getD, hlt])
          generalize ads.getD (n + j) 0 = x at hcell W1 IN NI TK
          have HS := Lib.hid (show Maps.has D (kt x) = true by rw [(hDL.out.2 x).1, decide_eq_true IN.out, decide_eq_false NI.out]; rfl)
          go_wp2_with (at_delete; refine wpList_delete_own _ rfl _ _ 152 3 rfl 3 lawM Tryz.underlying152 _ mb m D rfl hM.out _ _ rfl (keyOf_int_mk Tryz.underlying3 W1.out) ?_; intro w1 hown1 hturn1
                       have T1 := Lib.hid (hT.out.trans (Trn.map_turned hturn1 hmb))
                       have O1 := Lib.hid hown1
                       have K1 := Lib.hid (show ∀ k, k < w.heap.size → k ≠ mb → w1.heap[k]? = w.heap[k]? from fun k hk1 hk2 => (hturn1.grown.block k (Nat.lt_of_lt_of_le hk1 hT.out.size) (fun e => hk2 (by injection e))).trans (hK.out k hk1 hk2))
                       have S1 := Lib.hid (show Maps.size (D.del (kt x)) + (j + 1) ≤ q.1.length by
                         have := Maps.size_del (k := kt x) (hM.out.tidy lawM)
                         rw [HS.out, if_pos rfl] at this
                         have := hS.out
                         omega)
                       clear hown1 hturn1)
          go_roundw
          case rel => exact ⟨j + 1, _, by omega, by go_num, Lib.hid (by rw [TK.out]; exact hDL.out.del x), O1, S1, K1, T1⟩
          case measure => simp [intOf]; omega
        · have hje : j = ads.length - n := by omega
          have hnl : ¬ (j : Int) < ((ads.length - n : Nat) : Int) := by omega
          have LE := Lib.hid (show LK D (cutP (p0.1.length + n) q) from DL.done (k := p0.1.length + n) (by
            have := hDL.out
            rw [List.take_of_length_le (by rw [List.length_drop]; omega)] at this
            rw [EA.out]
            exact this) HD.out QL.out)
          have MF := Lib.hid (ownsMap_fit hM.out)
          have FIN := Lib.hid (show MS (wr.setCell ⟨g, 1, none⟩ (.slice (some ⟨gr, 0, none⟩) n cap)) base g p0 (cutP (p0.1.length + n) q) (ads.take n) from by
            have hbx : Box wr g _ _ := (hK.out g glt (Ne.symm hmg)).trans HB.out
            refine ⟨CUT.out, mb, Maps.size D, .slice (some ⟨gr, 0, none⟩) n cap, D, ?_, ownsMap_trn MF.out (fun es ck e => Below.heap_setCell _ _ _ _ hmg), ?_, LE.out, ?_, hmb, hgb⟩
            · simpa using hbx.set 1 (.slice (some ⟨gr, 0, none⟩) n cap)
            · have := KEEP.out (wr.setCell ⟨g, 1, none⟩ (.slice (some ⟨gr, 0, none⟩) n cap)) ((Below.heap_setCell _ _ _ _ hgr).trans (hK.out gr grl (Ne.symm hmr)))
              rw [en] at this ⊢
              exact this
            · show _ ≤ (q.1.take _).length
              rw [List.length_take]
              have := hS.out
              omega)
          have TF := Lib.hid (hT.out.trans (Trn.set hgb (show Box wr g _ _ from (hK.out g glt (Ne.symm hmg)).trans HB.out) 1 (.slice (some ⟨gr, 0, none⟩) n cap)))
          clear KEEP en
          go_wp2
          go_end0
          exact ⟨rfl, FIN.out, TF.out⟩
    · have hnc2 : cap = n := by omega
      have hna : ads.length = n := by omega
      subst hnc2
      have hq : cutP (p0.1.length + ads.length) q = q := by
        have e : p0.1.length + ads.length = q.1.length := ql.symm
        unfold cutP
        rw [e, List.take_length, QL.out, List.take_length]
      have FIN := Lib.hid (show MS (w.setCell ⟨g, 1, none⟩ (.slice (some ⟨gr, 0, none⟩) cap cap)) base g p0 (cutP (p0.1.length + cap) q) (ads.take cap) from by
        rw [← hna, hq, List.take_length]
        rw [← hna] at hB hR
        refine ⟨hAD, mb, m, _, D, ?_, ownsMap_trn hM (fun es ck e => Below.heap_setCell _ _ _ _ hmg), ownsRow_setBox hR hB, hL, hm, hmb, hgb⟩
        simpa using hB.set 1 (.slice (some ⟨gr, 0, none⟩) ads.length ads.length))
      rw [hna] at g1
      clear hR hM hL hB hAD hd hw hq KEEP en
      go_enter Tryz.func145, Tryz.ntmps145
      go_wp2
      go_loopw [5, 13] (fun _ i wr => i = .int .i64 0 ∧ wr = w) (fun _ _ _ => 0)
      case atStart => exact ⟨rfl, rfl⟩
      case round =>
        obtain ⟨rfl, rfl⟩ := hrel
        go_wp2
        go_end0
        exact ⟨rfl, FIN.out, Trn.set hgb HB.out 1 _⟩
end Go.Proofs.YtimlpdcambmcjaaGreat

namespace Go.Proofs.YtimlpdcambmcjaaGreat
open Go.ChangeShapes Go.WideShapes Go.ChangeAt Go.RowKit Go.Sort
set_option linter.unusedVariables false
set_option linter.unusedSimpArgs false

/-- What comes of the atoms, from fact number n on for the first of them. -/
def enumN (fs : FL) : FL → Nat → PL → List PL
  | [], _, p => [p]
  | a :: ats, n, p => ((fs.drop n).filterMap (mtF p a)).flatMap (enum fs ats)
/-- How many rounds that takes. -/
def wkE (fs : FL) : FL → PL → Nat
  | [], _ => 1
  | a :: ats, p => 1 + (fs.map fun f => 1 + ((mtF p a f).map (wkE fs ats)).getD 0).sum
def wkN (fs : FL) : FL → Nat → PL → Nat
  | [], _, _ => 1
  | a :: ats, n, p => 1 + ((fs.drop n).map fun f => 1 + ((mtF p a f).map (wkE fs ats)).getD 0).sum
theorem enumN_cons (fs : FL) (a : Int × List Int) (ats : FL) (n : Nat) (p : PL) : enumN fs (a :: ats) n p = ((fs.drop n).filterMap (mtF p a)).flatMap (enum fs ats) := rfl
theorem wkN_cons (fs : FL) (a : Int × List Int) (ats : FL) (n : Nat) (p : PL) : wkN fs (a :: ats) n p = 1 + ((fs.drop n).map fun f => 1 + ((mtF p a f).map (wkE fs ats)).getD 0).sum := rfl
theorem enumN_zero (fs ats : FL) (p : PL) : enumN fs ats 0 p = enum fs ats p := by
  cases ats <;> rfl
theorem wkN_zero (fs ats : FL) (p : PL) : wkN fs ats 0 p = wkE fs ats p := by
  cases ats <;> rfl
theorem drop_at (fs : FL) {n : Nat} (hn : n < fs.length) {f : Int × List Int} (hf : fs.getD n (0, []) = f) : fs.drop n = f :: fs.drop (n + 1) := by
  have e : fs[n] = f := by rw [← hf]; simp [List.getD_eq_getElem?_getD, hn]
  rw [← e, List.drop_eq_getElem_cons hn]
theorem enumN_end (fs : FL) (a : Int × List Int) (ats : FL) (p : PL) {n : Nat} (h : fs.length ≤ n) : enumN fs (a :: ats) n p = [] := by
  rw [enumN_cons, List.drop_eq_nil_iff.2 h]
  rfl
theorem wkN_end (fs : FL) (a : Int × List Int) (ats : FL) (p : PL) {n : Nat} (h : fs.length ≤ n) : wkN fs (a :: ats) n p = 1 := by
  rw [wkN_cons, List.drop_eq_nil_iff.2 h]
  rfl
theorem enumN_no (fs : FL) (a : Int × List Int) (ats : FL) (p : PL) {n : Nat} (hn : n < fs.length) {f : Int × List Int} (hf : fs.getD n (0, []) = f) (hm : mtF p a f = none) : enumN fs (a :: ats) n p = enumN fs (a :: ats) (n + 1) p := by
  rw [enumN_cons, enumN_cons, drop_at fs hn hf, List.filterMap_cons_none hm]
theorem enumN_yes (fs : FL) (a : Int × List Int) (ats : FL) (p : PL) {n : Nat} (hn : n < fs.length) {f : Int × List Int} (hf : fs.getD n (0, []) = f) {q : PL} (hm : mtF p a f = some q) : enumN fs (a :: ats) n p = enumN fs ats 0 q ++ enumN fs (a :: ats) (n + 1) p := by
  rw [enumN_zero]
  rw [enumN_cons, enumN_cons, drop_at fs hn hf, List.filterMap_cons_some hm, List.flatMap_cons]
theorem wkN_no (fs : FL) (a : Int × List Int) (ats : FL) (p : PL) {n : Nat} (hn : n < fs.length) {f : Int × List Int} (hf : fs.getD n (0, []) = f) (hm : mtF p a f = none) : wkN fs (a :: ats) n p = wkN fs (a :: ats) (n + 1) p + 1 := by
  rw [wkN_cons, wkN_cons, drop_at fs hn hf, List.map_cons, List.sum_cons, hm]
  simp only [Option.map_none, Option.getD_none]
  omega
theorem wkN_yes (fs : FL) (a : Int × List Int) (ats : FL) (p : PL) {n : Nat} (hn : n < fs.length) {f : Int × List Int} (hf : fs.getD n (0, []) = f) {q : PL} (hm : mtF p a f = some q) : wkN fs (a :: ats) n p = wkN fs ats 0 q + wkN fs (a :: ats) (n + 1) p + 1 := by
  rw [wkN_zero]
  rw [wkN_cons, wkN_cons, drop_at fs hn hf, List.map_cons, List.sum_cons, hm]
  simp only [Option.map_some, Option.getD_some]
  omega

/-- The choices, the last one first: the next fact, and the binding before it. -/
abbrev CL := List (Nat × PL)
def remC (fs ats : FL) : CL → List PL
  | [] => []
  | (n, p) :: r => enumN fs (ats.drop r.length) n p ++ remC fs ats r
def wkC (fs ats : FL) : CL → Nat
  | [] => 0
  | (n, p) :: r => wkN fs (ats.drop r.length) n p + wkC fs ats r
theorem remC_cons (fs ats : FL) (n : Nat) (p : PL) (r : CL) : remC fs ats ((n, p) :: r) = enumN fs (ats.drop r.length) n p ++ remC fs ats r := rfl
theorem wkC_cons (fs ats : FL) (n : Nat) (p : PL) (r : CL) : wkC fs ats ((n, p) :: r) = wkN fs (ats.drop r.length) n p + wkC fs ats r := rfl
theorem remC_start (fs ats : FL) : remC fs ats [(0, ([], []))] = bnds fs ats := by
  show enumN fs (ats.drop 0) 0 ([], []) ++ [] = _
  rw [List.append_nil, enumN_zero, bnds_enum]
  rfl
/-- The last choice is complete. -/
theorem remC_leaf (fs ats : FL) (n : Nat) (p : PL) (r : CL) (h : r.length = ats.length) : remC fs ats ((n, p) :: r) = p :: remC fs ats r ∧ wkC fs ats ((n, p) :: r) = wkC fs ats r + 1 := by
  rw [remC_cons, wkC_cons, h, List.drop_length]
  exact ⟨rfl, by show 1 + wkC fs ats r = _; omega⟩
theorem drop_atA (ats : FL) {k : Nat} (hk : k < ats.length) {a : Int × List Int} (hf : ats.getD k (0, []) = a) : ats.drop k = a :: ats.drop (k + 1) := drop_at ats hk hf
/-- No fact is left for the last choice. -/
theorem remC_end (fs ats : FL) (n : Nat) (p : PL) (r : CL) (h : r.length < ats.length) (hn : fs.length ≤ n) : remC fs ats ((n, p) :: r) = remC fs ats r ∧ wkC fs ats ((n, p) :: r) = wkC fs ats r + 1 := by
  rw [remC_cons, wkC_cons, drop_atA ats h rfl, enumN_end fs _ _ p hn, wkN_end fs _ _ p hn]
  exact ⟨rfl, by omega⟩
/-- The next fact does not match. -/
theorem remC_no (fs ats : FL) (n : Nat) (p : PL) (r : CL) (h : r.length < ats.length) {a : Int × List Int} (ha : ats.getD r.length (0, []) = a) (hn : n < fs.length) {f : Int × List Int} (hf : fs.getD n (0, []) = f) (hm : mtF p a f = none) :
    remC fs ats ((n, p) :: r) = remC fs ats ((n + 1, p) :: r) ∧ wkC fs ats ((n, p) :: r) = wkC fs ats ((n + 1, p) :: r) + 1 := by
  rw [remC_cons, wkC_cons, remC_cons, wkC_cons, drop_atA ats h ha, enumN_no fs a _ p hn hf hm, wkN_no fs a _ p hn hf hm]
  exact ⟨rfl, by omega⟩
/-- The next fact matches. -/
theorem remC_yes (fs ats : FL) (n : Nat) (p : PL) (r : CL) (h : r.length < ats.length) {a : Int × List Int} (ha : ats.getD r.length (0, []) = a) (hn : n < fs.length) {f : Int × List Int} (hf : fs.getD n (0, []) = f) {q : PL} (hm : mtF p a f = some q) :
    remC fs ats ((n, p) :: r) = remC fs ats ((0, q) :: (n + 1, p) :: r) ∧ wkC fs ats ((n, p) :: r) = wkC fs ats ((0, q) :: (n + 1, p) :: r) + 1 := by
  have e1 := enumN_yes fs a (ats.drop (r.length + 1)) p hn hf hm
  have e2 := wkN_yes fs a (ats.drop (r.length + 1)) p hn hf hm
  have d := drop_atA ats h ha
  show enumN fs (ats.drop r.length) n p ++ remC fs ats r = enumN fs (ats.drop (r.length + 1)) 0 q ++ (enumN fs (ats.drop r.length) (n + 1) p ++ remC fs ats r) ∧
    wkN fs (ats.drop r.length) n p + wkC fs ats r = wkN fs (ats.drop (r.length + 1)) 0 q + (wkN fs (ats.drop r.length) (n + 1) p + wkC fs ats r) + 1
  rw [d, e1, e2, List.append_assoc]
  exact ⟨rfl, by omega⟩
end Go.Proofs.YtimlpdcambmcjaaGreat

namespace Go.Proofs.YtimlpdcambmcjaaGreat
open Go.ChangeShapes Go.WideShapes Go.ChangeAt Go.RowKit Go.Sort
set_option linter.unusedVariables false
set_option linter.unusedSimpArgs false

def flatC (l : List (Int × Int)) : List Value := l.flatMap fun st => [Value.int .i64 st.1, Value.int .i64 st.2]
theorem flatC_snoc (l : List (Int × Int)) (a b : Int) : flatC (l ++ [(a, b)]) = flatC l ++ [.int .i64 a, .int .i64 b] := by simp [flatC]
theorem flatC_len : ∀ l : List (Int × Int), (flatC l).length = l.length * 2
  | [] => rfl
  | st :: l => by
    have := flatC_len l
    show ([Value.int .i64 st.1, Value.int .i64 st.2] ++ flatC l).length = _
    rw [List.length_append, this, List.length_cons]
    simp
    omega
theorem flatC_at : ∀ (l : List (Int × Int)) {k : Nat} (hk : k < l.length), (flatC l)[k * 2]? = some (.int .i64 (l.getD k (0, 0)).1) ∧ (flatC l)[k * 2 + 1]? = some (.int .i64 (l.getD k (0, 0)).2)
  | st :: l, 0, _ => ⟨rfl, rfl⟩
  | st :: l, k + 1, hk => by
    have := flatC_at l (k := k) (by simpa using hk)
    have e : flatC (st :: l) = .int .i64 st.1 :: .int .i64 st.2 :: flatC l := rfl
    rw [e, show (k + 1) * 2 = k * 2 + 1 + 1 by omega, show k * 2 + 1 + 1 + 1 = k * 2 + 1 + 1 + 1 by rfl]
    simpa using this
/-- A row of choices of the call's own, not nil. -/
def ZC (w : World) (base : Nat) (g cap : Nat) (l : List (Int × Int)) : Prop :=
  ∃ cur, base ≤ g ∧ w.heap[g]? = some (.cells cur 156 (0, 0)) ∧ l.length ≤ cap ∧ cap ≤ maxLen ∧ cur.size = cap * 2 ∧ cur.toList.take (l.length * 2) = flatC l
theorem ZC.own {w : World} {base g cap : Nat} {l : List (Int × Int)} (h : ZC w base g cap l) : w.ownsRow base 156 2 (.slice (some ⟨g, 0, none⟩) l.length cap) l.length (flatC l) := by
  obtain ⟨cur, h1, h2, h3, h4, h5, h6⟩ := h
  exact ⟨flatC_len l, .inr ⟨g, cap, cur, rfl, h1, h2, h3, h4, h5, h6⟩⟩
theorem ZC.of_own {w : World} {base g cap : Nat} {l : List (Int × Int)} (h : w.ownsRow base 156 2 (.slice (some ⟨g, 0, none⟩) l.length cap) l.length (flatC l)) : ZC w base g cap l := by
  rcases h.2 with ⟨hv, _⟩ | ⟨g', cap', cur, hv, h1, h2, h3, h4, h5, h6⟩
  · cases hv
  · injection hv with e1 e2 e3
    injection e1 with e1
    injection e1 with e1
    subst e1 e3
    exact ⟨cur, h1, h2, h3, h4, h5, h6⟩
theorem ZC.lt {w : World} {base g cap : Nat} {l : List (Int × Int)} (h : ZC w base g cap l) : g < w.heap.size := by
  obtain ⟨cur, h1, h2, _⟩ := h
  exact (Array.getElem?_eq_some_iff.1 h2).1
theorem ZC.keep {w w' : World} {base g cap : Nat} {l : List (Int × Int)} (h : ZC w base g cap l) (e : w'.heap[g]? = w.heap[g]?) : ZC w' base g cap l := by
  obtain ⟨cur, h1, h2, r⟩ := h
  exact ⟨cur, h1, e.trans h2, r⟩
theorem ZC.typed {w : World} {base g cap : Nat} {l : List (Int × Int)} (h : ZC w base g cap l) : ∃ cs fr, w.heap[g]? = some (Obj.cells cs 156 fr) := by
  obtain ⟨cur, h1, h2, _⟩ := h
  exact ⟨_, _, h2⟩
theorem ZC.cells {w : World} {base g cap : Nat} {l : List (Int × Int)} (h : ZC w base g cap l) {k : Nat} (hk : k < l.length) {a b : Int} (hf : l.getD k (0, 0) = (a, b)) :
    w.cell? ⟨g, k * 2, none⟩ = some (.int .i64 a) ∧ w.cell? ⟨g, k * 2 + 1, none⟩ = some (.int .i64 b) := by
  have e := flatC_at l hk
  rw [hf] at e
  have q1 := World.ownsRow.cells h.own (g := g) rfl _ _ e.1
  have q2 := World.ownsRow.cells h.own (g := g) rfl _ _ e.2
  rw [add_eq] at q1 q2
  exact ⟨by simpa using q1, by simpa using q2⟩
theorem ZC.frozen {w : World} {base g cap : Nat} {l : List (Int × Int)} (h : ZC w base g cap l) (i : Nat) : w.frozen? ⟨g, i, none⟩ = false := by
  obtain ⟨cur, h1, h2, _⟩ := h
  simp [World.frozen?, h2]
/-- The row cut back. -/
theorem flatC_take : ∀ (l : List (Int × Int)) (n : Nat), flatC (l.take n) = (flatC l).take (n * 2)
  | [], n => by simp [flatC]
  | st :: l, 0 => by simp [flatC]
  | st :: l, n + 1 => by
    have := flatC_take l n
    have e : flatC (st :: l) = .int .i64 st.1 :: .int .i64 st.2 :: flatC l := rfl
    rw [List.take_succ_cons, e, show (n + 1) * 2 = n * 2 + 1 + 1 by omega, List.take_succ_cons, List.take_succ_cons, ← this]
    rfl
theorem ZC.take {w : World} {base g cap : Nat} {l : List (Int × Int)} (h : ZC w base g cap l) (n : Nat) : ZC w base g cap (l.take n) := by
  obtain ⟨cur, h1, h2, h3, h4, h5, h6⟩ := h
  have hl : (l.take n).length ≤ l.length := by rw [List.length_take]; omega
  refine ⟨cur, h1, h2, by omega, h4, h5, ?_⟩
  rw [flatC_take, ← h6, List.take_take, List.length_take]
  congr 1
  by_cases h : n ≤ l.length
  · rw [Nat.min_eq_left h, Nat.min_eq_left (by omega)]
  · rw [Nat.min_eq_right (by omega), Nat.min_eq_right (by omega)]
/-- The first number of a choice turned. -/
theorem flatC_set : ∀ (l : List (Int × Int)) (k : Nat) (x : Int), k < l.length → flatC (l.set k (x, (l.getD k (0, 0)).2)) = (flatC l).set (k * 2) (.int .i64 x)
  | st :: l, 0, x, _ => rfl
  | st :: l, k + 1, x, hk => by
    have := flatC_set l k x (by simpa using hk)
    have e : flatC (st :: l) = .int .i64 st.1 :: .int .i64 st.2 :: flatC l := rfl
    rw [List.set_cons_succ, e, show (k + 1) * 2 = k * 2 + 1 + 1 by omega, List.set_cons_succ, List.set_cons_succ, ← this]
    rfl
theorem take_setL {α : Type} (l : List α) (n k : Nat) (x : α) (hk : k < n) : (l.set k x).take n = (l.take n).set k x := by
  rw [List.take_set]
theorem ZC.set {w : World} {base g cap : Nat} {l : List (Int × Int)} (h : ZC w base g cap l) {k : Nat} (hk : k < l.length) (x : Int) : ZC (w.setCell ⟨g, k * 2, none⟩ (.int .i64 x)) base g cap (l.set k (x, (l.getD k (0, 0)).2)) := by
  obtain ⟨cur, h1, h2, h3, h4, h5, h6⟩ := h
  have hlt := (Array.getElem?_eq_some_iff.1 h2).1
  refine ⟨cur.setIfInBounds (k * 2) (.int .i64 x), h1, ?_, by rw [List.length_set]; exact h3, h4, by rw [Array.size_setIfInBounds]; exact h5, ?_⟩
  · have h' : w.heap[g] = .cells cur 156 (0, 0) := by simpa [Array.getElem?_eq_getElem hlt] using h2
    show (w.heap.modify g _)[g]? = _
    rw [Array.getElem?_eq_getElem (by simpa using hlt), Array.getElem_modify_self, h']
    rfl
  · rw [Array.toList_setIfInBounds, List.length_set, take_setL _ _ _ _ (by omega), h6, flatC_set l k x hk]

set_option maxRecDepth 100000 in
theorem choice_info : (Tryz.prog.info? 156).map (fun i => (i.zero, i.size, i.bytes)) = some (some (.agg #[.int .i64 0, .int .i64 0]), 2, 16) := by kernel_rfl
/-- append(v, y) of one choice, in a new block. -/
theorem wpList_pushC {P : Program} {W : World} {ops : Array Oper} {rest : List Oper} {o : Oper} {a : Act} {Q : Exit → Act → World → Prop} (hgd : o.guard = none) (s x : Operand) (t : TypeId)
    (ho : o.op = .call { callee := .builtin .append, args := #[s, x], argTypes := #[t, t] })
    (i : TypeInfo) (ht : P.underlying t = some (.slice 156)) (hi : P.info? 156 = some i) (hz : i.zero = some (.agg #[.int .i64 0, .int .i64 0])) (hz1 : i.size = 2) (hz2 : i.bytes = 16)
    {base g cap : Nat} {l : List (Int × Int)} {y1 y2 : Int} (hs : a.eval s = .slice (some ⟨g, 0, none⟩) l.length cap) (hx : a.eval x = .slice (some ⟨W.heap.size, 0, none⟩) 1 1)
    (hown : ZC W base g cap l) (hbase : base ≤ W.heap.size) (hn : l.length + 1 ≤ 1048580)
    (h : ∀ g' cap' w', ZC w' base g' cap' (l ++ [(y1, y2)]) → W.grownBy w' (some g) → (g' = g ∨ W.heap.size ≤ g') → wpList P ops Q rest (a.put o.dst (.slice (some ⟨g', 0, none⟩) (l.length + 1) cap')) w') :
    wpList P ops Q (o :: rest) a (W.alloc (.cells #[.int .i64 y1, .int .i64 y2] 156)) := by
  refine wpList_append_own_at (P := P) _ hgd s x t ho base 156 i _ 2 16 ht hi hz hz1 hz2 rfl (by omega) _ l.length _ hs (hown.own.alloc _) ⟨W.heap.size, 0, none⟩ 1 1 [.int .i64 y1, .int .i64 y2] hx rfl
    (World.news_of_block (cs := #[.int .i64 y1, .int .i64 y2]) (t := 156) (fr := (0, 0)) (heap_alloc_new W _)) (by simp [Value.oneCell'])
    (by unfold maxLen; omega) (by omega) (by simp; omega) ?_
  intro v' w' hown' hg _ hloc
  have hg2 : W.grownBy w' (some g) := (World.grownBy_alloc W _ _).trans hg
  rcases hown'.2 with ⟨_, h0⟩ | ⟨g', cap', cur, hv, _⟩
  · omega
  · subst hv
    refine h g' cap' w' (ZC.of_own (by rw [flatC_snoc, List.length_append]; exact hown')) hg2 ?_
    have hl : (some g' = some g ∨ some g' = some (W.alloc (.cells #[.int .i64 y1, .int .i64 y2] 156)).heap.size) := by
      simpa [Value.ownBlock] using hloc
    rcases hl with e | e
    · injection e with e; exact .inl e
    · injection e with e; rw [al_size] at e; exact .inr (by omega)
end Go.Proofs.YtimlpdcambmcjaaGreat

namespace Go.Proofs.YtimlpdcambmcjaaGreat
open Go.ChangeShapes Go.WideShapes Go.ChangeAt Go.RowKit Go.Sort
set_option linter.unusedVariables false
set_option linter.unusedSimpArgs false

set_option maxRecDepth 100000 in
set_option maxHeartbeats 1000000 in
theorem l2Ints_any (lo hi lo' hi' : Nat) (A A' : Option Addr) (c c' : Nat) (xs ys : List Int) (hl : xs.length ≤ 140737488355328) (hl2 : ys.length ≤ 140737488355328) (w : World) (h : Ints w lo hi A xs) (h' : Ints w lo' hi' A' ys) :
    Calls Tryz.prog 99 #[.slice A xs.length c, .slice A' ys.length c'] w fun e w' => e = .returned (.bool (decide (xs = ys))) ∧ Below w.heap.size w w' := by
  by_cases hlen : xs.length = ys.length
  · have HI := Lib.hid h
    have HJ := Lib.hid h'
    have HL := Lib.hid hlen
    clear h h'
    have hl' : (xs.length : Int) ≤ 140737488355328 := by omega
    rw [← hlen]
    clear hlen
    go_enter Tryz.func99, Tryz.ntmps99
    go_wp2
    go_loopw [5] (fun i wr => ∃ k : Nat, k ≤ xs.length ∧ i = .int .i64 k ∧ xs.take k = ys.take k ∧ Below w.heap.size w wr ∧ wr.heap = w.heap) (fun i _ => xs.length - (intOf i).toNat)
    case atStart => exact ⟨0, by omega, rfl, rfl, Below.refl _ _, rfl⟩
    case round =>
      obtain ⟨k, hk, rfl, ha, hb, hh⟩ := hrel
      have HA := Lib.hid ha
      have HH := Lib.hid hh
      clear ha hh
      by_cases hlt : k < xs.length
      · have HI1 : Ints wr lo hi A xs := HI.out.keep fun b _ _ => by rw [HH.out]
        have HJ1 : Ints wr lo' hi' A' ys := HJ.out.keep fun b _ _ => by rw [HH.out]
        obtain ⟨b, off, rfl, _, _, hc⟩ := HI1.at_ hlt
        obtain ⟨b', off', rfl, _, _, hc'⟩ := HJ1.at_ (show k < ys.length by have := HL.out; omega)
        generalize hx : xs.getD k 0 = x at hc
        generalize hy : ys.getD k 0 = y at hc'
        have HX := Lib.hid hx
        have HY := Lib.hid hy
        clear hx hy HI1 HJ1
        have hk0 : (0 : Int) ≤ (k : Int) := by omega
        have hk1 : (k : Int) < (xs.length : Int) := by omega
        by_cases hin : x = y
        · subst hin
          go_wp2
          go_quiet (fail)
          go_wp2
          go_roundw
          case rel => exact ⟨k + 1, by omega, by go_num, eq_take _ _ HL.out _ hlt HA.out (by rw [HX.out, HY.out]), below_drewN hb _, HH.out⟩
          case measure => simp [intOf]; omega
        · have hd : (x == y) = false := by simpa using hin
          have hd2 : (x != y) = true := by simpa using hin
          go_wp2
          go_quiet (fail)
          go_wp2
          go_ret
          exact ⟨ret_bool (by rw [decide_eq_false]; rintro rfl; exact hin (HX.out.symm.trans HY.out)), below_drewN hb _⟩
      · obtain rfl : k = xs.length := by omega
        go_wp2
        go_ret
        exact ⟨ret_bool (by rw [decide_eq_true]; have := HA.out; rwa [take_all, HL.out, take_all] at this), hb⟩
  · have hd : ((xs.length : Int) == (ys.length : Int)) = false := by simp; omega
    have hd2 : ((xs.length : Int) != (ys.length : Int)) = true := by simp; omega
    have H := Lib.hid hlen
    clear hlen
    go_enter Tryz.func99, Tryz.ntmps99
    go_wp2
    go_ret
    exact ⟨ret_bool (by rw [decide_eq_false]; rintro rfl; exact H.out rfl), Below.refl _ _⟩

set_option maxRecDepth 100000 in
set_option maxHeartbeats 1000000 in
theorem sEqual_any (lo hi lo' hi' : Nat) (A A' : Option Addr) (c c' : Nat) (xs ys : List Int) (hl : xs.length ≤ 140737488355328) (hl2 : ys.length ≤ 140737488355328) (w : World) (h : Ints w lo hi A xs) (h' : Ints w lo' hi' A' ys) :
    Calls Tryz.prog 108 #[.slice A xs.length c, .slice A' ys.length c'] w fun e w' => e = .returned (.bool (decide (xs = ys))) ∧ Below w.heap.size w w' := by
  by_cases hlen : xs.length = ys.length
  · have HI := Lib.hid h
    have HJ := Lib.hid h'
    have HL := Lib.hid hlen
    clear h h'
    have hl' : (xs.length : Int) ≤ 140737488355328 := by omega
    rw [← hlen]
    clear hlen
    go_enter Tryz.func108, Tryz.ntmps108
    go_wp2
    go_loopw [5, 13] (fun _ i wr => ∃ k : Nat, k ≤ xs.length ∧ i = .int .i64 k ∧ xs.take k = ys.take k ∧ Below w.heap.size w wr ∧ wr.heap = w.heap) (fun _ i _ => xs.length - (intOf i).toNat)
    case atStart => exact ⟨0, by omega, rfl, rfl, Below.refl _ _, rfl⟩
    case round =>
      obtain ⟨k, hk, rfl, ha, hb, hh⟩ := hrel
      have HA := Lib.hid ha
      have HH := Lib.hid hh
      clear ha hh
      by_cases hlt : k < xs.length
      · have HI1 : Ints wr lo hi A xs := HI.out.keep fun b _ _ => by rw [HH.out]
        have HJ1 : Ints wr lo' hi' A' ys := HJ.out.keep fun b _ _ => by rw [HH.out]
        obtain ⟨b, off, rfl, _, _, hc⟩ := HI1.at_ hlt
        obtain ⟨b', off', rfl, _, _, hc'⟩ := HJ1.at_ (show k < ys.length by have := HL.out; omega)
        generalize hx : xs.getD k 0 = x at hc
        generalize hy : ys.getD k 0 = y at hc'
        have HX := Lib.hid hx
        have HY := Lib.hid hy
        clear hx hy HI1 HJ1
        have hk0 : (0 : Int) ≤ (k : Int) := by omega
        have hk1 : (k : Int) < (xs.length : Int) := by omega
        by_cases hin : x = y
        · subst hin
          go_wp2
          go_quiet (fail)
          go_wp2
          go_roundw
          case rel => exact ⟨k + 1, by omega, by go_num, eq_take _ _ HL.out _ hlt HA.out (by rw [HX.out, HY.out]), below_drewN hb _, HH.out⟩
          case measure => simp [intOf]; omega
        · have hd : (x == y) = false := by simpa using hin
          have hd2 : (x != y) = true := by simpa using hin
          go_wp2
          go_quiet (fail)
          go_wp2
          go_ret
          exact ⟨ret_bool (by rw [decide_eq_false]; rintro rfl; exact hin (HX.out.symm.trans HY.out)), below_drewN hb _⟩
      · obtain rfl : k = xs.length := by omega
        go_wp2
        go_ret
        exact ⟨ret_bool (by rw [decide_eq_true]; have := HA.out; rwa [take_all, HL.out, take_all] at this), hb⟩
  · have hd : ((xs.length : Int) == (ys.length : Int)) = false := by simp; omega
    have hd2 : ((xs.length : Int) != (ys.length : Int)) = true := by simp; omega
    have H := Lib.hid hlen
    clear hlen
    go_enter Tryz.func108, Tryz.ntmps108
    go_wp2
    go_ret
    exact ⟨ret_bool (by rw [decide_eq_false]; rintro rfl; exact H.out rfl), Below.refl _ _⟩

end Go.Proofs.YtimlpdcambmcjaaGreat
