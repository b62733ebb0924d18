/- What forget leaves of a matching. Conditions: none beyond each theorem's own. -/
import Derived.Test.YtighalbnpgmdfaaGreatMchS
import Derived.Test.YtighalbnpgmdfaaGreatAnP
namespace Go.Proofs.YtighalbnpgmdfaaGreat
open Go.ChangeShapes Go.WideShapes Go.ChangeAt Go.RowKit Go.Sort
open Go.Maps (Keyed int_keyed keyOf_int_mk)
set_option linter.unusedVariables false
set_option linter.unusedSimpArgs false

/-- The binding without what came after its first k places. -/
def cutP (k : Nat) (q : PL) : PL := (q.1.take k, q.2.take k)
theorem pval_cut {q : PL} (hl : q.1.length = q.2.length) {k : Nat} {t : Int} (ht : t ∈ q.1.take k) : pval (cutP k q) t = pval q t := by
  unfold pval cutP
  have h1 : (q.1.take k).idxOf t = q.1.idxOf t := by
    have e : q.1 = q.1.take k ++ q.1.drop k := (List.take_append_drop k q.1).symm
    conv => rhs; rw [e]
    rw [List.idxOf_append, if_pos ht]
  have h2 := List.idxOf_lt_length_iff.2 ht
  show (q.2.take k).getD ((q.1.take k).idxOf t) 0 = _
  rw [h1] at h2 ⊢
  rw [List.length_take] at h2
  rw [List.getD_eq_getElem?_getD, List.getD_eq_getElem?_getD, List.getElem?_take, if_pos (by omega)]
theorem AD.cut {p0 q : PL} {ads : List Int} (h : AD p0 q ads) (h0 : p0.1.length = p0.2.length) {n : Nat} (hn : n ≤ ads.length) : AD p0 (cutP (p0.1.length + n) q) (ads.take n) := by
  obtain ⟨h1, h2, h3⟩ := h
  have e1 : q.1.take (p0.1.length + n) = p0.1 ++ ads.take n := by rw [h1, List.take_append, List.take_of_length_le (by omega)]; congr 1; congr 1; omega
  have e2 : q.2.take (p0.1.length + n) = p0.2 ++ (ads.take n).map (pval q) := by
    rw [h2, List.take_append, List.take_of_length_le (by omega), ← List.map_take]; congr 1; congr 1; congr 1; omega
  refine ⟨e1, ?_, by show (q.1.take _).length = (q.2.take _).length; rw [List.length_take, List.length_take, h3]⟩
  show q.2.take _ = _
  rw [e2]
  congr 1
  refine List.map_congr_left fun x hx => (pval_cut h3 ?_).symm
  rw [e1]
  exact List.mem_append_right _ hx

/-- The map reads as q without the variables S. -/
def DL (D : DataW Unit) (q : PL) (S : List Int) : Prop :=
  Maps.IsMap D ∧ ∀ t, Maps.has D (kt t) = (decide (t ∈ q.1) && !decide (t ∈ S)) ∧ (t ∈ q.1 → t ∉ S → D.atKey (kt t) (.lit (.int .i64 0)) = .lit (.int .i64 (pval q t)))
theorem DL.start {D : DataW Unit} {q : PL} (h : LK D q) : DL D q [] := ⟨h.1, fun t => ⟨by rw [(h.2 t).1]; simp, fun ht _ => (h.2 t).2 ht⟩⟩
theorem DL.del {D : DataW Unit} {q : PL} {S : List Int} (h : DL D q S) (x : Int) : DL (D.del (kt x)) q (S ++ [x]) := by
  refine ⟨h.1.del _, fun t => ?_⟩
  by_cases e : t = x
  · subst e
    refine ⟨by rw [Maps.has_del_same]; simp, fun _ hn => absurd (by simp) hn⟩
  · have ex : t ∈ S ++ [x] ↔ t ∈ S := by simp [e]
    refine ⟨?_, fun h1 h2 => ?_⟩
    · rw [Maps.has_del_other (kt_ne e), (h.2 t).1]
      congr 2
      exact decide_eq_decide.2 ex.symm
    · rw [Maps.atKey_del_other (kt_ne e)]
      exact (h.2 t).2 h1 fun hs => h2 (ex.2 hs)
theorem DL.done {D : DataW Unit} {q : PL} {k : Nat} (h : DL D q (q.1.drop k)) (hd : q.1.Nodup) (hl : q.1.length = q.2.length) : LK D (cutP k q) := by
  have hx : ∀ t, (t ∈ q.1 ∧ t ∉ q.1.drop k) ↔ t ∈ q.1.take k := by
    intro t
    have e : q.1 = q.1.take k ++ q.1.drop k := (List.take_append_drop k q.1).symm
    rw [e] at hd
    have hd' := (List.nodup_append.1 hd).2.2
    constructor
    · rintro ⟨h1, h2⟩
      rw [e] at h1
      rcases List.mem_append.1 h1 with h3 | h3
      · exact h3
      · exact absurd h3 h2
    · intro h1
      refine ⟨List.mem_of_mem_take h1, fun h2 => hd' t h1 t h2 rfl⟩
  refine ⟨h.1, fun t => ⟨?_, fun ht => ?_⟩⟩
  · rw [(h.2 t).1]
    show _ = decide (t ∈ q.1.take k)
    rw [Bool.eq_iff_iff]
    simp only [Bool.and_eq_true, Bool.not_eq_true', decide_eq_true_eq, decide_eq_false_iff_not]
    exact hx t
  · have := (hx t).2 ht
    rw [(h.2 t).2 this.1 this.2, pval_cut hl ht]
theorem ownsMap_fit {w : World} {mb n : Nat} {D : DataW Unit} (h : w.ownsMap Tryz.prog 3 (plainElem Tryz.prog 3) mb n D) : w.ownsMap Tryz.prog 3 (plainElem Tryz.prog 3) mb (Maps.size D) D := by
  obtain ⟨es, ck, h1, h2, h3, h4⟩ := h
  refine ⟨es, ck, h1, h2, ?_, h4⟩
  rw [h4, Maps.size_eq, length_sorted]
  simp
/-- What forget leaves. -/
def FgOut (w : World) (base g : Nat) (p0 q : PL) (ads : List Int) (n : Nat) (e : Ending) (w' : World) : Prop :=
  e = .returned (.tuple #[]) ∧ MS w' base g p0 (cutP (p0.1.length + n) q) (ads.take n) ∧ Trn base w w'
theorem Trn.map_turned {base mb : Nat} {w w' : World} (h : w.mapTurned w' mb) (hb : base ≤ mb) : Trn base w w' := by
  have hg := h.grown
  obtain ⟨es, ck, _, _, h1, _⟩ := h
  exact Trn.grown_map hg hb h1

set_option maxRecDepth 100000 in
set_option maxHeartbeats 4000000 in
theorem forget_any (base g : Nat) (p0 q : PL) (ads : List Int) (n : Nat) (hn : n ≤ ads.length) (h0 : p0.1.length = p0.2.length) (hd : q.1.Nodup) (hw : ∀ x ∈ ads, wf x) (ha : ads.length ≤ 2097152)
    (w : World) (hbw : base ≤ w.heap.size) (h : MS w base g p0 q ads) :
    Calls Tryz.prog 69 #[.pointer (some ⟨g, 0, none⟩), .int .i64 n] w (FgOut w base g p0 q ads n) := by
  obtain ⟨hAD, mb, m, vv, D, hB, hM, hR, hL, hm, hmb, hgb⟩ := h
  have HA := Lib.hid hAD
  have HB := Lib.hid hB
  have g0 := hB.cell 0
  have g1 := hB.cell 1
  have g3 := hB.frozen 1
  have glt := hB.lt
  simp only [List.getElem?_toArray, List.getElem?_cons_zero, List.getElem?_cons_succ] at g0 g1
  have CUT := Lib.hid (hAD.cut h0 hn)
  have ha' : (ads.length : Int) ≤ 2097152 := by omega
  have ql := hAD.lens
  rcases hR.2 with ⟨rfl, hl0⟩ | ⟨gr, cap, cur, rfl, hbk, hk, hnc, hcm, hcs, htk⟩
  · have hae : ads = [] := List.length_eq_zero_iff.1 hl0
    subst hae
    have hn0 : n = 0 := by simpa using hn
    subst hn0
    have hq : cutP (p0.1.length + 0) q = q := by
      have := hAD.2.2
      have e : p0.1.length + 0 = q.1.length := by simpa using ql.symm
      unfold cutP
      rw [e, List.take_length, this, List.take_length]
    have HQ := Lib.hid hq
    have H0 := Lib.hid (show MS (w.setCell ⟨g, 1, none⟩ (.slice none 0 0)) base g p0 (cutP (p0.1.length + 0) q) (([] : List Int).take 0) by
      rw [HQ.out]
      refine ⟨hAD, mb, m, _, D, ?_, ownsMap_trn hM (fun es ck e => Below.heap_setCell _ _ _ _ (fun e' => by
        have h1 := hB
        unfold Box at h1
        have e2 : mb = g := e'
        rw [← e2, e] at h1
        injection h1 with h1
        cases h1)), World.ownsRow_nil _ _ _ _, hL, hm, hmb, hgb⟩
      simpa using hB.set 1 (.slice none 0 0))
    clear hB hM hR hL hAD hq
    go_enter Tryz.func69, Tryz.ntmps69
    go_wp2
    go_loopw [5, 13] (fun _ i wr => i = .int .i64 0 ∧ wr = w) (fun _ _ _ => 0)
    case atStart => exact ⟨rfl, rfl⟩
    case round =>
      obtain ⟨rfl, rfl⟩ := hrel
      go_wp2
      go_end0
      exact ⟨rfl, H0.out, Trn.set hgb HB.out 1 _⟩
  · have HN := Lib.hid hn
    have hn' : (n : Int) ≤ (ads.length : Int) := by omega
    have hn0 : (0 : Int) ≤ (n : Int) := by omega
    have hcap : (ads.length : Int) ≤ (cap : Int) := by omega
    have HR := Lib.hid hR
    have HM := Lib.hid hM
    have HL := Lib.hid (DL.start hL)
    have HW := Lib.hid hw
    have HD := Lib.hid hd
    have SZ := Lib.hid (hM.size_le)
    have QL := Lib.hid hAD.2.2
    have EA := Lib.hid (show q.1.drop (p0.1.length + n) = ads.drop n by rw [hAD.1, List.drop_append, List.drop_eq_nil_iff.2 (by omega), List.nil_append]; congr 1; omega)
    have hmg : mb ≠ g := fun e => by
      obtain ⟨es, ck, h1⟩ := ownsMap_block hM
      unfold Box at hB
      rw [e, hB] at h1
      injection h1 with h1
      cases h1
    have hgr : gr ≠ g := fun e => by
      unfold Box at hB
      rw [e, hB] at hk
      injection hk with hk
      injection hk with _ h2
      exact absurd h2 (by decide)
    have hmr : mb ≠ gr := fun e => by
      obtain ⟨es, ck, h1⟩ := ownsMap_block hM
      rw [e, hk] at h1
      injection h1 with h1
      cases h1
    have grl : gr < w.heap.size := (Array.getElem?_eq_some_iff.1 hk).1
    have KEEP := Lib.hid (show ∀ W : World, W.heap[gr]? = w.heap[gr]? → W.ownsRow base 3 1 (.slice (some ⟨gr, 0, none⟩) (ads.take n).length cap) (ads.take n).length ((ads.take n).map (Value.int .i64)) from fun W hW => by
      have e : (ads.take n).length = n := by rw [List.length_take]; omega
      rw [e]
      refine ⟨by rw [List.length_map, e]; omega, .inr ⟨gr, cap, cur, rfl, hbk, hW.trans hk, by omega, hcm, hcs, ?_⟩⟩
      rw [List.map_take, ← htk, List.take_take]
      congr 1
      omega)
    have en : (ads.take n).length = n := by rw [List.length_take]; omega
    by_cases hcn : n < cap
    · have hcn' : (n : Int) < (cap : Int) := by omega
      clear hR hM hL hB hAD hd hw
      go_enter Tryz.func69, Tryz.ntmps69
      go_wp2
      go_loopw [5, 13] (fun _ i wr => ∃ (j : Nat) (D : DataW Unit), n + j ≤ ads.length ∧ i = .int .i64 j ∧ Hid (DL D q ((ads.drop n).take j)) ∧ Hid (wr.ownsMap Tryz.prog 3 (plainElem Tryz.prog 3) mb m D) ∧ Hid (Maps.size D + j ≤ q.1.length) ∧ Hid (∀ k, k < w.heap.size → k ≠ mb → wr.heap[k]? = w.heap[k]?) ∧ Hid (Trn base w wr)) (fun _ i _ => ads.length - n - (intOf i).toNat)
      case atStart => exact ⟨0, D, by omega, rfl, HL, HM, Lib.hid (by have := SZ.out; omega), Lib.hid (fun _ _ _ => rfl), Lib.hid (Trn.refl _ _)⟩
      case round =>
        clear HL HM SZ
        obtain ⟨j, D, hj, rfl, hDL, hM, hS, hK, hT⟩ := hrel
        have hj0 : (0 : Int) ≤ (j : Int) := by omega
        have x0 := (show Box wr g _ _ from (hK.out g glt (Ne.symm hmg)).trans HB.out).cell 0
        have x1 := (show Box wr g _ _ from (hK.out g glt (Ne.symm hmg)).trans HB.out).cell 1
        have x2 := (show Box wr g _ _ from (hK.out g glt (Ne.symm hmg)).trans HB.out).frozen 1
        simp only [List.getElem?_toArray, List.getElem?_cons_zero, List.getElem?_cons_succ] at x0 x1
        by_cases hlt : n + j < ads.length
        · have hj1 : (j : Int) < ((ads.length - n : Nat) : Int) := by omega
          have hcell : wr.cell? ⟨gr, n + j, none⟩ = some (.int .i64 (ads.getD (n + j) 0)) := by
            rw [World.cell?_of_block (hK.out gr grl (Ne.symm hmr)), World.ownsRow.cellAt HR.out (n + j) (by omega), List.getElem?_map]
            simp [List.getD_eq_getElem?_getD, hlt]
          have W1 := Lib.hid (HW.out _ (getD_mem ads hlt))
          have IN := Lib.hid (show ads.getD (n + j) 0 ∈ q.1 by rw [HA.out.1]; exact List.mem_append_right _ (getD_mem ads hlt))
          have NI := Lib.hid (show ads.getD (n + j) 0 ∉ (ads.drop n).take j by
            have hd2 : (ads.drop n).Nodup := by
              have := HD.out
              rw [HA.out.1] at this
              exact ((List.nodup_append.1 this).2.1).sublist (List.drop_sublist n ads)
            have hl2 : j < (ads.drop n).length := by rw [List.length_drop]; omega
            have e : ads.getD (n + j) 0 = (ads.drop n)[j] := by rw [List.getElem_drop]; simp [List.getD_eq_getElem?_getD, hlt]
            rw [e]
            intro hmem
            obtain ⟨i, hi, he⟩ := List.getElem_of_mem hmem
            rw [List.length_take] at hi
            rw [List.getElem_take] at he
            exact List.pairwise_iff_getElem.1 hd2 i j (by omega) hl2 (by omega) he)
          have TK := Lib.hid (show (ads.drop n).take (j + 1) = (ads.drop n).take j ++ [ads.getD (n + j) 0] by
            have hl2 : j < (ads.drop n).length := by rw [List.length_drop]; omega
            rw [List.take_succ_eq_append_getElem hl2, List.getElem_drop]
            simp [List.getD_eq_getElem?_getD, hlt])
          generalize ads.getD (n + j) 0 = x at hcell W1 IN NI TK
          have HS := Lib.hid (show Maps.has D (kt x) = true by rw [(hDL.out.2 x).1, decide_eq_true IN.out, decide_eq_false NI.out]; rfl)
          go_wp2_with (at_delete; refine wpList_delete_own _ rfl _ _ 96 3 rfl 3 lawM Tryz.underlying96 _ mb m D rfl hM.out _ _ rfl (keyOf_int_mk Tryz.underlying3 W1.out) ?_; intro w1 hown1 hturn1
                       have T1 := Lib.hid (hT.out.trans (Trn.map_turned hturn1 hmb))
                       have O1 := Lib.hid hown1
                       have K1 := Lib.hid (show ∀ k, k < w.heap.size → k ≠ mb → w1.heap[k]? = w.heap[k]? from fun k hk1 hk2 => (hturn1.grown.block k (Nat.lt_of_lt_of_le hk1 hT.out.size) (fun e => hk2 (by injection e))).trans (hK.out k hk1 hk2))
                       have S1 := Lib.hid (show Maps.size (D.del (kt x)) + (j + 1) ≤ q.1.length by
                         have := Maps.size_del (k := kt x) (hM.out.tidy lawM)
                         rw [HS.out, if_pos rfl] at this
                         have := hS.out
                         omega)
                       clear hown1 hturn1)
          go_roundw
          case rel => exact ⟨j + 1, _, by omega, by go_num, Lib.hid (by rw [TK.out]; exact hDL.out.del x), O1, S1, K1, T1⟩
          case measure => simp [intOf]; omega
        · have hje : j = ads.length - n := by omega
          have hnl : ¬ (j : Int) < ((ads.length - n : Nat) : Int) := by omega
          have LE := Lib.hid (show LK D (cutP (p0.1.length + n) q) from DL.done (k := p0.1.length + n) (by
            have := hDL.out
            rw [List.take_of_length_le (by rw [List.length_drop]; omega)] at this
            rw [EA.out]
            exact this) HD.out QL.out)
          have MF := Lib.hid (ownsMap_fit hM.out)
          have FIN := Lib.hid (show MS (wr.setCell ⟨g, 1, none⟩ (.slice (some ⟨gr, 0, none⟩) n cap)) base g p0 (cutP (p0.1.length + n) q) (ads.take n) from by
            have hbx : Box wr g _ _ := (hK.out g glt (Ne.symm hmg)).trans HB.out
            refine ⟨CUT.out, mb, Maps.size D, .slice (some ⟨gr, 0, none⟩) n cap, D, ?_, ownsMap_trn MF.out (fun es ck e => Below.heap_setCell _ _ _ _ hmg), ?_, LE.out, ?_, hmb, hgb⟩
            · simpa using hbx.set 1 (.slice (some ⟨gr, 0, none⟩) n cap)
            · have := KEEP.out (wr.setCell ⟨g, 1, none⟩ (.slice (some ⟨gr, 0, none⟩) n cap)) ((Below.heap_setCell _ _ _ _ hgr).trans (hK.out gr grl (Ne.symm hmr)))
              rw [en] at this ⊢
              exact this
            · show _ ≤ (q.1.take _).length
              rw [List.length_take]
              have := hS.out
              omega)
          have TF := Lib.hid (hT.out.trans (Trn.set hgb (show Box wr g _ _ from (hK.out g glt (Ne.symm hmg)).trans HB.out) 1 (.slice (some ⟨gr, 0, none⟩) n cap)))
          clear KEEP en
          go_wp2
          go_end0
          exact ⟨rfl, FIN.out, TF.out⟩
    · have hnc2 : cap = n := by omega
      have hna : ads.length = n := by omega
      subst hnc2
      have hq : cutP (p0.1.length + ads.length) q = q := by
        have e : p0.1.length + ads.length = q.1.length := ql.symm
        unfold cutP
        rw [e, List.take_length, QL.out, List.take_length]
      have FIN := Lib.hid (show MS (w.setCell ⟨g, 1, none⟩ (.slice (some ⟨gr, 0, none⟩) cap cap)) base g p0 (cutP (p0.1.length + cap) q) (ads.take cap) from by
        rw [← hna, hq, List.take_length]
        rw [← hna] at hB hR
        refine ⟨hAD, mb, m, _, D, ?_, ownsMap_trn hM (fun es ck e => Below.heap_setCell _ _ _ _ hmg), ownsRow_setBox hR hB, hL, hm, hmb, hgb⟩
        simpa using hB.set 1 (.slice (some ⟨gr, 0, none⟩) ads.length ads.length))
      rw [hna] at g1
      clear hR hM hL hB hAD hd hw hq KEEP en
      go_enter Tryz.func69, Tryz.ntmps69
      go_wp2
      go_loopw [5, 13] (fun _ i wr => i = .int .i64 0 ∧ wr = w) (fun _ _ _ => 0)
      case atStart => exact ⟨rfl, rfl⟩
      case round =>
        obtain ⟨rfl, rfl⟩ := hrel
        go_wp2
        go_end0
        exact ⟨rfl, FIN.out, Trn.set hgb HB.out 1 _⟩
end Go.Proofs.YtighalbnpgmdfaaGreat
