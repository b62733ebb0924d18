/- What startMatching leaves. Conditions: none beyond each theorem's own. -/
import Derived.Test.YtighalbnpgmdfaaGreatMchW
namespace Go.Proofs.YtighalbnpgmdfaaGreat
open Go.ChangeShapes Go.WideShapes Go.ChangeAt Go.RowKit Go.Sort
open Go.Maps (Keyed int_keyed keyOf_int_mk)
set_option linter.unusedVariables false
set_option linter.unusedSimpArgs false

theorem LK.skip {D : DataW Unit} {p : PL} (h : LK D p) (hl : p.1.length = p.2.length) {t v : Int} (hin : t ∈ p.1) : LK D (p.1 ++ [t], p.2 ++ [v]) := ⟨h.1, fun x => by
  have e : x ∈ p.1 ++ [t] ↔ x ∈ p.1 := by
    simp only [List.mem_append, List.mem_singleton]
    exact ⟨fun h => h.elim id (fun h => h ▸ hin), .inl⟩
  refine ⟨?_, fun hx => ?_⟩
  · rw [(h.2 x).1]
    exact decide_eq_decide.2 e.symm
  · rw [(h.2 x).2 (e.1 hx), pval_old hl (e.1 hx)]⟩
theorem LK.nil : LK (.map []) ([], []) := ⟨⟨[], rfl⟩, fun x => ⟨rfl, fun h => by simp at h⟩⟩
theorem take_lens {ts vs : List Int} (h : ts.length = vs.length) (k : Nat) : (ts.take k).length = (vs.take k).length := by rw [List.length_take, List.length_take, h]

set_option maxRecDepth 100000 in
set_option maxHeartbeats 2000000 in
theorem start_any (A B : Option Addr) (c d : Nat) (ts vs : List Int) (hts : ∀ x ∈ ts, wf x) (hvs : ∀ x ∈ vs, wf x) (hlen : ts.length = vs.length) (hl : ts.length ≤ 1048576) (w : World) (hA : RI w A ts) (hB : RI w B vs) :
    Calls Tryz.prog 68 #[.agg #[.slice A ts.length c, .slice B vs.length d]] w fun e w' => ∃ g, e = .returned (.pointer (some ⟨g, 0, none⟩)) ∧ MS w' w.heap.size g (ts, vs) (ts, vs) [] ∧ Below w.heap.size w w' := by
  have hmm := @run_makeMap Tryz.prog
  have HL := Lib.hid hlen
  have HA := Lib.hid hA
  have HB := Lib.hid hB
  have HT := Lib.hid hts
  have HV := Lib.hid hvs
  have hlv : (vs.length : Int) ≤ 1048576 := by omega
  have hlt' : (ts.length : Int) ≤ 1048576 := by omega
  have B0 := Lib.hid (step (below_alloc w (.cells #[.slice A ts.length c, .slice B vs.length d] 66)) (below_alloc _ (.map #[] 0)))
  have X0 := Lib.hid ((Box.new w #[.slice A ts.length c, .slice B vs.length d] 66).step (below_alloc _ (.map #[] 0)))
  have M0 := Lib.hid (World.ownsMap_made (w.alloc (.cells #[.slice A ts.length c, .slice B vs.length d] 66)) Tryz.prog 3 (plainElem (H := Unit) Tryz.prog 3))
  rw [al_size] at M0
  obtain ⟨mb, hmb⟩ : ∃ mb, mb = w.heap.size + 1 := ⟨_, rfl⟩
  rw [← hmb] at M0
  have MB := Lib.hid hmb
  clear hA hB hts hvs hlen
  go_enter Tryz.func68, Tryz.ntmps68
  go_wp2
  rw [← hmb]
  clear hmb
  go_loopw [4, 5, 6, 7, 12] (fun _ _ _ _ i wr => ∃ (k n : Nat) (D : DataW Unit), k ≤ ts.length ∧ i = .int .i64 k ∧ Hid (wr.ownsMap Tryz.prog 3 (plainElem Tryz.prog 3) mb n D) ∧ n ≤ k ∧ Hid (LK D (ts.take k, vs.take k)) ∧ Hid (Below w.heap.size w wr) ∧ Hid (Box wr w.heap.size #[.slice A ts.length c, .slice B vs.length d] 66)) (fun _ _ _ _ i _ => ts.length - (intOf i).toNat)
  case atStart => exact ⟨0, 0, _, by omega, rfl, M0, Nat.le_refl _, Lib.hid LK.nil, B0, X0⟩
  case round =>
    obtain ⟨k, n, D, hk, rfl, hM, hn, hL, hBl, hX⟩ := hrel
    by_cases hlt : k < ts.length
    · have hlt2 : k < vs.length := by have := HL.out; omega
      have hk0 : (0 : Int) ≤ (k : Int) := by omega
      have hk1 : (k : Int) < (ts.length : Int) := by omega
      have hk2 : (k : Int) < (vs.length : Int) := by omega
      have x1 := hX.out.cell 1
      have x2 := hX.out.frozen 1
      simp only [List.getElem?_toArray, List.getElem?_cons_zero, List.getElem?_cons_succ] at x1
      obtain ⟨b, off, rfl, _, e1⟩ := (HA.out.step hBl.out).at_ hlt
      obtain ⟨b', off', rfl, _, e2⟩ := (HB.out.step hBl.out).at_ hlt2
      have W1 := Lib.hid (HT.out _ (getD_mem ts hlt))
      have W2 := Lib.hid (HV.out _ (getD_mem vs hlt2))
      generalize hx : ts.getD k 0 = x at e1 W1
      generalize hy : vs.getD k 0 = y at e2 W2
      have HX := Lib.hid hx
      have HY := Lib.hid hy
      clear hx hy
      by_cases hin : x ∈ ts.take k
      · have L1 := Lib.hid ((hL.out.2 x).1.trans (decide_eq_true hin))
        have HI := Lib.hid hin
        clear hin
        go_wp2_with (at_lookup; refine wpList_lookup_own_ok_int _ rfl _ _ 96 rfl 3 3 .i64 lawM Tryz.underlying96 Tryz.underlying3 (zeroM _) mb n D rfl hM.out _ _ rfl (keyOf_int_mk Tryz.underlying3 W1.out) ?_; intro c hat hwc
                     rw [L1.out]
                     clear hat hwc)
        go_round
        case rel => exact ⟨k + 1, n, D, by omega, by go_num, hM, by omega, Lib.hid (by rw [takeI' ts hlt HX.out, takeI' vs hlt2 HY.out]; exact hL.out.skip (take_lens HL.out k) HI.out), hBl, hX⟩
        case measure => simp [intOf]; omega
      · have L1 := Lib.hid ((hL.out.2 x).1.trans (decide_eq_false hin))
        have HI := Lib.hid hin
        clear hin
        go_wp2_with (first
          | (at_lookup; refine wpList_lookup_own_ok_int _ rfl _ _ 96 rfl 3 3 .i64 lawM Tryz.underlying96 Tryz.underlying3 (zeroM _) mb n D rfl hM.out _ _ rfl (keyOf_int_mk Tryz.underlying3 W1.out) ?_; intro c hat hwc
             rw [L1.out]
             clear hat hwc)
          | (at_mapUpdate
             go_loud (
               refine wpList_mapUpdate_own _ rfl _ _ _ 96 rfl 3 3 lawM Tryz.underlying96 _ mb n D rfl hM.out (by unfold maxLen; omega) _ _ _ rfl rfl (keyOf_int_mk Tryz.underlying3 W1.out) _ [] (plainElem_int Tryz.underlying3 W2.out) ?_; intro w1 hown1 hgrow1
               have HM1 := Lib.hid hown1
               have hb1 : Below w.heap.size w w1 := hBl.out.grown hgrow1 (by have := hBl.out.size; omega) (fun k hk => by injection hk with hk; have := MB.out; omega)
               have HB1 := Lib.hid hb1
               have HX1 := Lib.hid ((hgrow1.block _ hX.out.lt (fun e => by injection e with e; have := MB.out; omega)).trans hX.out)
               clear hown1 hgrow1 hb1)))
        go_round
        case rel => exact ⟨k + 1, n + 1, _, by omega, by go_num, HM1, by omega, Lib.hid (by rw [takeI' ts hlt HX.out, takeI' vs hlt2 HY.out]; exact hL.out.put (take_lens HL.out k) HI.out), HB1, HX1⟩
        case measure => simp [intOf]; omega
    · obtain rfl : k = ts.length := by omega
      have HL2 := Lib.hid (show LK D (ts, vs) by have := hL.out; rwa [List.take_length, HL.out, List.take_length] at this)
      go_wp2
      go_ret
      exact ⟨_, rfl, ⟨AD.start HL.out, mb, n, _, D, Box.new _ _ _, hM.out.alloc _, World.ownsRow_nil _ _ _ _, HL2.out, hn, by have := MB.out; omega, hBl.out.size⟩, step hBl.out (below_alloc _ _)⟩
end Go.Proofs.YtighalbnpgmdfaaGreat
