/- What headOf answers. Conditions: none beyond each theorem's own. -/
import Derived.Test.YtighalbnpgmdfaaGreatFgt
import Derived.Maps.OwnOps
namespace Go.Proofs.YtighalbnpgmdfaaGreat
open Go.ChangeShapes Go.WideShapes Go.ChangeAt Go.RowKit Go.Sort
open Go.Maps (Keyed int_keyed keyOf_int_mk)
set_option linter.unusedVariables false
set_option linter.unusedSimpArgs false

/-- Three numbers at most, as an array of three. -/
def hd3 (l : List Int) : Array Value := #[.int .i64 (l.getD 0 0), .int .i64 (l.getD 1 0), .int .i64 (l.getD 2 0)]
theorem hd3_set (l : List Int) (x : Int) (h : l.length < 3) : (hd3 l).setIfInBounds l.length (.int .i64 x) = hd3 (l ++ [x]) := by
  match l, h with
  | [], _ => rfl
  | [a], _ => rfl
  | [a, b], _ => rfl
def headP (hs : List Int) (q : PL) : List Int := hs.map (pval q)
theorem headP_take (hs : List Int) (q : PL) {k : Nat} (hk : k < hs.length) {x : Int} (hx : hs.getD k 0 = x) : headP (hs.take (k + 1)) q = headP (hs.take k) q ++ [pval q x] := by
  have e : hs[k] = x := by rw [← hx]; simp [List.getD_eq_getElem?_getD, hk]
  unfold headP
  rw [List.take_succ_eq_append_getElem hk, e, List.map_append]
  rfl
theorem headP_len (hs : List Int) (q : PL) : (headP hs q).length = hs.length := List.length_map _
theorem headP_T {hs : List Int} {q : PL} (hg : q.1.length = q.2.length) (hv : ∀ h ∈ hs, inB h 10 17 = true ∧ h ∈ q.1) : headP hs q = headT hs q :=
  List.map_congr_left fun h hh => (bval_mem hg (hv h hh).1 (hv h hh).2).symm

set_option maxRecDepth 100000 in
set_option maxHeartbeats 4000000 in
theorem headOf_any (base g : Nat) (p0 q : PL) (ads : List Int) (H Q : Option Addr) (ch c : Nat) (hs : List Int) (ats : FL) (hh : hs.length ≤ 3) (hin : ∀ h ∈ hs, wf h ∧ h ∈ q.1)
    (w : World) (hbw : base ≤ w.heap.size) (hH : RI w H hs) (h : MS w base g p0 q ads) :
    Calls Tryz.prog 36 #[.pointer (some ⟨g, 0, none⟩), .agg #[.slice H hs.length ch, .slice Q ats.length c]] w fun e w' => e = .returned (.agg (hd3 (headP hs q))) ∧ Below w.heap.size w w' := by
  have hh' : (hs.length : Int) ≤ 3 := by omega
  have B0 := Lib.hid (step (step (below_alloc w (.cells #[.slice H hs.length ch, .slice Q ats.length c] 34)) (below_alloc _ (.cells #[.int .i64 0, .int .i64 0, .int .i64 0] 68))) (below_alloc _ (.cells #[.int .i64 0, .int .i64 0, .int .i64 0] 68)))
  obtain ⟨hAD, mb, m, vv, D, hB, hM, hR, hL, hm, hmb, hgb⟩ := h
  have HB := Lib.hid hB
  have HM := Lib.hid hM
  have HL := Lib.hid hL
  have HH := Lib.hid hH
  have HI := Lib.hid hin
  have X0 := Lib.hid (((Box.new w #[.slice H hs.length ch, .slice Q ats.length c] 34).step (below_alloc _ (.cells #[.int .i64 0, .int .i64 0, .int .i64 0] 68))).step (below_alloc _ (.cells #[.int .i64 0, .int .i64 0, .int .i64 0] 68)))
  have X1 := Lib.hid ((Box.new (w.alloc (.cells #[.slice H hs.length ch, .slice Q ats.length c] 34)) #[.int .i64 0, .int .i64 0, .int .i64 0] 68).step (below_alloc _ (.cells #[.int .i64 0, .int .i64 0, .int .i64 0] 68)))
  have X2 := Lib.hid (Box.new ((w.alloc (.cells #[.slice H hs.length ch, .slice Q ats.length c] 34)).alloc (.cells #[.int .i64 0, .int .i64 0, .int .i64 0] 68)) #[.int .i64 0, .int .i64 0, .int .i64 0] 68)
  rw [al_size] at X1
  rw [al_size, al_size] at X2
  have x0 := X0.out.cell 0
  simp only [List.getElem?_toArray, List.getElem?_cons_zero, List.getElem?_cons_succ] at x0
  clear hAD hB hM hR hL hH hin
  go_enter Tryz.func36, Tryz.ntmps36
  go_wp2
  go_loopw [6, 7, 11] (fun _ _ i wr => ∃ (k : Nat), k ≤ hs.length ∧ i = .int .i64 k ∧ Hid (Box wr (w.heap.size + 1 + 1) (hd3 (headP (hs.take k) q)) 68) ∧ Hid (Box wr (w.heap.size + 1) #[.int .i64 0, .int .i64 0, .int .i64 0] 68) ∧ Hid (Below w.heap.size w wr)) (fun _ _ i _ => hs.length - (intOf i).toNat)
  case atStart => exact ⟨0, by omega, rfl, X2, X1, B0⟩
  case round =>
    clear X0 X1 X2 B0 x0
    obtain ⟨k, hk, rfl, hX, hY, hb⟩ := hrel
    have hk0 : (0 : Int) ≤ (k : Int) := by omega
    have Z := (HB.out.step hb.out)
    have z0 := Z.cell 0
    simp only [List.getElem?_toArray, List.getElem?_cons_zero, List.getElem?_cons_succ] at z0
    by_cases hlt : k < hs.length
    · have hk1 : (k : Int) < (hs.length : Int) := by omega
      have hk3 : (k : Int) < 3 := by omega
      have hkn : k < 3 := by omega
      obtain ⟨bH, oH, rfl, nbH, h0⟩ := (HH.out.step hb.out).at_ hlt
      have hxm := HI.out _ (getD_mem hs hlt)
      have HT := Lib.hid fun (x : Int) (hx : hs.getD k 0 = x) => headP_take hs q hlt hx
      generalize hx : hs.getD k 0 = x at h0 hxm
      have TK := Lib.hid (HT.out x hx)
      have W1 := Lib.hid hxm.1
      have IN := Lib.hid hxm.2
      have LAT := Lib.hid ((HL.out.2 x).2 hxm.2)
      have y0 : ∃ v, wr.cell? ⟨w.heap.size + 1 + 1, k, none⟩ = some v := by
        rw [hX.out.cell k]
        obtain rfl | rfl | rfl : k = 0 ∨ k = 1 ∨ k = 2 := by omega
        all_goals exact ⟨_, rfl⟩
      obtain ⟨v0, y0⟩ := y0
      have y1 := hX.out.frozen k
      have hM2 := Lib.hid (World.ownsMap.kept (w' := wr) HM.out (row := none) ⟨hb.out.os, hb.out.tape, hb.out.output, hb.out.size, fun i hi _ => hb.out.block i hi⟩ (by simp))
      have SS := Lib.hid (hd3_set (headP (hs.take k) q) (pval q x) (by rw [headP_len, List.length_take]; omega))
      have SL : (headP (hs.take k) q).length = k := by rw [headP_len, List.length_take]; omega
      clear hx hxm HT
      go_wp2_with (at_lookup; refine wpList_lookup_own_int _ rfl _ _ 96 rfl 3 3 .i64 lawM Tryz.underlying96 Tryz.underlying3 (zeroM _) mb m D rfl hM2.out _ _ rfl (keyOf_int_mk Tryz.underlying3 W1.out) ?_; intro c hat hwc
                   have hc : c = pval q x := by
                     have h2 := hat.symm.trans LAT.out
                     injection h2 with h2
                     injection h2
                   subst hc
                   clear hat hwc)
      go_roundw
      case rel =>
        refine ⟨k + 1, by omega, by go_num, Lib.hid ?_, Lib.hid (hY.out.set_other (by (try simp) <;> omega)), Lib.hid (hb.out.setCell (by (try simp) <;> omega) _)⟩
        rw [TK.out, ← SS.out, SL]
        exact hX.out.set k _
      case measure => simp [intOf]; omega
    · obtain rfl : k = hs.length := by omega
      have hX2 := hX.out
      rw [List.take_length] at hX2
      have HX2 := Lib.hid hX2
      have a0 := hX2.cell 0
      have a1 := hX2.cell 1
      have a2 := hX2.cell 2
      have b0 := hY.out.cell 0
      have b1 := hY.out.cell 1
      have b2 := hY.out.cell 2
      have c0 := hY.out.frozen 0
      have c1 := hY.out.frozen 1
      have c2 := hY.out.frozen 2
      unfold hd3 at a0 a1 a2
      simp only [List.getElem?_toArray, List.getElem?_cons_zero, List.getElem?_cons_succ] at a0 a1 a2 b0 b1 b2
      have E := Lib.hid (show hd3 (headP hs q) = #[.int .i64 ((headP hs q).getD 0 0), .int .i64 ((headP hs q).getD 1 0), .int .i64 ((headP hs q).getD 2 0)] from rfl)
      generalize (headP hs q).getD 0 0 = e0 at a0 E
      generalize (headP hs q).getD 1 0 = e1 at a1 E
      generalize (headP hs q).getD 2 0 = e2 at a2 E
      clear hX2 z0
      go_wp2
      have s3 := ((hY.out.set 0 (.int .i64 e0)).set 1 (.int .i64 e1)).set 2 (.int .i64 e2)
      have r0 := s3.cell 0
      have r1 := s3.cell 1
      have r2 := s3.cell 2
      simp only [List.setIfInBounds_toArray, List.set_cons_zero, List.set_cons_succ, List.getElem?_toArray, List.getElem?_cons_zero, List.getElem?_cons_succ] at r0 r1 r2
      refine bodyPost_ret (v := .agg #[.int .i64 e0, .int .i64 e1, .int .i64 e2]) (by simp [results, Tryz.results36, go_sem, r0, r1, r2]) rfl ⟨by rw [E.out], ?_⟩
      exact Below.setCell (Below.setCell (Below.setCell hb.out (by (try simp) <;> omega) _) (by (try simp) <;> omega) _) (by (try simp) <;> omega) _
end Go.Proofs.YtighalbnpgmdfaaGreat
