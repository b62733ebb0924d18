/- What the model's ParseQuery answers. Conditions: none beyond each theorem's own. What the model's ParseFact answers. Conditions: none beyond each theorem's own. Marks in one fact of the call's own. Conditions: none beyond each theorem's own. The listed variables of this seat's cards: a world that holds them, and what the list gives a walk. Conditions: none beyond each theorem's own. -/
import Derived.Test.YtfhlmindkogdoaaGreatDoorPq13
import Derived.Test.YtfhlmindkogdoaaGreatDoorPq14
import Derived.Test.YtfhlmindkogdoaaGreatDoorPq5
import Derived.Deep.RegionLaw
import Derived.Deep.RegionHeld3
import Derived.Test.YtfhlmindkogdoaaGreatDoorPq6
import Derived.Test.YtfhlmindkogdoaaGreatDoorCards
import Derived.Test.YtfhlmindkogdoaaGreatDoorTie
import Derived.Test.YtfhlmindkogdoaaGreatDoorPq3
import Derived.Test.YtfhlmindkogdoaaGreatDoorPq1
import Derived.Deep.DeepHandedRow
import Derived.Lib.LaidTab
import Derived.ChangeOld
import Derived.Carry
import Derived.Deep.DeepCutAuto
import Derived.Deep.RegionWith

namespace Go.Proofs.YtfhlmindkogdoaaGreatDoor
open Go.ChangeShapes Go.WideShapes Go.ChangeAt Go.RowKit Go.Sort
set_option linter.unusedVariables false
set_option linter.unusedSimpArgs false

theorem step_callP {P : Program} {ops : Array Oper} {o : Oper} {a : Act} {w : World} {K : Act → World → Prop} {Q : Exit → Act → World → Prop} {E : Prop}
    (hgd : o.guard = none) (g : FuncId) (x : Operand) (t : TypeId) (ho : o.op = .call { callee := .value (.func g), args := #[x], argTypes := #[t] })
    (vx : Value) (hx : a.eval x = vx) (hcf : (callFunc g #[vx]).run P w = .ok (.enter g #[vx]) w) {R : Value → World → Prop} (hc : Calls P g #[vx] w fun e w' => ∃ v, e = .returned v ∧ R v w') (hK : ∀ v w', R v w' → K (a.put o.dst v) w') :
    if Region.wanted o (yielded ops a.tmps) = true then Oper.wp P o a w K Q else E := by
  have hw : Region.wanted o (yielded ops a.tmps) = true := by simp [Region.wanted, hgd]
  rw [if_pos hw]
  unfold Oper.wp
  have hf : a.eval (.func g) = Value.func (.func g) #[] #[] := rfl
  have e : (execOp a.eval o).run P w = .ok (.enter g #[vx]) w := by
    rw [← hx] at hcf ⊢
    simpa [go_sem, execOp, ho, resolve, invoke] using hcf
  rw [e, Oper.upon_enter]
  refine hc.mono ?_
  rintro _ w' ⟨v, rfl, d⟩
  exact hK v w' d
def PsR (w : World) (f : Int × List Int) (v : Value) (w' : World) : Prop :=
  ∃ A c q, v = .agg #[.int .i64 f.1, .slice A f.2.length c] ∧ OwnV w' w.heap.size w'.heap.size (.slice A f.2.length c) q f.2 ∧ Below w.heap.size w w'
theorem l3ParseAtom_R (s : ByteArray) (hs : s.size ≤ 1048576) (r : Int) (xs : List Int) (h : atS s = (r, xs)) (w : World) :
    Calls Tryz.prog 60 #[.string s] w fun e w' => ∃ v, e = .returned v ∧ PsR w (r, xs) v w' := by
  refine (l3ParseAtom_any s hs w).mono ?_
  rintro e w' ⟨A, c, q, rfl, hv, d⟩
  rw [h] at hv ⊢
  exact ⟨_, rfl, A, c, q, rfl, hv, d⟩
theorem box_set0 {w : World} {g : Nat} {t : TypeId} {a b v : Value} (h : Box w g #[a, b] t) : Box (w.setCell ⟨g, 0, none⟩ v) g #[v, b] t := by
  have hlt := h.lt
  unfold Box at h ⊢
  have h' : w.heap[g] = .cells #[a, b] t (0, 0) := by simpa [Array.getElem?_eq_getElem hlt] using h
  show (w.heap.modify g _)[g]? = _
  rw [Array.getElem?_eq_getElem (by simpa using hlt), Array.getElem_modify_self, h']
  rfl
theorem evs_take (ws : List ByteArray) {k : Nat} (hk : 2 + 2 * k < ws.length) {x : ByteArray} (hx : ws.getD (2 + 2 * k) ⟨#[]⟩ = x) : ((evs (ws.drop 2)).map atS).take (k + 1) = ((evs (ws.drop 2)).map atS).take k ++ [atS x] := by
  have hl := evs_len (ws.drop 2)
  rw [List.length_drop] at hl
  have hk' : k < ((evs (ws.drop 2)).map atS).length := by rw [List.length_map]; omega
  rw [List.take_succ_eq_append_getElem hk']
  have hg := evs_get (ws.drop 2) k
  rw [List.getElem?_drop] at hg
  subst hx
  rw [List.getD_eq_getElem?_getD, ← hg, List.getElem_map, List.getElem?_eq_getElem (by rw [List.length_map] at hk'; exact hk')]
  rfl
theorem evs_end (ws : List ByteArray) {k : Nat} (hk : ws.length ≤ 2 + 2 * k) : ((evs (ws.drop 2)).map atS).take k = (evs (ws.drop 2)).map atS := by
  have hl := evs_len (ws.drop 2)
  rw [List.length_drop] at hl
  exact List.take_of_length_le (by rw [List.length_map]; omega)
theorem OwnV.set_other {w : World} {lo hi q : Nat} {v u : Value} {xs : List Int} (h : OwnV w lo hi v q xs) {p : Addr} (hp : p.block < lo) : OwnV (w.setCell p u) lo hi v q xs :=
  h.keep fun a _ _ => Below.heap_setCell _ _ _ _ (by omega)
theorem ownC_set {w : World} {lo hi : Nat} {v u : Value} {fs : FL} {cs : List Value} {bs : Nat → Nat} (h : atom.OwnC w lo hi v fs cs bs) {p : Addr} (hp : p.block < lo) : atom.OwnC (w.setCell p u) lo hi v fs cs bs :=
  ⟨ownsRow_set h.1 hp, h.2.keep fun q a _ _ => Below.heap_setCell _ _ _ _ (by omega)⟩
theorem wq_at {w : World} {A : Option Addr} {ws : List ByteArray} (h : StrsAt w A ws) (hne : ws ≠ []) : ∃ g, A = some ⟨g, 0, none⟩ ∧ g < w.heap.size ∧ ∀ k, k < ws.length → w.cell? ⟨g, k, none⟩ = some (.string (ws.getD k ⟨#[]⟩)) := h hne
theorem yes_no2 {s : ByteArray} (h : ¬ s.toList = (⟨#[121, 101, 115]⟩ : ByteArray).toList) : (s.toList != [121, 101, 115]) = true := by
  rw [yes_list] at h
  simpa using h

set_option maxRecDepth 100000 in
set_option maxHeartbeats 4000000 in
theorem spec_ParseQuery (S : Option Addr) (cS : Nat) (sch : List Int) (hls : sch.length ≤ 1048576) (s : ByteArray) (hs : s.size ≤ 1048576) (w : World) (h : RI w S sch) :
    Calls Tryz.prog 23 #[.slice S sch.length cS, .string s] w (PqIs w (prsQ sch s)) := by
  obtain ⟨i0, hi, hz0, hz1, hz2⟩ := info_parts int_info
  obtain ⟨j0, hji, jz0, jz1, jz2⟩ := info_parts atom.fact_info
  have B0 := Lib.hid (below_alloc w (.cells #[.slice none 0 0, .slice none 0 0] 27))
  have HI := Lib.hid h
  have X0 := Lib.hid (Box.new w #[.slice none 0 0, .slice none 0 0] 27)
  have AR := Lib.hid (hsS_allR s)
  have HN := Lib.hid (prsQ_not (S := sch) (s := s))
  have HY := Lib.hid (fun hs l (hf : queryB sch hs l = true) (he : fmtQ hs l = s) => hitQ_impl hf he)
  clear h
  go_enter Tryz.func23, Tryz.ntmps23
  go_wp2_with fail
  refine (l2CutQ_any s hs _).mono ?_
  rintro e w1 ⟨A1, c1, rfl, hst, d1⟩
  have B1 := Lib.hid (step B0.out d1)
  have X1 := Lib.hid (X0.out.step d1)
  have hwl := cutQ_len s
  have WX := Lib.hid (fun x (h : x ∈ cutQ s) => cutQ_size h)
  have AZ := Lib.hid (asS_sz s)
  have HSL := Lib.hid (hsS_len s)
  have EA := Lib.hid (show asS s = (evs ((cutQ s).drop 2)).map atS from rfl)
  have EH := Lib.hid (show hsS s = if (cutQ s).getD 0 ⟨#[]⟩ = yesB then [] else (cutW ((cutQ s).getD 0 ⟨#[]⟩)).map tS from rfl)
  have hne := cutQ_ne s
  generalize cutQ s = ws at hst hwl WX EA EH hne ⊢
  have hwp := List.length_pos_iff.2 hne
  obtain ⟨g1, rfl, hg1, hcell⟩ := wq_at hst hne
  have HC := Lib.hid hcell
  have c0 := hcell 0 hwp
  generalize hx0 : ws.getD 0 ⟨#[]⟩ = x0 at c0 EH
  have XZ : x0.size ≤ 1048576 := by
    have : x0 ∈ ws := by subst hx0; rw [List.getD_eq_getElem?_getD, List.getElem?_eq_getElem hwp]; exact List.getElem_mem _
    exact Nat.le_trans (WX.out x0 this) hs
  generalize asS s = qs at AZ EA HN
  generalize hsS s = hs0 at AR HN EH HSL
  obtain ⟨g, hg⟩ : ∃ g, g = w1.heap.size := ⟨_, rfl⟩
  have G := Lib.hid hg
  have lw1 : w.heap.size < g := by rw [hg]; exact X1.out.lt
  obtain ⟨w2, hw2⟩ : ∃ W, W = w1.alloc (.cells #[.slice none 0 0, .slice none 0 0] 27) := ⟨_, rfl⟩
  have E2 := Lib.hid hw2
  have Z2 : w2.heap.size = g + 1 := by rw [hw2, hg, al_size]
  have Y2 := Lib.hid (show Box w2 g #[.slice none 0 0, .slice none 0 0] 27 by rw [hw2, hg]; exact Box.new _ _ _)
  have D2 := Lib.hid (show Below g w1 w2 by rw [hw2, hg]; exact below_alloc _ _)
  have hg1' : g1 < g := by rw [hg]; exact hg1
  have c2 := (D2.out.cell (p := ⟨g1, 0, none⟩) hg1').trans c0
  clear hst d1 hcell hw2 hg c0 hg1
  by_cases hy : x0 = yesB
  · have EH0 := Lib.hid (show hs0 = [] by rw [EH.out, if_pos hy])
    rw [yes_eq] at hy
    subst hy
    have VH := Lib.hid (show OwnV w2 (g + 1) w2.heap.size (.slice none ([] : List Int).length 0) 0 [] from ownV_nil _ _ _)
    have DH := Lib.hid (D2.out)
    have YH := Lib.hid (show Box w2 g #[.slice none ([] : List Int).length 0, .slice none 0 0] 27 from Y2.out)
    have ZH : g + 1 ≤ w2.heap.size := by omega
    have HLH : ([] : List Int).length ≤ 1048577 := by simp
    rw [E2.out] at c2
    go_wp2_with fail
    rw [← G.out] at *
    rw [← E2.out] at *
    obtain ⟨b, hbe⟩ : ∃ b, b = w2.heap.size := ⟨_, rfl⟩
    have VB := Lib.hid (show OwnV w2 (g + 1) b (.slice none ([] : List Int).length 0) 0 [] by rw [hbe]; exact VH.out)
    have zb : g + 1 ≤ b := by omega
    have zw : b ≤ w2.heap.size := by omega
    clear hbe VH
    go_loopw [10] (fun i wr2 => ∃ (k j : Nat) (out : FL) (cs : List Value) (bs : Nat → Nat) (A2 : Option Addr) (c2 : Nat), Hid (j = 2 + 2 * k) ∧ j ≤ ws.length + 1 ∧ i = .int .i64 j ∧ Hid (out = ((evs (ws.drop 2)).map atS).take k) ∧ out.length ≤ k ∧ k ≤ j ∧ Box wr2 g #[.slice none ([] : List Int).length 0, .slice A2 out.length c2] 27 ∧ Hid (atom.OwnC wr2 b wr2.heap.size (.slice A2 out.length c2) out cs bs) ∧ Hid (OwnV wr2 (g + 1) b (.slice none ([] : List Int).length 0) 0 []) ∧ Below g w1 wr2 ∧ b ≤ wr2.heap.size) (fun i _ => ws.length + 2 - (intOf i).toNat)
    case atStart => exact ⟨0, 2, [], [], fun _ => 0, none, 0, Lib.hid rfl, by omega, rfl, Lib.hid rfl, by simp, by omega, YH.out, Lib.hid (ownC_nil _ _ _), VB, DH.out, zw⟩
    case round =>
      obtain ⟨k, j, out, cs, bs, A2, c2, hj, hjl, rfl, hout, hlen, hkj, hY2, hO2, hV2, hb2, hsz2⟩ := hrel
      have HY2 := Lib.hid hY2
      have HB2 := Lib.hid hb2
      clear hY2 hb2 zw
      by_cases hlt : j < ws.length
      · have hc := (HB2.out.cell (p := ⟨g1, j, none⟩) hg1').trans (HC.out j hlt)
        generalize hx : ws.getD j ⟨#[]⟩ = x at hc
        have hxs : x.size ≤ 1048576 := by
          have : x ∈ ws := by subst hx; rw [List.getD_eq_getElem?_getD, List.getElem?_eq_getElem hlt]; exact List.getElem_mem _
          exact Nat.le_trans (WX.out x this) hs
        have NT := Lib.hid (show ((evs (ws.drop 2)).map atS).take (k + 1) = ((evs (ws.drop 2)).map atS).take k ++ [atS x] from evs_take ws (by rw [← hj.out]; exact hlt) (by rw [← hj.out]; exact hx))
        generalize hf : atS x = f at NT
        obtain ⟨r, xs⟩ := f
        have XA := Lib.hid (l3ParseAtom_R x hxs r xs hf)
        have q1 := HY2.out.cell 1
        have q3 := HY2.out.frozen 1
        simp only [List.getElem?_toArray, List.getElem?_cons_zero, List.getElem?_cons_succ] at q1
        have hj0 : (0 : Int) ≤ (j : Int) := by omega
        have hj1 : (j : Int) < (ws.length : Int) := by omega
        have hgw : g < wr.heap.size := by omega
        clear hx hf
        go_wp2
        go_region_law (first
          | (refine step_callP rfl 60 _ _ rfl (.string x) rfl (by kernel_rfl) (XA.out _) ?_
             rintro v5 u5 ⟨A5, c5, q5, rfl, hv5, d5⟩
             have b5 : Below wr.heap.size wr u5 := by first | exact d5 | exact und d5 | exact undN d5
             have q15 := (b5.cell (p := ⟨g, 1, none⟩) (by (try simp) <;> omega)).trans q1
             have q35 := (b5.frozen (p := ⟨g, 1, none⟩) (by (try simp) <;> omega)).trans q3
             have z5 := b5.size
             have HV5 := Lib.hid (show OwnV (u5.alloc (.cells #[.int .i64 r, .slice A5 xs.length c5] 38)) wr.heap.size (u5.alloc (.cells #[.int .i64 r, .slice A5 xs.length c5] 38)).heap.size (.slice A5 xs.length c5) q5 xs from OwnV.step (show OwnV u5 wr.heap.size u5.heap.size (.slice A5 xs.length c5) q5 xs from hv5) (below_alloc u5 (.cells #[.int .i64 r, .slice A5 xs.length c5] 38)))
             have HO5 := Lib.hid ((hO2.out.cur (Nat.le_refl _) b5).cur z5 (below_alloc u5 (.cells #[.int .i64 r, .slice A5 xs.length c5] 38)))
             have q17 := ((below_alloc u5 (.cells #[.int .i64 r, .slice A5 xs.length c5] 38)).cell (p := ⟨g, 1, none⟩) (by (try simp) <;> omega)).trans q15
             have q37 := ((below_alloc u5 (.cells #[.int .i64 r, .slice A5 xs.length c5] 38)).frozen (p := ⟨g, 1, none⟩) (by (try simp) <;> omega)).trans q35
             clear hv5 d5)
          | (refine step_append_lies _ (by rfl) _ _ _ (by rfl) b 38 j0 _ 2 32 Tryz.underlying25 hji jz0 jz1 jz2 rfl (by omega) (.slice A2 out.length c2) out.length cs (by rfl) (by first | exact HO5.out.1 | exact HO5.out.1.drew)
               ⟨u5.heap.size, 0, none⟩ 1 1 [.int .i64 r, .slice A5 xs.length c5] (by rfl) (by rfl) (World.news_of_block (cs := #[.int .i64 r, .slice A5 xs.length c5]) (t := 38) (fr := (0, 0)) (heap_alloc_new u5 _)) (by simp [Value.oneCell']) (by omega) (by unfold maxLen; omega) (by omega) (by (try simp) <;> omega) (u5.heap.size + 1) (by simp) ?_
             intro g31 cap31 v31 hown31 hgrow31 hat31 hlt31
             have hg31 : (u5.alloc (.cells #[.int .i64 r, .slice A5 xs.length c5] 38)).grownBy v31 (Value.slice A2 out.length c2).ownBlock := ⟨hgrow31.os, hgrow31.tape, hgrow31.output, hgrow31.size, hgrow31.block⟩
             have d31 : Below b (u5.alloc (.cells #[.int .i64 r, .slice A5 xs.length c5] 38)) v31 := (Below.refl _ _).grown hg31 (by (try simp) <;> omega) (fun q hq => (HO5.out.1.lt q hq).1)
             obtain ⟨bs31, ho31⟩ := atom.own_append HO5.out (Items.one HV5.out) hsz2 (by (try simp) <;> omega) hown31 hg31
             have HO31 := Lib.hid ho31
             have b31 : Below b wr v31 := ((step b5 (below_alloc u5 (.cells #[.int .i64 r, .slice A5 xs.length c5] 38))).mono hsz2).trans d31
             have q16 := (b31.cell (p := ⟨g, 1, none⟩) (by (try simp) <;> omega)).trans q1
             have q36 := (b31.frozen (p := ⟨g, 1, none⟩) (by (try simp) <;> omega)).trans q3
             clear hown31 hgrow31 hat31 ho31))
        all_goals
          clear q15 q35 q16 q36 q17 q37 q1 q3 hc hg31 hlt31
          have z31 := b31.size
          go_wp2
          go_roundw
          case rel =>
            refine ⟨k + 1, j + 2, out ++ [(r, xs)], _, bs31, some ⟨g31, 0, none⟩, cap31, Lib.hid (by rw [hj.out]; omega), by omega, by go_num, Lib.hid (by rw [NT.out, hout.out]), by rw [List.length_append]; simp; omega, by omega, ?_, Lib.hid (by rw [set_size, List.length_append]; exact ownC_set HO31.out (show g < b by omega)), Lib.hid ((hV2.out.keep fun _ bb _ => b31.block _ bb).set_other (show g < g + 1 by omega)), (HB2.out.trans (b31.mono (by omega))).setCell (Nat.le_refl _) _, by rw [set_size]; omega⟩
            rw [List.length_append]
            exact box_set1 (show Box v31 g #[.slice none ([] : List Int).length 0, .slice A2 out.length c2] 27 from (b31.block _ (by omega)).trans HY2.out)
          case measure => simp [intOf]; omega
      · have hout2 : out = qs := by rw [hout.out, EA.out]; exact evs_end ws (by rw [← hj.out]; omega)
        have SZ : szF out ≤ 1048576 := by rw [hout2]; have := AZ.out; omega
        have EY := Lib.hid (show (queryB sch [] out = true ∧ fmtQ [] out = s → prsQ sch s = ([], out, true)) ∧ (¬ (queryB sch [] out = true ∧ fmtQ [] out = s) → prsQ sch s = ([], [], false)) from ⟨fun h => HY.out _ _ h.1 h.2, fun hn => HN.out (by rw [EH0.out, ← hout2]; exact hn)⟩)
        have RA := Lib.hid (show allR [] by rw [← EH0.out]; exact AR.out)
        have Q4 := Lib.hid (qo_make hV2.out hO2.out zb hsz2)
        have B4 := Lib.hid (B1.out.trans (HB2.out.mono (by omega)))
        have X4 := Lib.hid (show Box wr w.heap.size #[.slice none 0 0, .slice none 0 0] 27 from (HB2.out.block _ lw1).trans X1.out)
        have Y4 := HY2
        have I4 := Lib.hid (HI.out.step B4.out)
        clear hout2 HC
        have y0 := Y4.out.cell 0
        have y1 := Y4.out.cell 1
        simp only [List.getElem?_toArray, List.getElem?_cons_zero, List.getElem?_cons_succ] at y0 y1
        go_wp2_with fail
        refine (spec_IsQuery S none A2 cS 0 c2 sch [] out hls HLH SZ _ I4.out Q4.out.ri Q4.out.rf).mono ?_
        rintro e w5 ⟨he, d5⟩
        have B5 := Lib.hid (step B4.out d5)
        have X5 := Lib.hid (X4.out.step d5)
        have Y5 := Lib.hid (Y4.out.step d5)
        have Q5 := Lib.hid (Q4.out.step d5)
        clear d5 y0 y1
        cases hF : queryB sch [] out
        · have E := Lib.hid (EY.out.2 fun h => by have := h.1; rw [hF] at this; cases this)
          rw [hF] at he
          subst he
          clear hF
          have q0 := X5.out.cell 0
          have q1 := X5.out.cell 1
          have q2 := X5.out.frozen 0
          have q3 := X5.out.frozen 1
          simp only [List.getElem?_toArray, List.getElem?_cons_zero, List.getElem?_cons_succ] at q0 q1
          go_wp2
          refine bodyPost_ret (v := .tuple #[.agg #[.slice none 0 0, .slice none 0 0], .bool false]) (by simp [results, Tryz.results23, go_sem, q0, q1, q2, q3]) rfl ?_
          rw [E.out]
          exact pq_none (Below.setCell (Below.setCell B5.out (Nat.le_refl _) _) (Nat.le_refl _) _)
        · have HF := Lib.hid hF
          rw [hF] at he
          subst he
          clear hF
          have y0 := Y5.out.cell 0
          have y1 := Y5.out.cell 1
          simp only [List.getElem?_toArray, List.getElem?_cons_zero, List.getElem?_cons_succ] at y0 y1
          go_wp2_with fail
          refine (spec_FormatQuery none A2 0 c2 [] out HLH RA.out SZ _ Q5.out.ri Q5.out.rf).mono ?_
          rintro e w6 ⟨rfl, d6⟩
          have B6 := Lib.hid (step B5.out d6)
          have X6 := Lib.hid (X5.out.step d6)
          have Y6 := Lib.hid (Y5.out.step d6)
          have Q6 := Lib.hid (Q5.out.step d6)
          have z6 := d6.size
          have z5 := B5.out.size
          have zw6 := Y6.out.lt
          clear d6 y0 y1
          by_cases c3 : fmtQ [] out = s
          · have E := Lib.hid (EY.out.1 ⟨HF.out, c3⟩)
            have c4 : ((fmtQ [] out).toList == s.toList) = true := by rw [c3]; simp
            have c5 : (fmtQ [] out).toList = s.toList := by rw [c3]
            clear c3
            have q0 := X6.out.cell 0
            have q1 := X6.out.cell 1
            have q2 := X6.out.frozen 0
            have q3 := X6.out.frozen 1
            simp only [List.getElem?_toArray, List.getElem?_cons_zero, List.getElem?_cons_succ] at q0 q1
            have y0 := Y6.out.cell 0
            have y1 := Y6.out.cell 1
            simp only [List.getElem?_toArray, List.getElem?_cons_zero, List.getElem?_cons_succ] at y0 y1
            go_wp2
            refine bodyPost_ret (v := .tuple #[.agg #[.slice none ([] : List Int).length 0, .slice A2 out.length c2], .bool true]) (by simp [results, Tryz.results23, go_sem, q0, q1, q2, q3]) rfl ?_
            rw [E.out]
            refine (show PqOut w [] out true _ _ from ⟨_, none, 0, A2, c2, rfl, QO.mono (Q6.out.keep (fun b h1 _ => (Below.heap_setCell _ ⟨w.heap.size, 1, none⟩ _ b (by (try simp at h1 ⊢); omega)).trans (Below.heap_setCell _ ⟨w.heap.size, 0, none⟩ _ b (by (try simp at h1 ⊢); omega))) (by rw [size2]; exact Nat.le_refl _)) (by omega) (by rw [size2]; exact Q6.out.2.2.2.2) (Nat.le_refl _), ?_⟩)
            exact Below.setCell (Below.setCell B6.out (Nat.le_refl _) _) (Nat.le_refl _) _
          · have E := Lib.hid (EY.out.2 fun h => c3 h.2)
            have c5 := ba_ne c3
            have c6 : ((fmtQ [] out).toList == s.toList) = false := by simpa using c5
            have c7 : ((fmtQ [] out).toList != s.toList) = true := by simpa using c5
            clear c3
            have q0 := X6.out.cell 0
            have q1 := X6.out.cell 1
            have q2 := X6.out.frozen 0
            have q3 := X6.out.frozen 1
            simp only [List.getElem?_toArray, List.getElem?_cons_zero, List.getElem?_cons_succ] at q0 q1
            go_wp2
            refine bodyPost_ret (v := .tuple #[.agg #[.slice none 0 0, .slice none 0 0], .bool false]) (by simp [results, Tryz.results23, go_sem, q0, q1, q2, q3]) rfl ?_
            rw [E.out]
            exact pq_none (Below.setCell (Below.setCell B6.out (Nat.le_refl _) _) (Nat.le_refl _) _)
  · have EH0 := Lib.hid (show hs0 = (cutW x0).map tS by rw [EH.out, if_neg hy])
    rw [yes_eq] at hy
    have c5 := ba_ne hy
    have c6 := yes_no c5
    have c7 := yes_no2 c5
    clear hy
    rw [E2.out] at c2
    go_wp2_with fail
    rw [← G.out] at *
    rw [← E2.out] at *
    refine (l2Cut_any x0 XZ _).mono ?_
    rintro e w3 ⟨A8, c8, rfl, hst, d3⟩
    have D3 := Lib.hid (D2.out.trans (d3.mono (by omega)))
    have Y3 := Lib.hid (Y2.out.step d3)
    have Z3 := d3.size
    have WL := cutW_len x0
    have WX3 := Lib.hid (fun x (h : x ∈ cutW x0) => cutW_size h)
    have hne3 : cutW x0 ≠ [] := by unfold cutW; simp
    generalize cutW x0 = hw at EH0 hst WL WX3 hne3 ⊢
    have hwp3 := List.length_pos_iff.2 hne3
    obtain ⟨g3, rfl, hg3, hcell3⟩ := wq_at hst hne3
    have NG : g3 ≠ g := by
      rintro rfl
      have a0 := hcell3 0 hwp3
      have a1 := Y3.out.cell 0
      rw [a0] at a1
      simp at a1
    obtain ⟨b3, hb3⟩ : ∃ b, b = w3.heap.size := ⟨_, rfl⟩
    have HC3 := Lib.hid hcell3
    have zb1 : g + 1 ≤ b3 := by omega
    have zb2 : g3 < b3 := by omega
    have zb3 : b3 ≤ w3.heap.size := by omega
    clear hst d3 c2 c5 c6 c7 hcell3 hb3
    go_wp2_with fail
    go_loopw [9] (fun i wr => ∃ (k : Nat) (A : Option Addr) (c : Nat), k ≤ hw.length ∧ i = .int .i64 k ∧ Box wr g #[.slice A k c, .slice none 0 0] 27 ∧ wr.ownsRow b3 3 1 (.slice A k c) k (((hw.map tS).take k).map (Value.int .i64)) ∧ Below g w1 wr ∧ b3 ≤ wr.heap.size ∧ Hid (∀ k, k < hw.length → wr.cell? ⟨g3, k, none⟩ = some (.string (hw.getD k ⟨#[]⟩)))) (fun i _ => hw.length - (intOf i).toNat)
    case atStart =>
      exact ⟨0, none, 0, by omega, rfl, Y3.out, ⟨by simp, .inl ⟨rfl, rfl⟩⟩, D3.out, by omega, HC3⟩
    case round =>
      obtain ⟨k, A, c, hk, rfl, hY, hown, hb, hsz, hcl⟩ := hrel
      have HYB := Lib.hid hY
      have HO := Lib.hid hown
      have HB := Lib.hid hb
      clear hown hb
      by_cases hlt : k < hw.length
      · have hc := hcl.out k hlt
        generalize hx : hw.getD k ⟨#[]⟩ = x at hc
        have hxm : x ∈ hw := by subst hx; rw [List.getD_eq_getElem?_getD, List.getElem?_eq_getElem hlt]; exact List.getElem_mem _
        have hxs : x.size ≤ 1048576 := Nat.le_trans (WX3.out x hxm) XZ
        have NT := Lib.hid (tS_take hw hlt hx)
        have XN := Lib.hid (l3ParseTerm_any x hxs)
        generalize tS x = n at NT XN
        have q1 := HYB.out.cell 0
        have q3 := HYB.out.frozen 0
        simp only [List.getElem?_toArray, List.getElem?_cons_zero, List.getElem?_cons_succ] at q1
        have hk0 : (0 : Int) ≤ (k : Int) := by omega
        have hk1 : (k : Int) < (hw.length : Int) := by omega
        have hgw : g < wr.heap.size := by omega
        clear hx hxm hY
        go_wp2
        go_region_law (first
          | (refine step_callB rfl 59 _ _ rfl (.string x) _ rfl (by kernel_rfl) (XN.out _) ?_
             intro u5 d5
             have b5 : Below wr.heap.size wr u5 := by first | exact d5 | exact und d5 | exact undN d5
             have q15 := (b5.cell (p := ⟨g, 0, none⟩) (by (try simp) <;> omega)).trans q1
             have q35 := (b5.frozen (p := ⟨g, 0, none⟩) (by (try simp) <;> omega)).trans q3
             have z5 := b5.size
             have HO5 := Lib.hid (ownsRow_step HO.out b5)
             have hb5 : Below b3 wr u5 := b5.mono hsz
             have hz5 : b3 ≤ u5.heap.size := by omega
             have q17 := ((below_alloc u5 (.cells #[.int .i64 n] 3)).cell (p := ⟨g, 0, none⟩) (by (try simp) <;> omega)).trans q15
             have q37 := ((below_alloc u5 (.cells #[.int .i64 n] 3)).frozen (p := ⟨g, 0, none⟩) (by (try simp) <;> omega)).trans q35
             clear d5)
          | (refine step_pushR rfl _ _ _ 3 rfl i0 Tryz.underlying24 hi (.int .i64 0) 8 hz0 hz1 hz2 rfl (by omega) b3 k _ (((hw.map tS).take k).map (Value.int .i64)) _ 1 (.int .i64 n) rfl rfl rfl (by first | exact HO5.out.alloc _ | exact (HO5.out.alloc _).drew | exact HO5.out.drew.alloc _) (by first | exact hb5.alloc hz5 _ | exact (hb5.alloc hz5 _).drew | exact hb5.drew.alloc hz5 _) (by (try simp) <;> omega) (by omega) (by simp [Addr.add]) ?_
             intro v6 u6 hown6 hb6 hz6
             obtain ⟨A6, c6, rfl⟩ := ownsRow_form hown6
             have q16 := (hb6.cell (p := ⟨g, 0, none⟩) (by (try simp) <;> omega)).trans q1
             have q36 := (hb6.frozen (p := ⟨g, 0, none⟩) (by (try simp) <;> omega)).trans q3
             have z6 := hb6.size
             have HO6 := Lib.hid hown6
             clear hown6 hz6))
        all_goals
          clear q15 q35 q16 q36 q17 q37 q1 q3 hc
          go_wp2
          go_roundw
          case rel =>
            refine ⟨k + 1, A6, c6, by omega, by go_num, box_set0 (show Box u6 g #[.slice A k c, .slice none 0 0] 27 from (hb6.block _ (by omega)).trans HYB.out), ?_, (HB.out.trans (hb6.mono (by omega))).setCell (Nat.le_refl _) _, by rw [set_size]; omega, Lib.hid fun j hj => ?_⟩
            · rw [NT.out, List.map_append]
              exact ownsRow_set HO6.out (show g < _ by omega)
            · exact (World.cell?_of_block (Below.heap_setCell _ _ _ _ (by simpa using NG))).trans ((hb6.cell (p := ⟨g3, j, none⟩) (by (try simp) <;> omega)).trans (hcl.out j hj))
          case measure => simp [intOf]; omega
      · obtain rfl : k = hw.length := by omega
        have hnl : (hw.map tS).length = hw.length := by simp
        have hown2 : wr.ownsRow b3 3 1 (.slice A hw.length c) hw.length ((hw.map tS).map (Value.int .i64)) := by have := HO.out; rw [List.take_of_length_le (by omega)] at this; exact this
        obtain ⟨qh, hv⟩ := ownV_of_row hown2
        rw [← hnl] at hv hY
        generalize hxs : hw.map tS = hd at hv hY hnl EH0
        have VH := Lib.hid ((hv.mono zb1 (Nat.le_refl _)))
        have YH := Lib.hid hY
        have DH := Lib.hid HB.out
        have ZH : g + 1 ≤ wr.heap.size := by omega
        have HLH : hd.length ≤ 1048577 := by omega
        have c2 := (HB.out.cell (p := ⟨g1, 0, none⟩) hg1').trans (HC.out 0 hwp)
        rw [← hnl] at *
        clear hown2 hv hY hxs hnl HO HYB hcl HC3 c2
        go_wp2_with fail
        obtain ⟨b, hbe⟩ : ∃ b, b = wr.heap.size := ⟨_, rfl⟩
        have VB := Lib.hid (show OwnV wr (g + 1) b (.slice A (hd : List Int).length c) qh hd by rw [hbe]; exact VH.out)
        have zb : g + 1 ≤ b := by omega
        have zw : b ≤ wr.heap.size := by omega
        clear hbe VH
        go_loopw [10] (fun i wr2 => ∃ (k j : Nat) (out : FL) (cs : List Value) (bs : Nat → Nat) (A2 : Option Addr) (c2 : Nat), Hid (j = 2 + 2 * k) ∧ j ≤ ws.length + 1 ∧ i = .int .i64 j ∧ Hid (out = ((evs (ws.drop 2)).map atS).take k) ∧ out.length ≤ k ∧ k ≤ j ∧ Box wr2 g #[.slice A (hd : List Int).length c, .slice A2 out.length c2] 27 ∧ Hid (atom.OwnC wr2 b wr2.heap.size (.slice A2 out.length c2) out cs bs) ∧ Hid (OwnV wr2 (g + 1) b (.slice A (hd : List Int).length c) qh hd) ∧ Below g w1 wr2 ∧ b ≤ wr2.heap.size) (fun i _ => ws.length + 2 - (intOf i).toNat)
        case atStart => exact ⟨0, 2, [], [], fun _ => 0, none, 0, Lib.hid rfl, by omega, rfl, Lib.hid rfl, by simp, by omega, YH.out, Lib.hid (ownC_nil _ _ _), VB, DH.out, zw⟩
        case round =>
          obtain ⟨k, j, out, cs, bs, A2, c2, hj, hjl, rfl, hout, hlen, hkj, hY2, hO2, hV2, hb2, hsz2⟩ := hrel
          have HY2 := Lib.hid hY2
          have HB2 := Lib.hid hb2
          clear hY2 hb2 zw
          by_cases hlt : j < ws.length
          · have hc := (HB2.out.cell (p := ⟨g1, j, none⟩) hg1').trans (HC.out j hlt)
            generalize hx : ws.getD j ⟨#[]⟩ = x at hc
            have hxs : x.size ≤ 1048576 := by
              have : x ∈ ws := by subst hx; rw [List.getD_eq_getElem?_getD, List.getElem?_eq_getElem hlt]; exact List.getElem_mem _
              exact Nat.le_trans (WX.out x this) hs
            have NT := Lib.hid (show ((evs (ws.drop 2)).map atS).take (k + 1) = ((evs (ws.drop 2)).map atS).take k ++ [atS x] from evs_take ws (by rw [← hj.out]; exact hlt) (by rw [← hj.out]; exact hx))
            generalize hf : atS x = f at NT
            obtain ⟨r, xs⟩ := f
            have XA := Lib.hid (l3ParseAtom_R x hxs r xs hf)
            have q1 := HY2.out.cell 1
            have q3 := HY2.out.frozen 1
            simp only [List.getElem?_toArray, List.getElem?_cons_zero, List.getElem?_cons_succ] at q1
            have hj0 : (0 : Int) ≤ (j : Int) := by omega
            have hj1 : (j : Int) < (ws.length : Int) := by omega
            have hgw : g < wr.heap.size := by omega
            clear hx hf
            go_wp2
            go_region_law (first
              | (refine step_callP rfl 60 _ _ rfl (.string x) rfl (by kernel_rfl) (XA.out _) ?_
                 rintro v5 u5 ⟨A5, c5, q5, rfl, hv5, d5⟩
                 have b5 : Below wr.heap.size wr u5 := by first | exact d5 | exact und d5 | exact undN d5
                 have q15 := (b5.cell (p := ⟨g, 1, none⟩) (by (try simp) <;> omega)).trans q1
                 have q35 := (b5.frozen (p := ⟨g, 1, none⟩) (by (try simp) <;> omega)).trans q3
                 have z5 := b5.size
                 have HV5 := Lib.hid (show OwnV (u5.alloc (.cells #[.int .i64 r, .slice A5 xs.length c5] 38)) wr.heap.size (u5.alloc (.cells #[.int .i64 r, .slice A5 xs.length c5] 38)).heap.size (.slice A5 xs.length c5) q5 xs from OwnV.step (show OwnV u5 wr.heap.size u5.heap.size (.slice A5 xs.length c5) q5 xs from hv5) (below_alloc u5 (.cells #[.int .i64 r, .slice A5 xs.length c5] 38)))
                 have HO5 := Lib.hid ((hO2.out.cur (Nat.le_refl _) b5).cur z5 (below_alloc u5 (.cells #[.int .i64 r, .slice A5 xs.length c5] 38)))
                 have q17 := ((below_alloc u5 (.cells #[.int .i64 r, .slice A5 xs.length c5] 38)).cell (p := ⟨g, 1, none⟩) (by (try simp) <;> omega)).trans q15
                 have q37 := ((below_alloc u5 (.cells #[.int .i64 r, .slice A5 xs.length c5] 38)).frozen (p := ⟨g, 1, none⟩) (by (try simp) <;> omega)).trans q35
                 clear hv5 d5)
              | (refine step_append_lies _ (by rfl) _ _ _ (by rfl) b 38 j0 _ 2 32 Tryz.underlying25 hji jz0 jz1 jz2 rfl (by omega) (.slice A2 out.length c2) out.length cs (by rfl) (by first | exact HO5.out.1 | exact HO5.out.1.drew)
                   ⟨u5.heap.size, 0, none⟩ 1 1 [.int .i64 r, .slice A5 xs.length c5] (by rfl) (by rfl) (World.news_of_block (cs := #[.int .i64 r, .slice A5 xs.length c5]) (t := 38) (fr := (0, 0)) (heap_alloc_new u5 _)) (by simp [Value.oneCell']) (by omega) (by unfold maxLen; omega) (by omega) (by (try simp) <;> omega) (u5.heap.size + 1) (by simp) ?_
                 intro g31 cap31 v31 hown31 hgrow31 hat31 hlt31
                 have hg31 : (u5.alloc (.cells #[.int .i64 r, .slice A5 xs.length c5] 38)).grownBy v31 (Value.slice A2 out.length c2).ownBlock := ⟨hgrow31.os, hgrow31.tape, hgrow31.output, hgrow31.size, hgrow31.block⟩
                 have d31 : Below b (u5.alloc (.cells #[.int .i64 r, .slice A5 xs.length c5] 38)) v31 := (Below.refl _ _).grown hg31 (by (try simp) <;> omega) (fun q hq => (HO5.out.1.lt q hq).1)
                 obtain ⟨bs31, ho31⟩ := atom.own_append HO5.out (Items.one HV5.out) hsz2 (by (try simp) <;> omega) hown31 hg31
                 have HO31 := Lib.hid ho31
                 have b31 : Below b wr v31 := ((step b5 (below_alloc u5 (.cells #[.int .i64 r, .slice A5 xs.length c5] 38))).mono hsz2).trans d31
                 have q16 := (b31.cell (p := ⟨g, 1, none⟩) (by (try simp) <;> omega)).trans q1
                 have q36 := (b31.frozen (p := ⟨g, 1, none⟩) (by (try simp) <;> omega)).trans q3
                 clear hown31 hgrow31 hat31 ho31))
            all_goals
              clear q15 q35 q16 q36 q17 q37 q1 q3 hc hg31 hlt31
              have z31 := b31.size
              go_wp2
              go_roundw
              case rel =>
                refine ⟨k + 1, j + 2, out ++ [(r, xs)], _, bs31, some ⟨g31, 0, none⟩, cap31, Lib.hid (by rw [hj.out]; omega), by omega, by go_num, Lib.hid (by rw [NT.out, hout.out]), by rw [List.length_append]; simp; omega, by omega, ?_, Lib.hid (by rw [set_size, List.length_append]; exact ownC_set HO31.out (show g < b by omega)), Lib.hid ((hV2.out.keep fun _ bb _ => b31.block _ bb).set_other (show g < g + 1 by omega)), (HB2.out.trans (b31.mono (by omega))).setCell (Nat.le_refl _) _, by rw [set_size]; omega⟩
                rw [List.length_append]
                exact box_set1 (show Box v31 g #[.slice A (hd : List Int).length c, .slice A2 out.length c2] 27 from (b31.block _ (by omega)).trans HY2.out)
              case measure => simp [intOf]; omega
          · have hout2 : out = qs := by rw [hout.out, EA.out]; exact evs_end ws (by rw [← hj.out]; omega)
            have SZ : szF out ≤ 1048576 := by rw [hout2]; have := AZ.out; omega
            have EY := Lib.hid (show (queryB sch hd out = true ∧ fmtQ hd out = s → prsQ sch s = (hd, out, true)) ∧ (¬ (queryB sch hd out = true ∧ fmtQ hd out = s) → prsQ sch s = ([], [], false)) from ⟨fun h => HY.out _ _ h.1 h.2, fun hn => HN.out (by rw [EH0.out, ← hout2]; exact hn)⟩)
            have RA := Lib.hid (show allR hd by rw [← EH0.out]; exact AR.out)
            have Q4 := Lib.hid (qo_make hV2.out hO2.out zb hsz2)
            have B4 := Lib.hid (B1.out.trans (HB2.out.mono (by omega)))
            have X4 := Lib.hid (show Box wr w.heap.size #[.slice none 0 0, .slice none 0 0] 27 from (HB2.out.block _ lw1).trans X1.out)
            have Y4 := HY2
            have I4 := Lib.hid (HI.out.step B4.out)
            clear hout2 HC
            have y0 := Y4.out.cell 0
            have y1 := Y4.out.cell 1
            simp only [List.getElem?_toArray, List.getElem?_cons_zero, List.getElem?_cons_succ] at y0 y1
            go_wp2_with fail
            refine (spec_IsQuery S A A2 cS c c2 sch hd out hls HLH SZ _ I4.out Q4.out.ri Q4.out.rf).mono ?_
            rintro e w5 ⟨he, d5⟩
            have B5 := Lib.hid (step B4.out d5)
            have X5 := Lib.hid (X4.out.step d5)
            have Y5 := Lib.hid (Y4.out.step d5)
            have Q5 := Lib.hid (Q4.out.step d5)
            clear d5 y0 y1
            cases hF : queryB sch hd out
            · have E := Lib.hid (EY.out.2 fun h => by have := h.1; rw [hF] at this; cases this)
              rw [hF] at he
              subst he
              clear hF
              have q0 := X5.out.cell 0
              have q1 := X5.out.cell 1
              have q2 := X5.out.frozen 0
              have q3 := X5.out.frozen 1
              simp only [List.getElem?_toArray, List.getElem?_cons_zero, List.getElem?_cons_succ] at q0 q1
              go_wp2
              refine bodyPost_ret (v := .tuple #[.agg #[.slice none 0 0, .slice none 0 0], .bool false]) (by simp [results, Tryz.results23, go_sem, q0, q1, q2, q3]) rfl ?_
              rw [E.out]
              exact pq_none (Below.setCell (Below.setCell B5.out (Nat.le_refl _) _) (Nat.le_refl _) _)
            · have HF := Lib.hid hF
              rw [hF] at he
              subst he
              clear hF
              have y0 := Y5.out.cell 0
              have y1 := Y5.out.cell 1
              simp only [List.getElem?_toArray, List.getElem?_cons_zero, List.getElem?_cons_succ] at y0 y1
              go_wp2_with fail
              refine (spec_FormatQuery A A2 c c2 hd out HLH RA.out SZ _ Q5.out.ri Q5.out.rf).mono ?_
              rintro e w6 ⟨rfl, d6⟩
              have B6 := Lib.hid (step B5.out d6)
              have X6 := Lib.hid (X5.out.step d6)
              have Y6 := Lib.hid (Y5.out.step d6)
              have Q6 := Lib.hid (Q5.out.step d6)
              have z6 := d6.size
              have z5 := B5.out.size
              have zw6 := Y6.out.lt
              clear d6 y0 y1
              by_cases c3 : fmtQ hd out = s
              · have E := Lib.hid (EY.out.1 ⟨HF.out, c3⟩)
                have c4 : ((fmtQ hd out).toList == s.toList) = true := by rw [c3]; simp
                have c5 : (fmtQ hd out).toList = s.toList := by rw [c3]
                clear c3
                have q0 := X6.out.cell 0
                have q1 := X6.out.cell 1
                have q2 := X6.out.frozen 0
                have q3 := X6.out.frozen 1
                simp only [List.getElem?_toArray, List.getElem?_cons_zero, List.getElem?_cons_succ] at q0 q1
                have y0 := Y6.out.cell 0
                have y1 := Y6.out.cell 1
                simp only [List.getElem?_toArray, List.getElem?_cons_zero, List.getElem?_cons_succ] at y0 y1
                go_wp2
                refine bodyPost_ret (v := .tuple #[.agg #[.slice A (hd : List Int).length c, .slice A2 out.length c2], .bool true]) (by simp [results, Tryz.results23, go_sem, q0, q1, q2, q3]) rfl ?_
                rw [E.out]
                refine (show PqOut w hd out true _ _ from ⟨_, A, c, A2, c2, rfl, QO.mono (Q6.out.keep (fun b h1 _ => (Below.heap_setCell _ ⟨w.heap.size, 1, none⟩ _ b (by (try simp at h1 ⊢); omega)).trans (Below.heap_setCell _ ⟨w.heap.size, 0, none⟩ _ b (by (try simp at h1 ⊢); omega))) (by rw [size2]; exact Nat.le_refl _)) (by omega) (by rw [size2]; exact Q6.out.2.2.2.2) (Nat.le_refl _), ?_⟩)
                exact Below.setCell (Below.setCell B6.out (Nat.le_refl _) _) (Nat.le_refl _) _
              · have E := Lib.hid (EY.out.2 fun h => c3 h.2)
                have c5 := ba_ne c3
                have c6 : ((fmtQ hd out).toList == s.toList) = false := by simpa using c5
                have c7 : ((fmtQ hd out).toList != s.toList) = true := by simpa using c5
                clear c3
                have q0 := X6.out.cell 0
                have q1 := X6.out.cell 1
                have q2 := X6.out.frozen 0
                have q3 := X6.out.frozen 1
                simp only [List.getElem?_toArray, List.getElem?_cons_zero, List.getElem?_cons_succ] at q0 q1
                go_wp2
                refine bodyPost_ret (v := .tuple #[.agg #[.slice none 0 0, .slice none 0 0], .bool false]) (by simp [results, Tryz.results23, go_sem, q0, q1, q2, q3]) rfl ?_
                rw [E.out]
                exact pq_none (Below.setCell (Below.setCell B6.out (Nat.le_refl _) _) (Nat.le_refl _) _)
end Go.Proofs.YtfhlmindkogdoaaGreatDoor

namespace Go.Proofs.YtfhlmindkogdoaaGreatDoor
open Go.ChangeShapes Go.WideShapes Go.ChangeAt Go.RowKit Go.Sort
set_option linter.unusedVariables false
set_option linter.unusedSimpArgs false

theorem numsS_take (ws : List ByteArray) {k : Nat} (hk : k < ws.length) {x : ByteArray} (hx : ws.getD k ⟨#[]⟩ = x) : (ws.map numS).take (k + 1) = (ws.map numS).take k ++ [numS x] := by
  have hk' : k < (ws.map numS).length := by simpa using hk
  rw [List.take_succ_eq_append_getElem hk']
  subst hx
  simp [List.getD_eq_getElem?_getD, hk]
end Go.Proofs.YtfhlmindkogdoaaGreatDoor

namespace Go.Proofs.YtfhlmindkogdoaaGreatDoor
open Go.ChangeShapes Go.WideShapes Go.ChangeAt Go.RowKit Go.Sort
set_option linter.unusedVariables false
set_option linter.unusedSimpArgs false

theorem prs_len (S : List Int) (s : ByteArray) : (prs S s).2.1.length ≤ 3 := by
  by_cases h : okPI S s
  · rw [prs_yes h]; exact (factB_len h.2.2.1).1
  · rw [prs_no h]; simp

/-- What is turned lies from lo to below hi; new blocks may come. -/
structure Turned (lo hi : Nat) (w w' : World) : Prop where
  below : Below lo w w'
  size : w.heap.size ≤ w'.heap.size
  block : ∀ b, (b < lo ∨ hi ≤ b) → b < w.heap.size → w'.heap[b]? = w.heap[b]?

/-- A fact's numbers of the call's own, from lo to below hi. -/
def OV (w : World) (lo hi : Nat) (A : Option Addr) (c q : Nat) (xs : List Int) : Prop := OwnV w lo hi (.slice A xs.length c) q xs ∧ hi ≤ w.heap.size
theorem OV.ints {w : World} {lo hi c q : Nat} {A : Option Addr} {xs : List Int} (h : OV w lo hi A c q xs) : Ints w lo hi A xs := (OwnV.ints h.1).2.2.2
theorem OV.ri {w : World} {lo hi c q : Nat} {A : Option Addr} {xs : List Int} (h : OV w lo hi A c q xs) : RI w A xs := h.ints.mono (Nat.zero_le _) h.2
theorem OV.keep {w w' : World} {lo hi c q : Nat} {A : Option Addr} {xs : List Int} (h : OV w lo hi A c q xs) (hs : w.heap.size ≤ w'.heap.size) (hk : ∀ b, lo ≤ b → b < hi → w'.heap[b]? = w.heap[b]?) : OV w' lo hi A c q xs :=
  ⟨h.1.keep fun a b _ => hk q a b, Nat.le_trans h.2 hs⟩
theorem OV.step {w w' : World} {lo hi c q : Nat} {A : Option Addr} {xs : List Int} (h : OV w lo hi A c q xs) (b : Below w.heap.size w w') : OV w' lo hi A c q xs := h.keep b.size fun k _ hk => b.block k (by have := h.2; omega)
/-- Marks in it. -/
def MI (w : World) (lo hi : Nat) (A : Option Addr) (k : Int) (n : Nat) : Prop := Ints w lo hi A (marks k n) ∧ hi ≤ w.heap.size
theorem MI.step {w w' : World} {lo hi n : Nat} {A : Option Addr} {k : Int} (h : MI w lo hi A k n) (b : Below w.heap.size w w') : MI w' lo hi A k n := ⟨h.1.below b h.2, Nat.le_trans h.2 b.size⟩
theorem RB.step {w u u' : World} (h : Below w.heap.size w u) (b : Below u.heap.size u u') : Below w.heap.size w u' := h.trans (b.mono h.size)
end Go.Proofs.YtfhlmindkogdoaaGreatDoor

namespace Go.Proofs.YtfhlmindkogdoaaGreatDoor
open Go.ChangeShapes Go.WideShapes Go.ChangeAt Go.RowKit
set_option linter.unusedVariables false

set_option maxRecDepth 100000 in
theorem gTab : Tryz.prog.globalNamed "internal/strconv.uint64pow10" = some 3 := by kernel_rfl
set_option maxRecDepth 100000 in
theorem gTabType : (Tryz.prog.globals[3]?).map (·.type) = some 143 := by kernel_rfl
set_option maxRecDepth 100000 in
theorem cellsTab : Tryz.prog.cellsOf 143 = 20 := by kernel_rfl
set_option maxRecDepth 100000 in
theorem cellsU64 : Tryz.prog.cellsOf 133 = 1 := by kernel_rfl
set_option maxRecDepth 100000 in
theorem tabEq : (Rows.laid_internal_strconv_uint64pow10 : DataW Unit) = Lib.tabData .u64 Lib.pow10Tab := by kernel_rfl

/-- What the rows' list gives: the third variable holds the powers of ten. -/
theorem table {W : World} {n1 n2 : String} {d1 d2 : DataW Unit} (h : laidMet Tryz.prog [(n1, d1), (n2, d2), ("internal/strconv.uint64pow10", Rows.laid_internal_strconv_uint64pow10)] W) : Tab W := by
  rw [tabEq] at h
  obtain ⟨ps, ⟨_, _, _, _, _, _, _, _, _, _, ⟨_, _, _, _, _, _, _, _, _, _, ⟨g', t', cs, fuel, p, q, hg', ht', hvar, hd, _, _⟩, _⟩, _⟩, _⟩ := h
  obtain rfl := Option.some.inj (gTab.symm.trans hg')
  obtain rfl := Option.some.inj (gTabType.symm.trans ht')
  unfold Tab Lib.TabIs
  rw [hvar, ← Lib.cells_of_tab Tryz.underlying143 Tryz.underlying133 cellsU64 cellsTab hd]

/-- The cells that a datum of an array lays. -/
def cellsOfData : DataW Unit → Array Value
  | .agg parts => (parts.map fun
      | .lit (.int k n) => Value.int k n
      | _ => undef).toArray
  | _ => #[]

/-- A world for the witness: the settled one, the listed variables holding what their initialisers lay. -/
noncomputable def laidWorld (os : Os) : World :=
  let w0 := World.holding Tryz.prog os ⟨#[], #[], []⟩
  let put (h : Array Obj) (g : Nat) (cs : Array Value) : Array Obj := h.modify g fun
    | .cells _ t frozen => .cells cs t frozen
    | o => o
  let h1 := put w0.heap 3 (cellsOfData Rows.laid_internal_strconv_uint64pow10)
  let h2 := put h1 4 (cellsOfData Rows.laid_math_bits_deBruijn32tab)
  let h3 := put h2 5 (cellsOfData Rows.laid_math_bits_deBruijn64tab)
  { w0 with heap := h3 }
end Go.Proofs.YtfhlmindkogdoaaGreatDoor
