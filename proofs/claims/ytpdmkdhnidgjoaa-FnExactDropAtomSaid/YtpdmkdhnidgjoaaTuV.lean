/- What the terms are worth: the program's valuesOf, and TupleOf of both. Conditions: none beyond each theorem's own. -/
import Derived.Test.YtpdmkdhnidgjoaaValW
import Derived.Test.YtpdmkdhnidgjoaaQL
import Derived.Test.YtpdmkdhnidgjoaaQM
import Derived.Deep.RegionLaw
namespace Go.Proofs.Ytpdmkdhnidgjoaa
open Go.ChangeShapes Go.WideShapes Go.ChangeAt Go.RowKit Go.Sort
set_option linter.unusedVariables false
set_option linter.unusedSimpArgs false

/-- What the terms ts are worth under the binding of us to vs. -/
def tupV (us vs ts : List Int) : List Int := ts.map (bval us vs)
theorem tupV_len (us vs ts : List Int) : (tupV us vs ts).length = ts.length := List.length_map _
theorem tupV_take (us vs ts : List Int) {k : Nat} (hk : k < ts.length) {t : Int} (ht : ts.getD k 0 = t) : tupV us vs (ts.take (k + 1)) = tupV us vs (ts.take k) ++ [bval us vs t] := by
  rw [takeI' ts hk ht]
  simp [tupV]
theorem tupV_takeN (us vs ts : List Int) (k : Nat) (hk : k ≤ ts.length) : (tupV us vs (ts.take k)).length = k := by
  rw [tupV_len, List.length_take]; omega

/-- A call of two arguments as one step of a region that draws. -/
theorem callV2 {P : Program} {ops : Array Oper} {o : Oper} {a : Act} {w : World} {K : Act → World → Prop} {Q : Exit → Act → World → Prop} {E : Prop}
    (hgd : o.guard = none) (g : FuncId) (x y : Operand) (t t' : TypeId) (ho : o.op = .call { callee := .value (.func g), args := #[x, y], argTypes := #[t, t'] })
    (vx vy : Value) (hx : a.eval x = vx) (hy : a.eval y = vy) (hcf : (callFunc g #[vx, vy]).run P w = .ok (.enter g #[vx, vy]) w) {R : Value → World → Prop} (hc : Calls P g #[vx, vy] w fun e w' => ∃ v, e = .returned v ∧ R v w') (hK : ∀ v w', R v w' → K (a.put o.dst v) w') :
    if Region.wanted o (yielded ops a.tmps) = true then Oper.wp P o a w K Q else E := by
  have hw : Region.wanted o (yielded ops a.tmps) = true := by simp [Region.wanted, hgd]
  rw [if_pos hw]
  unfold Oper.wp
  have e : (execOp a.eval o).run P w = .ok (.enter g #[vx, vy]) w := by
    rw [← hx, ← hy] at hcf ⊢
    simpa [go_sem, execOp, ho, resolve, invoke] using hcf
  rw [e, Oper.upon_enter]
  refine hc.mono ?_
  rintro _ w' ⟨v, rfl, h⟩
  exact hK v w' h

set_option maxRecDepth 100000 in
set_option maxHeartbeats 1000000 in
theorem valuesOf_any (T U V : Option Addr) (ct cu cv : Nat) (ts us vs : List Int) (ht : ts.length ≤ 1048576) (hu : us.length ≤ 1048576) (hv : vs.length ≤ 1048576) (w : World) (h : RI w T ts) (h1 : RI w U us) (h2 : RI w V vs) :
    Calls Try.prog 56 #[.slice T ts.length ct, .agg #[.slice U us.length cu, .slice V vs.length cv]] w (ListT w (tupV us vs ts)) := by
  obtain ⟨i0, hi, hz0, hz1, hz2⟩ := info_parts int_info
  have ht' : (ts.length : Int) ≤ 1048576 := by omega
  have B0 := Lib.hid (below_alloc w (.cells #[.slice U us.length cu, .slice V vs.length cv] 29))
  have X0 := Lib.hid (Box.new w #[.slice U us.length cu, .slice V vs.length cv] 29)
  have HT := Lib.hid h
  have HU := Lib.hid h1
  have HV := Lib.hid h2
  clear h h1 h2
  go_enter Try.func56, Try.ntmps56
  go_wp2
  go_loopw [5, 7, 10] (fun o _ i wr => ∃ (k : Nat) (v : Value), k ≤ ts.length ∧ i = .int .i64 k ∧ v = o ∧ Hid (wr.ownsRow (w.heap.size + 1) 3 1 v k ((tupV us vs (ts.take k)).map (Value.int .i64))) ∧ Hid (Box wr w.heap.size #[.slice U us.length cu, .slice V vs.length cv] 29) ∧ Hid (Below w.heap.size w wr)) (fun _ _ i _ => ts.length - (intOf i).toNat)
  case atStart => exact ⟨0, _, by omega, rfl, rfl, Lib.hid (World.ownsRow_nil _ _ _ _), X0, B0⟩
  case round =>
    obtain ⟨k, v, hk, rfl, rfl, hO, hX, hB⟩ := hrel
    have x0 := hX.out.cell 0
    have x1 := hX.out.cell 1
    simp only [List.getElem?_toArray, List.getElem?_cons_zero, List.getElem?_cons_succ] at x0 x1
    have hk0 : (0 : Int) ≤ (k : Int) := by omega
    by_cases hlt : k < ts.length
    · have hk1 : (k : Int) < (ts.length : Int) := by omega
      obtain ⟨b, off, rfl, nb, e0⟩ := (HT.out.step hB.out).at_ hlt
      generalize hx : ts.getD k 0 = t at e0
      have TT := Lib.hid (tupV_take us vs ts hlt hx)
      have XV := Lib.hid (impl_ValueOf U V cu cv us vs t hu hv wr (HU.out.step hB.out) (HV.out.step hB.out))
      generalize bval us vs t = y at TT XV
      have hxl := hX.out.lt
      clear hx
      go_wp2_with fail
      refine XV.out.mono ?_
      rintro e w1 ⟨rfl, d⟩
      have O1 := Lib.hid (ownsRow_step hO.out d)
      have X1 := Lib.hid (hX.out.step d)
      have B1 := Lib.hid (step hB.out d)
      have Bl1 := Lib.hid (show Below (w.heap.size + 1) wr w1 from d.mono (by omega))
      have hbs : w.heap.size + 1 ≤ w1.heap.size := by have := X1.out.lt; omega
      clear d x0 x1
      go_wp2_with (at_builtin; refine wpList_push rfl _ _ _ 3 rfl i0 Try.underlying22 hi (.int .i64 0) 8 hz0 hz1 hz2 rfl (by omega) rfl rfl rfl O1.out (Below.refl _ w1) hbs (by omega) ?_; intro v' w' hown' hb' hsz')
      go_roundw
      case rel => exact ⟨k + 1, v', by omega, by go_num, rfl, Lib.hid (by rw [TT.out, List.map_append]; exact hown'), Lib.hid (show Box w' w.heap.size _ _ from (hb'.block _ (by omega)).trans X1.out), Lib.hid (B1.out.trans (hb'.mono (by omega)))⟩
      case measure => simp [intOf]; omega
    · obtain rfl : k = ts.length := by omega
      have OO := Lib.hid (show wr.ownsRow w.heap.size 3 1 v (tupV us vs ts).length ((tupV us vs ts).map (Value.int .i64)) by
        have := hO.out
        rw [List.take_length] at this
        rw [tupV_len]
        refine ⟨this.1, ?_⟩
        rcases this.2 with h0 | ⟨g, cap, cur, hv, hb, r⟩
        · exact .inl h0
        · exact .inr ⟨g, cap, cur, hv, by omega, r⟩)
      go_wp2
      go_ret
      exact ⟨v, rfl, OO.out, hB.out⟩

set_option maxRecDepth 100000 in
set_option maxHeartbeats 1000000 in
theorem impl_TupleOf (H Q U V : Option Addr) (ch c cu cv : Nat) (hs : List Int) (l : FL) (us vs : List Int) (hh : hs.length ≤ 1048576) (hu : us.length ≤ 1048576) (hv : vs.length ≤ 1048576) (w : World) (h : RI w H hs) (h1 : RI w U us) (h2 : RI w V vs) :
    Calls Try.prog 25 #[.agg #[.slice H hs.length ch, .slice Q l.length c], .agg #[.slice U us.length cu, .slice V vs.length cv]] w (ListT w (tupV us vs hs)) := by
  have B0 := Lib.hid (step (below_alloc w (.cells #[.slice H hs.length ch, .slice Q l.length c] 34)) (below_alloc _ (.cells #[.slice U us.length cu, .slice V vs.length cv] 29)))
  have XV := Lib.hid (valuesOf_any H U V ch cu cv hs us vs hh hu hv _ (h.step B0.out) (h1.step B0.out) (h2.step B0.out))
  clear h h1 h2
  go_enter Try.func25, Try.ntmps25
  go_wp2_with fail
  refine XV.out.mono ?_
  rintro e u ⟨v, rfl, ho, d⟩
  have D := Lib.hid (step B0.out d)
  have OO := Lib.hid (show u.ownsRow w.heap.size 3 1 v (tupV us vs hs).length ((tupV us vs hs).map (Value.int .i64)) by
    refine ⟨ho.1, ?_⟩
    rcases ho.2 with h0 | ⟨g, cap, cur, hv, hb, r⟩
    · exact .inl h0
    · exact .inr ⟨g, cap, cur, hv, by have := B0.out.size; omega, r⟩)
  clear ho d
  go_wp2
  go_ret
  exact ⟨v, rfl, OO.out, D.out⟩

set_option maxRecDepth 100000 in
set_option maxHeartbeats 2000000 in
theorem spec_TupleOf (H Q U V : Option Addr) (ch c cu cv : Nat) (hs : List Int) (l : FL) (us vs : List Int) (hh : hs.length ≤ 1048576) (hu : us.length ≤ 1048576) (hv : vs.length ≤ 1048576) (w : World) (h : RI w H hs) (h1 : RI w U us) (h2 : RI w V vs) :
    Calls Try.prog 23 #[.agg #[.slice H hs.length ch, .slice Q l.length c], .agg #[.slice U us.length cu, .slice V vs.length cv]] w (ListT w (tupV us vs hs)) := by
  obtain ⟨i0, hi, hz0, hz1, hz2⟩ := info_parts int_info
  have hh' : (hs.length : Int) ≤ 1048576 := by omega
  obtain ⟨w0, hw0⟩ : ∃ W, W = (w.alloc (.cells #[.slice H hs.length ch, .slice Q l.length c] 34)).alloc (.cells #[.slice U us.length cu, .slice V vs.length cv] 29) := ⟨_, rfl⟩
  have E0 := Lib.hid hw0
  have B0 := Lib.hid (show Below w.heap.size w w0 by rw [hw0]; exact step (below_alloc w _) (below_alloc _ _))
  have X0 := Lib.hid (show Box w0 w.heap.size #[.slice H hs.length ch, .slice Q l.length c] 34 by rw [hw0]; exact (Box.new w _ _).step (below_alloc _ _))
  have Y0 := Lib.hid (show Box w0 (w.heap.size + 1) #[.slice U us.length cu, .slice V vs.length cv] 29 by
    rw [hw0]
    have h := Box.new (w.alloc (.cells #[.slice H hs.length ch, .slice Q l.length c] 34)) #[.slice U us.length cu, .slice V vs.length cv] 29
    rwa [al_size] at h)
  have S0 := Lib.hid (show w0.heap.size = w.heap.size + 2 by rw [hw0, al_size, al_size])
  have HT := Lib.hid h
  have HU := Lib.hid h1
  have HV := Lib.hid h2
  clear h h1 h2 hw0
  go_enter Try.func23, Try.ntmps23
  go_wp2_with fail
  go_loopw [5, 6] (fun o i wr => ∃ (k : Nat) (v : Value), k ≤ hs.length ∧ i = .int .i64 k ∧ v = o ∧ Hid (wr.ownsRow (w.heap.size + 2) 3 1 v k ((tupV us vs (hs.take k)).map (Value.int .i64))) ∧ Hid (Box wr w.heap.size #[.slice H hs.length ch, .slice Q l.length c] 34) ∧ Hid (Box wr (w.heap.size + 1) #[.slice U us.length cu, .slice V vs.length cv] 29) ∧ Hid (Below w.heap.size w wr)) (fun _ i _ => hs.length - (intOf i).toNat)
  case atStart =>
    refine ⟨0, _, by omega, rfl, rfl, Lib.hid ?_, Lib.hid ?_, Lib.hid ?_, Lib.hid ?_⟩
    · rw [← E0.out]
      have := World.ownsRow_lit (base := w.heap.size + 2) (e := 3) (size := 1) w0 #[] 0 (by rw [S0.out]; exact Nat.le_refl _) (by unfold maxLen; omega) rfl
      rw [S0.out] at this
      exact this
    · rw [← E0.out]; exact X0.out.step (below_alloc _ _)
    · rw [← E0.out]; exact Y0.out.step (below_alloc _ _)
    · rw [← E0.out]; exact step B0.out (below_alloc _ _)
  case round =>
    obtain ⟨k, v, hk, rfl, rfl, hO, hX, hY, hB⟩ := hrel
    have x0 := hX.out.cell 0
    have y0 := hY.out.cell 0
    have y1 := hY.out.cell 1
    simp only [List.getElem?_toArray, List.getElem?_cons_zero, List.getElem?_cons_succ] at x0 y0 y1
    have hk0 : (0 : Int) ≤ (k : Int) := by omega
    by_cases hlt : k < hs.length
    · have hk1 : (k : Int) < (hs.length : Int) := by omega
      obtain ⟨b, off, rfl, nb, e0⟩ := (HT.out.step hB.out).at_ hlt
      generalize hx : hs.getD k 0 = t at e0
      have TT := Lib.hid (tupV_take us vs hs hlt hx)
      have XV := Lib.hid fun (W : World) (b : Below wr.heap.size wr W) => spec_ValueOf U V cu cv us vs t hu hv W ((HU.out.step hB.out).step b) ((HV.out.step hB.out).step b)
      generalize bval us vs t = y at TT XV
      have hyl := hY.out.lt
      clear hx
      go_wp2
      go_region_law (first
        | (refine callV2 rfl 49 _ _ _ _ rfl (.agg #[.slice U us.length cu, .slice V vs.length cv]) (.int .i64 t) rfl rfl (by kernel_rfl) (R := fun v' w' => v' = .int .i64 y ∧ Below wr.heap.size wr w') ((XV.out _ (by first | exact Below.refl _ _ | exact below_drew _)).mono (fun e w' h => ⟨_, h.1, rfl, by first | exact h.2 | exact und h.2 | exact undN h.2⟩)) ?_
           rintro _ u5 ⟨rfl, b5⟩
           have x05 := (b5.cell (p := ⟨w.heap.size, 0, none⟩) (by (try simp) <;> omega)).trans x0
           have y05 := (b5.cell (p := ⟨w.heap.size + 1, 0, none⟩) (by (try simp) <;> omega)).trans y0
           have y15 := (b5.cell (p := ⟨w.heap.size + 1, 1, none⟩) (by (try simp) <;> omega)).trans y1
           have z5 := b5.size
           have HO5 := Lib.hid (ownsRow_step hO.out b5)
           have hb5 : Below (w.heap.size + 2) wr u5 := b5.mono (by omega)
           have hz5 : w.heap.size + 2 ≤ u5.heap.size := by omega)
        | (refine step_pushR rfl _ _ _ 3 rfl i0 Try.underlying22 hi (.int .i64 0) 8 hz0 hz1 hz2 rfl (by omega) (w.heap.size + 2) k _ ((tupV us vs (hs.take k)).map (Value.int .i64)) _ 1 (.int .i64 y) rfl rfl rfl (by first | exact HO5.out.alloc _ | exact (HO5.out.alloc _).drew | exact HO5.out.drew.alloc _) (by first | exact hb5.alloc hz5 _ | exact (hb5.alloc hz5 _).drew | exact hb5.drew.alloc hz5 _) (by (try simp) <;> omega) (by omega) (by simp [Addr.add]) ?_
           intro v6 u6 hown6 hb6 hz6
           have HO6 := Lib.hid hown6
           clear hown6))
      all_goals
        have z6 := hb6.size
        clear x0 y0 y1 e0
        go_wp2
        go_roundw
        case rel =>
          refine ⟨k + 1, v6, by omega, by go_num, rfl, Lib.hid ?_, Lib.hid (show Box u6 w.heap.size _ _ from (hb6.block _ (by omega)).trans hX.out), Lib.hid (show Box u6 (w.heap.size + 1) _ _ from (hb6.block _ (by omega)).trans hY.out), Lib.hid (hB.out.trans (hb6.mono (by omega)))⟩
          rw [TT.out, List.map_append]
          exact HO6.out
        case measure => simp [intOf]; omega
    · obtain rfl : k = hs.length := by omega
      have OO := Lib.hid (show wr.ownsRow w.heap.size 3 1 v (tupV us vs hs).length ((tupV us vs hs).map (Value.int .i64)) by
        have := hO.out
        rw [List.take_length] at this
        rw [tupV_len]
        refine ⟨this.1, ?_⟩
        rcases this.2 with h0 | ⟨g, cap, cur, hv, hb, r⟩
        · exact .inl h0
        · exact .inr ⟨g, cap, cur, hv, by omega, r⟩)
      go_wp2
      go_ret
      exact ⟨v, rfl, OO.out, hB.out⟩
end Go.Proofs.Ytpdmkdhnidgjoaa
