/- What the terms are worth: the program's valuesOf, and TupleOf of both. Conditions: none beyond each theorem's own. What the two functions that compare lists of numbers answer. Conditions: none beyond each theorem's own. What matching an atom with a fact gives: plain lists. Conditions: none beyond each theorem's own. Where one more item stands: plain lists, and what owns them. Conditions: none beyond each theorem's own. -/
import Derived.Test.YtpdmkdhnidgjoaaValW
import Derived.Test.YtpdmkdhnidgjoaaFz3
import Derived.Test.YtpdmkdhnidgjoaaFz1
import Derived.Deep.RegionLaw
import Derived.Test.YtpdmkdhnidgjoaaEqList
import Derived.Test.YtpdmkdhnidgjoaaVal
import Derived.Test.YtpdmkdhnidgjoaaAddM

namespace Go.Proofs.Ytpdmkdhnidgjoaa
open Go.ChangeShapes Go.WideShapes Go.ChangeAt Go.RowKit Go.Sort
set_option linter.unusedVariables false
set_option linter.unusedSimpArgs false

/-- What the terms ts are worth under the binding of us to vs. -/
def tupV (us vs ts : List Int) : List Int := ts.map (bval us vs)
theorem tupV_len (us vs ts : List Int) : (tupV us vs ts).length = ts.length := List.length_map _
theorem tupV_take (us vs ts : List Int) {k : Nat} (hk : k < ts.length) {t : Int} (ht : ts.getD k 0 = t) : tupV us vs (ts.take (k + 1)) = tupV us vs (ts.take k) ++ [bval us vs t] := by
  rw [takeI' ts hk ht]
  simp [tupV]
theorem tupV_takeN (us vs ts : List Int) (k : Nat) (hk : k ≤ ts.length) : (tupV us vs (ts.take k)).length = k := by
  rw [tupV_len, List.length_take]; omega

/-- A call of two arguments as one step of a region that draws. -/
theorem callV2 {P : Program} {ops : Array Oper} {o : Oper} {a : Act} {w : World} {K : Act → World → Prop} {Q : Exit → Act → World → Prop} {E : Prop}
    (hgd : o.guard = none) (g : FuncId) (x y : Operand) (t t' : TypeId) (ho : o.op = .call { callee := .value (.func g), args := #[x, y], argTypes := #[t, t'] })
    (vx vy : Value) (hx : a.eval x = vx) (hy : a.eval y = vy) (hcf : (callFunc g #[vx, vy]).run P w = .ok (.enter g #[vx, vy]) w) {R : Value → World → Prop} (hc : Calls P g #[vx, vy] w fun e w' => ∃ v, e = .returned v ∧ R v w') (hK : ∀ v w', R v w' → K (a.put o.dst v) w') :
    if Region.wanted o (yielded ops a.tmps) = true then Oper.wp P o a w K Q else E := by
  have hw : Region.wanted o (yielded ops a.tmps) = true := by simp [Region.wanted, hgd]
  rw [if_pos hw]
  unfold Oper.wp
  have e : (execOp a.eval o).run P w = .ok (.enter g #[vx, vy]) w := by
    rw [← hx, ← hy] at hcf ⊢
    simpa [go_sem, execOp, ho, resolve, invoke] using hcf
  rw [e, Oper.upon_enter]
  refine hc.mono ?_
  rintro _ w' ⟨v, rfl, h⟩
  exact hK v w' h

set_option maxRecDepth 100000 in
set_option maxHeartbeats 1000000 in
theorem valuesOf_any (T U V : Option Addr) (ct cu cv : Nat) (ts us vs : List Int) (ht : ts.length ≤ 1048576) (hu : us.length ≤ 1048576) (hv : vs.length ≤ 1048576) (w : World) (h : RI w T ts) (h1 : RI w U us) (h2 : RI w V vs) :
    Calls Try.prog 56 #[.slice T ts.length ct, .agg #[.slice U us.length cu, .slice V vs.length cv]] w (ListT w (tupV us vs ts)) := by
  obtain ⟨i0, hi, hz0, hz1, hz2⟩ := info_parts int_info
  have ht' : (ts.length : Int) ≤ 1048576 := by omega
  have B0 := Lib.hid (below_alloc w (.cells #[.slice U us.length cu, .slice V vs.length cv] 29))
  have X0 := Lib.hid (Box.new w #[.slice U us.length cu, .slice V vs.length cv] 29)
  have HT := Lib.hid h
  have HU := Lib.hid h1
  have HV := Lib.hid h2
  clear h h1 h2
  go_enter Try.func56, Try.ntmps56
  go_wp2
  go_loopw [5, 7, 10] (fun o _ i wr => ∃ (k : Nat) (v : Value), k ≤ ts.length ∧ i = .int .i64 k ∧ v = o ∧ Hid (wr.ownsRow (w.heap.size + 1) 3 1 v k ((tupV us vs (ts.take k)).map (Value.int .i64))) ∧ Hid (Box wr w.heap.size #[.slice U us.length cu, .slice V vs.length cv] 29) ∧ Hid (Below w.heap.size w wr)) (fun _ _ i _ => ts.length - (intOf i).toNat)
  case atStart => exact ⟨0, _, by omega, rfl, rfl, Lib.hid (World.ownsRow_nil _ _ _ _), X0, B0⟩
  case round =>
    obtain ⟨k, v, hk, rfl, rfl, hO, hX, hB⟩ := hrel
    have x0 := hX.out.cell 0
    have x1 := hX.out.cell 1
    simp only [List.getElem?_toArray, List.getElem?_cons_zero, List.getElem?_cons_succ] at x0 x1
    have hk0 : (0 : Int) ≤ (k : Int) := by omega
    by_cases hlt : k < ts.length
    · have hk1 : (k : Int) < (ts.length : Int) := by omega
      obtain ⟨b, off, rfl, nb, e0⟩ := (HT.out.step hB.out).at_ hlt
      generalize hx : ts.getD k 0 = t at e0
      have TT := Lib.hid (tupV_take us vs ts hlt hx)
      have XV := Lib.hid (impl_ValueOf U V cu cv us vs t hu hv wr (HU.out.step hB.out) (HV.out.step hB.out))
      generalize bval us vs t = y at TT XV
      have hxl := hX.out.lt
      clear hx
      go_wp2_with fail
      refine XV.out.mono ?_
      rintro e w1 ⟨rfl, d⟩
      have O1 := Lib.hid (ownsRow_step hO.out d)
      have X1 := Lib.hid (hX.out.step d)
      have B1 := Lib.hid (step hB.out d)
      have Bl1 := Lib.hid (show Below (w.heap.size + 1) wr w1 from d.mono (by omega))
      have hbs : w.heap.size + 1 ≤ w1.heap.size := by have := X1.out.lt; omega
      clear d x0 x1
      go_wp2_with (at_builtin; refine wpList_push rfl _ _ _ 3 rfl i0 Try.underlying22 hi (.int .i64 0) 8 hz0 hz1 hz2 rfl (by omega) rfl rfl rfl O1.out (Below.refl _ w1) hbs (by omega) ?_; intro v' w' hown' hb' hsz')
      go_roundw
      case rel => exact ⟨k + 1, v', by omega, by go_num, rfl, Lib.hid (by rw [TT.out, List.map_append]; exact hown'), Lib.hid (show Box w' w.heap.size _ _ from (hb'.block _ (by omega)).trans X1.out), Lib.hid (B1.out.trans (hb'.mono (by omega)))⟩
      case measure => simp [intOf]; omega
    · obtain rfl : k = ts.length := by omega
      have OO := Lib.hid (show wr.ownsRow w.heap.size 3 1 v (tupV us vs ts).length ((tupV us vs ts).map (Value.int .i64)) by
        have := hO.out
        rw [List.take_length] at this
        rw [tupV_len]
        refine ⟨this.1, ?_⟩
        rcases this.2 with h0 | ⟨g, cap, cur, hv, hb, r⟩
        · exact .inl h0
        · exact .inr ⟨g, cap, cur, hv, by omega, r⟩)
      go_wp2
      go_ret
      exact ⟨v, rfl, OO.out, hB.out⟩

set_option maxRecDepth 100000 in
set_option maxHeartbeats 1000000 in
theorem impl_TupleOf (H Q U V : Option Addr) (ch c cu cv : Nat) (hs : List Int) (l : FL) (us vs : List Int) (hh : hs.length ≤ 1048576) (hu : us.length ≤ 1048576) (hv : vs.length ≤ 1048576) (w : World) (h : RI w H hs) (h1 : RI w U us) (h2 : RI w V vs) :
    Calls Try.prog 25 #[.agg #[.slice H hs.length ch, .slice Q l.length c], .agg #[.slice U us.length cu, .slice V vs.length cv]] w (ListT w (tupV us vs hs)) := by
  have B0 := Lib.hid (step (below_alloc w (.cells #[.slice H hs.length ch, .slice Q l.length c] 34)) (below_alloc _ (.cells #[.slice U us.length cu, .slice V vs.length cv] 29)))
  have XV := Lib.hid (valuesOf_any H U V ch cu cv hs us vs hh hu hv _ (h.step B0.out) (h1.step B0.out) (h2.step B0.out))
  clear h h1 h2
  go_enter Try.func25, Try.ntmps25
  go_wp2_with fail
  refine XV.out.mono ?_
  rintro e u ⟨v, rfl, ho, d⟩
  have D := Lib.hid (step B0.out d)
  have OO := Lib.hid (show u.ownsRow w.heap.size 3 1 v (tupV us vs hs).length ((tupV us vs hs).map (Value.int .i64)) by
    refine ⟨ho.1, ?_⟩
    rcases ho.2 with h0 | ⟨g, cap, cur, hv, hb, r⟩
    · exact .inl h0
    · exact .inr ⟨g, cap, cur, hv, by have := B0.out.size; omega, r⟩)
  clear ho d
  go_wp2
  go_ret
  exact ⟨v, rfl, OO.out, D.out⟩

set_option maxRecDepth 100000 in
set_option maxHeartbeats 2000000 in
theorem spec_TupleOf (H Q U V : Option Addr) (ch c cu cv : Nat) (hs : List Int) (l : FL) (us vs : List Int) (hh : hs.length ≤ 1048576) (hu : us.length ≤ 1048576) (hv : vs.length ≤ 1048576) (w : World) (h : RI w H hs) (h1 : RI w U us) (h2 : RI w V vs) :
    Calls Try.prog 23 #[.agg #[.slice H hs.length ch, .slice Q l.length c], .agg #[.slice U us.length cu, .slice V vs.length cv]] w (ListT w (tupV us vs hs)) := by
  obtain ⟨i0, hi, hz0, hz1, hz2⟩ := info_parts int_info
  have hh' : (hs.length : Int) ≤ 1048576 := by omega
  obtain ⟨w0, hw0⟩ : ∃ W, W = (w.alloc (.cells #[.slice H hs.length ch, .slice Q l.length c] 34)).alloc (.cells #[.slice U us.length cu, .slice V vs.length cv] 29) := ⟨_, rfl⟩
  have E0 := Lib.hid hw0
  have B0 := Lib.hid (show Below w.heap.size w w0 by rw [hw0]; exact step (below_alloc w _) (below_alloc _ _))
  have X0 := Lib.hid (show Box w0 w.heap.size #[.slice H hs.length ch, .slice Q l.length c] 34 by rw [hw0]; exact (Box.new w _ _).step (below_alloc _ _))
  have Y0 := Lib.hid (show Box w0 (w.heap.size + 1) #[.slice U us.length cu, .slice V vs.length cv] 29 by
    rw [hw0]
    have h := Box.new (w.alloc (.cells #[.slice H hs.length ch, .slice Q l.length c] 34)) #[.slice U us.length cu, .slice V vs.length cv] 29
    rwa [al_size] at h)
  have S0 := Lib.hid (show w0.heap.size = w.heap.size + 2 by rw [hw0, al_size, al_size])
  have HT := Lib.hid h
  have HU := Lib.hid h1
  have HV := Lib.hid h2
  clear h h1 h2 hw0
  go_enter Try.func23, Try.ntmps23
  go_wp2_with fail
  go_loopw [5, 6] (fun o i wr => ∃ (k : Nat) (v : Value), k ≤ hs.length ∧ i = .int .i64 k ∧ v = o ∧ Hid (wr.ownsRow (w.heap.size + 2) 3 1 v k ((tupV us vs (hs.take k)).map (Value.int .i64))) ∧ Hid (Box wr w.heap.size #[.slice H hs.length ch, .slice Q l.length c] 34) ∧ Hid (Box wr (w.heap.size + 1) #[.slice U us.length cu, .slice V vs.length cv] 29) ∧ Hid (Below w.heap.size w wr)) (fun _ i _ => hs.length - (intOf i).toNat)
  case atStart =>
    refine ⟨0, _, by omega, rfl, rfl, Lib.hid ?_, Lib.hid ?_, Lib.hid ?_, Lib.hid ?_⟩
    · rw [← E0.out]
      have := World.ownsRow_lit (base := w.heap.size + 2) (e := 3) (size := 1) w0 #[] 0 (by rw [S0.out]; exact Nat.le_refl _) (by unfold maxLen; omega) rfl
      rw [S0.out] at this
      exact this
    · rw [← E0.out]; exact X0.out.step (below_alloc _ _)
    · rw [← E0.out]; exact Y0.out.step (below_alloc _ _)
    · rw [← E0.out]; exact step B0.out (below_alloc _ _)
  case round =>
    obtain ⟨k, v, hk, rfl, rfl, hO, hX, hY, hB⟩ := hrel
    have x0 := hX.out.cell 0
    have y0 := hY.out.cell 0
    have y1 := hY.out.cell 1
    simp only [List.getElem?_toArray, List.getElem?_cons_zero, List.getElem?_cons_succ] at x0 y0 y1
    have hk0 : (0 : Int) ≤ (k : Int) := by omega
    by_cases hlt : k < hs.length
    · have hk1 : (k : Int) < (hs.length : Int) := by omega
      obtain ⟨b, off, rfl, nb, e0⟩ := (HT.out.step hB.out).at_ hlt
      generalize hx : hs.getD k 0 = t at e0
      have TT := Lib.hid (tupV_take us vs hs hlt hx)
      have XV := Lib.hid fun (W : World) (b : Below wr.heap.size wr W) => spec_ValueOf U V cu cv us vs t hu hv W ((HU.out.step hB.out).step b) ((HV.out.step hB.out).step b)
      generalize bval us vs t = y at TT XV
      have hyl := hY.out.lt
      clear hx
      go_wp2
      go_region_law (first
        | (refine callV2 rfl 49 _ _ _ _ rfl (.agg #[.slice U us.length cu, .slice V vs.length cv]) (.int .i64 t) rfl rfl (by kernel_rfl) (R := fun v' w' => v' = .int .i64 y ∧ Below wr.heap.size wr w') ((XV.out _ (by first | exact Below.refl _ _ | exact below_drew _)).mono (fun e w' h => ⟨_, h.1, rfl, by first | exact h.2 | exact und h.2 | exact undN h.2⟩)) ?_
           rintro _ u5 ⟨rfl, b5⟩
           have x05 := (b5.cell (p := ⟨w.heap.size, 0, none⟩) (by (try simp) <;> omega)).trans x0
           have y05 := (b5.cell (p := ⟨w.heap.size + 1, 0, none⟩) (by (try simp) <;> omega)).trans y0
           have y15 := (b5.cell (p := ⟨w.heap.size + 1, 1, none⟩) (by (try simp) <;> omega)).trans y1
           have z5 := b5.size
           have HO5 := Lib.hid (ownsRow_step hO.out b5)
           have hb5 : Below (w.heap.size + 2) wr u5 := b5.mono (by omega)
           have hz5 : w.heap.size + 2 ≤ u5.heap.size := by omega)
        | (refine step_pushR rfl _ _ _ 3 rfl i0 Try.underlying22 hi (.int .i64 0) 8 hz0 hz1 hz2 rfl (by omega) (w.heap.size + 2) k _ ((tupV us vs (hs.take k)).map (Value.int .i64)) _ 1 (.int .i64 y) rfl rfl rfl (by first | exact HO5.out.alloc _ | exact (HO5.out.alloc _).drew | exact HO5.out.drew.alloc _) (by first | exact hb5.alloc hz5 _ | exact (hb5.alloc hz5 _).drew | exact hb5.drew.alloc hz5 _) (by (try simp) <;> omega) (by omega) (by simp [Addr.add]) ?_
           intro v6 u6 hown6 hb6 hz6
           have HO6 := Lib.hid hown6
           clear hown6))
      all_goals
        have z6 := hb6.size
        clear x0 y0 y1 e0
        go_wp2
        go_roundw
        case rel =>
          refine ⟨k + 1, v6, by omega, by go_num, rfl, Lib.hid ?_, Lib.hid (show Box u6 w.heap.size _ _ from (hb6.block _ (by omega)).trans hX.out), Lib.hid (show Box u6 (w.heap.size + 1) _ _ from (hb6.block _ (by omega)).trans hY.out), Lib.hid (hB.out.trans (hb6.mono (by omega)))⟩
          rw [TT.out, List.map_append]
          exact HO6.out
        case measure => simp [intOf]; omega
    · obtain rfl : k = hs.length := by omega
      have OO := Lib.hid (show wr.ownsRow w.heap.size 3 1 v (tupV us vs hs).length ((tupV us vs hs).map (Value.int .i64)) by
        have := hO.out
        rw [List.take_length] at this
        rw [tupV_len]
        refine ⟨this.1, ?_⟩
        rcases this.2 with h0 | ⟨g, cap, cur, hv, hb, r⟩
        · exact .inl h0
        · exact .inr ⟨g, cap, cur, hv, by omega, r⟩)
      go_wp2
      go_ret
      exact ⟨v, rfl, OO.out, hB.out⟩
end Go.Proofs.Ytpdmkdhnidgjoaa

namespace Go.Proofs.Ytpdmkdhnidgjoaa
open Go.ChangeShapes Go.WideShapes Go.ChangeAt Go.RowKit Go.Sort
set_option linter.unusedVariables false
set_option linter.unusedSimpArgs false

set_option maxRecDepth 100000 in
set_option maxHeartbeats 1000000 in
theorem l2Ints_any (lo hi lo' hi' : Nat) (A A' : Option Addr) (c c' : Nat) (xs ys : List Int) (hl : xs.length ≤ 140737488355328) (hl2 : ys.length ≤ 140737488355328) (w : World) (h : Ints w lo hi A xs) (h' : Ints w lo' hi' A' ys) :
    Calls Try.prog 59 #[.slice A xs.length c, .slice A' ys.length c'] w fun e w' => e = .returned (.bool (decide (xs = ys))) ∧ Below w.heap.size w w' := by
  by_cases hlen : xs.length = ys.length
  · have HI := Lib.hid h
    have HJ := Lib.hid h'
    have HL := Lib.hid hlen
    clear h h'
    have hl' : (xs.length : Int) ≤ 140737488355328 := by omega
    rw [← hlen]
    clear hlen
    go_enter Try.func59, Try.ntmps59
    go_wp2
    go_loopw [5] (fun i wr => ∃ k : Nat, k ≤ xs.length ∧ i = .int .i64 k ∧ xs.take k = ys.take k ∧ Below w.heap.size w wr ∧ wr.heap = w.heap) (fun i _ => xs.length - (intOf i).toNat)
    case atStart => exact ⟨0, by omega, rfl, rfl, Below.refl _ _, rfl⟩
    case round =>
      obtain ⟨k, hk, rfl, ha, hb, hh⟩ := hrel
      have HA := Lib.hid ha
      have HH := Lib.hid hh
      clear ha hh
      by_cases hlt : k < xs.length
      · have HI1 : Ints wr lo hi A xs := HI.out.keep fun b _ _ => by rw [HH.out]
        have HJ1 : Ints wr lo' hi' A' ys := HJ.out.keep fun b _ _ => by rw [HH.out]
        obtain ⟨b, off, rfl, _, _, hc⟩ := HI1.at_ hlt
        obtain ⟨b', off', rfl, _, _, hc'⟩ := HJ1.at_ (show k < ys.length by have := HL.out; omega)
        generalize hx : xs.getD k 0 = x at hc
        generalize hy : ys.getD k 0 = y at hc'
        have HX := Lib.hid hx
        have HY := Lib.hid hy
        clear hx hy HI1 HJ1
        have hk0 : (0 : Int) ≤ (k : Int) := by omega
        have hk1 : (k : Int) < (xs.length : Int) := by omega
        by_cases hin : x = y
        · subst hin
          go_wp2
          go_quiet (fail)
          go_wp2
          go_roundw
          case rel => exact ⟨k + 1, by omega, by go_num, eq_take _ _ HL.out _ hlt HA.out (by rw [HX.out, HY.out]), below_drewN hb _, HH.out⟩
          case measure => simp [intOf]; omega
        · have hd : (x == y) = false := by simpa using hin
          have hd2 : (x != y) = true := by simpa using hin
          go_wp2
          go_quiet (fail)
          go_wp2
          go_ret
          exact ⟨ret_bool (by rw [decide_eq_false]; rintro rfl; exact hin (HX.out.symm.trans HY.out)), below_drewN hb _⟩
      · obtain rfl : k = xs.length := by omega
        go_wp2
        go_ret
        exact ⟨ret_bool (by rw [decide_eq_true]; have := HA.out; rwa [take_all, HL.out, take_all] at this), hb⟩
  · have hd : ((xs.length : Int) == (ys.length : Int)) = false := by simp; omega
    have hd2 : ((xs.length : Int) != (ys.length : Int)) = true := by simp; omega
    have H := Lib.hid hlen
    clear hlen
    go_enter Try.func59, Try.ntmps59
    go_wp2
    go_ret
    exact ⟨ret_bool (by rw [decide_eq_false]; rintro rfl; exact H.out rfl), Below.refl _ _⟩

set_option maxRecDepth 100000 in
set_option maxHeartbeats 1000000 in
theorem sEqual_any (lo hi lo' hi' : Nat) (A A' : Option Addr) (c c' : Nat) (xs ys : List Int) (hl : xs.length ≤ 140737488355328) (hl2 : ys.length ≤ 140737488355328) (w : World) (h : Ints w lo hi A xs) (h' : Ints w lo' hi' A' ys) :
    Calls Try.prog 62 #[.slice A xs.length c, .slice A' ys.length c'] w fun e w' => e = .returned (.bool (decide (xs = ys))) ∧ Below w.heap.size w w' := by
  by_cases hlen : xs.length = ys.length
  · have HI := Lib.hid h
    have HJ := Lib.hid h'
    have HL := Lib.hid hlen
    clear h h'
    have hl' : (xs.length : Int) ≤ 140737488355328 := by omega
    rw [← hlen]
    clear hlen
    go_enter Try.func62, Try.ntmps62
    go_wp2
    go_loopw [5, 13] (fun _ i wr => ∃ k : Nat, k ≤ xs.length ∧ i = .int .i64 k ∧ xs.take k = ys.take k ∧ Below w.heap.size w wr ∧ wr.heap = w.heap) (fun _ i _ => xs.length - (intOf i).toNat)
    case atStart => exact ⟨0, by omega, rfl, rfl, Below.refl _ _, rfl⟩
    case round =>
      obtain ⟨k, hk, rfl, ha, hb, hh⟩ := hrel
      have HA := Lib.hid ha
      have HH := Lib.hid hh
      clear ha hh
      by_cases hlt : k < xs.length
      · have HI1 : Ints wr lo hi A xs := HI.out.keep fun b _ _ => by rw [HH.out]
        have HJ1 : Ints wr lo' hi' A' ys := HJ.out.keep fun b _ _ => by rw [HH.out]
        obtain ⟨b, off, rfl, _, _, hc⟩ := HI1.at_ hlt
        obtain ⟨b', off', rfl, _, _, hc'⟩ := HJ1.at_ (show k < ys.length by have := HL.out; omega)
        generalize hx : xs.getD k 0 = x at hc
        generalize hy : ys.getD k 0 = y at hc'
        have HX := Lib.hid hx
        have HY := Lib.hid hy
        clear hx hy HI1 HJ1
        have hk0 : (0 : Int) ≤ (k : Int) := by omega
        have hk1 : (k : Int) < (xs.length : Int) := by omega
        by_cases hin : x = y
        · subst hin
          go_wp2
          go_quiet (fail)
          go_wp2
          go_roundw
          case rel => exact ⟨k + 1, by omega, by go_num, eq_take _ _ HL.out _ hlt HA.out (by rw [HX.out, HY.out]), below_drewN hb _, HH.out⟩
          case measure => simp [intOf]; omega
        · have hd : (x == y) = false := by simpa using hin
          have hd2 : (x != y) = true := by simpa using hin
          go_wp2
          go_quiet (fail)
          go_wp2
          go_ret
          exact ⟨ret_bool (by rw [decide_eq_false]; rintro rfl; exact hin (HX.out.symm.trans HY.out)), below_drewN hb _⟩
      · obtain rfl : k = xs.length := by omega
        go_wp2
        go_ret
        exact ⟨ret_bool (by rw [decide_eq_true]; have := HA.out; rwa [take_all, HL.out, take_all] at this), hb⟩
  · have hd : ((xs.length : Int) == (ys.length : Int)) = false := by simp; omega
    have hd2 : ((xs.length : Int) != (ys.length : Int)) = true := by simp; omega
    have H := Lib.hid hlen
    clear hlen
    go_enter Try.func62, Try.ntmps62
    go_wp2
    go_ret
    exact ⟨ret_bool (by rw [decide_eq_false]; rintro rfl; exact H.out rfl), Below.refl _ _⟩

end Go.Proofs.Ytpdmkdhnidgjoaa

namespace Go.Proofs.Ytpdmkdhnidgjoaa
open Go.ChangeShapes Go.WideShapes Go.ChangeAt Go.RowKit Go.Sort
set_option linter.unusedVariables false
set_option linter.unusedSimpArgs false

abbrev PL := List Int × List Int
/-- One term against one value. -/
def mst (p : PL) (t v : Int) : Option PL :=
  if inB t 10 17 = true then (if t ∈ p.1 then (if bval p.1 p.2 t = v then some p else none) else some (p.1 ++ [t], p.2 ++ [v])) else (if t = v then some p else none)
def mgo (p : PL) : List Int → List Int → Option PL
  | t :: ts, v :: vs => (mst p t v).bind fun q => mgo q ts vs
  | _, _ => some p
theorem mgo_nil (p : PL) (vs : List Int) : mgo p [] vs = some p := by cases vs <;> rfl
theorem mgo_append : ∀ (ts vs : List Int) (p : PL) (ts' vs' : List Int), ts.length = vs.length → mgo p (ts ++ ts') (vs ++ vs') = (mgo p ts vs).bind fun q => mgo q ts' vs'
  | [], [], p, ts', vs', _ => by simp [mgo_nil]
  | [], _ :: _, _, _, _, h => by simp at h
  | _ :: _, [], _, _, _, h => by simp at h
  | t :: ts, v :: vs, p, ts', vs', h => by
    have hl : ts.length = vs.length := by simpa using h
    show (mst p t v).bind (fun q => mgo q (ts ++ ts') (vs ++ vs')) = ((mst p t v).bind fun q => mgo q ts vs).bind fun q => mgo q ts' vs'
    cases mst p t v with
    | none => rfl
    | some q => exact mgo_append ts vs q ts' vs' hl
theorem split_at (l : List Int) {k : Nat} (hk : k < l.length) {x : Int} (hx : l.getD k 0 = x) : l = l.take k ++ x :: l.drop (k + 1) := by
  have e : l[k] = x := by rw [← hx]; simp [List.getD_eq_getElem?_getD, hk]
  rw [← e, List.getElem_cons_drop, List.take_append_drop]
theorem mgo_step {ts vs : List Int} (hl : ts.length = vs.length) {k : Nat} (hk : k < ts.length) {t v : Int} (ht : ts.getD k 0 = t) (hv : vs.getD k 0 = v) {p0 p : PL} (h : mgo p0 (ts.take k) (vs.take k) = some p) :
    mgo p0 (ts.take (k + 1)) (vs.take (k + 1)) = mst p t v := by
  rw [takeI' ts hk ht, takeI' vs (by omega) hv, mgo_append _ _ _ _ _ (by rw [List.length_take, List.length_take]; omega), h]
  show ((mst p t v).bind fun q => mgo q [] []) = _
  cases mst p t v <;> rfl
theorem mgo_fail {ts vs : List Int} (hl : ts.length = vs.length) {k : Nat} (hk : k < ts.length) {t v : Int} (ht : ts.getD k 0 = t) (hv : vs.getD k 0 = v) {p0 p : PL} (h : mgo p0 (ts.take k) (vs.take k) = some p) (hm : mst p t v = none) :
    mgo p0 ts vs = none := by
  rw [split_at ts hk ht, split_at vs (by omega) hv, mgo_append _ _ _ _ _ (by rw [List.length_take, List.length_take]; omega), h]
  show (mst p t v).bind _ = none
  rw [hm]
  rfl
/-- The value of a place of a binding. -/
def pval (p : PL) (t : Int) : Int := p.2.getD (p.1.idxOf t) 0
theorem bval_mem {p : PL} (hl : p.1.length = p.2.length) {t : Int} (h : inB t 10 17 = true) (hm : t ∈ p.1) : bval p.1 p.2 t = pval p t := by
  have := List.idxOf_lt_length_iff.2 hm
  simp [bval, pval, h, this, ← hl]
theorem pval_old {p : PL} (hl : p.1.length = p.2.length) {t : Int} (hm : t ∈ p.1) (x v : Int) : pval (p.1 ++ [x], p.2 ++ [v]) t = pval p t := by
  have h1 := List.idxOf_lt_length_iff.2 hm
  simp only [pval]
  rw [List.idxOf_append, if_pos hm, List.getD_eq_getElem?_getD, List.getElem?_append_left (by omega), ← List.getD_eq_getElem?_getD]
theorem pval_new {p : PL} (hl : p.1.length = p.2.length) {t : Int} (hm : t ∉ p.1) (v : Int) : pval (p.1 ++ [t], p.2 ++ [v]) t = v := by
  simp only [pval]
  rw [List.idxOf_append, if_neg hm]
  simp [List.getD_eq_getElem?_getD, hl]
theorem mst_len {p q : PL} {t v : Int} (h : mst p t v = some q) (hl : p.1.length = p.2.length) : q.1.length = q.2.length ∧ p.1.length ≤ q.1.length ∧ q.1.length ≤ p.1.length + 1 := by
  unfold mst at h
  split at h
  · split at h
    · split at h
      · injection h with h; subst h; exact ⟨hl, by omega, by omega⟩
      · cases h
    · injection h with h; subst h; simp [hl]
  · split at h
    · injection h with h; subst h; exact ⟨hl, by omega, by omega⟩
    · cases h
theorem mgo_len : ∀ (ts vs : List Int) (p q : PL), mgo p ts vs = some q → p.1.length = p.2.length → q.1.length = q.2.length ∧ p.1.length ≤ q.1.length ∧ q.1.length ≤ p.1.length + ts.length
  | [], vs, p, q, h, hl => by rw [mgo_nil] at h; injection h with h; subst h; exact ⟨hl, by omega, by simp⟩
  | t :: ts, [], p, q, h, hl => by injection h with h; subst h; exact ⟨hl, by omega, by omega⟩
  | t :: ts, v :: vs, p, q, h, hl => by
    change (mst p t v).bind _ = _ at h
    cases hm : mst p t v with
    | none => rw [hm] at h; cases h
    | some r =>
      rw [hm] at h
      have h1 := mst_len hm hl
      have h2 := mgo_len ts vs r q h h1.1
      rw [List.length_cons]
      exact ⟨h2.1, by omega, by omega⟩
/-- What MatchAtom gives. -/
def matB (p : PL) (r : Int) (ts : List Int) (r' : Int) (vs : List Int) : Option PL :=
  if r = r' ∧ ts.length = vs.length ∧ p.1.length = p.2.length then mgo p ts vs else none
end Go.Proofs.Ytpdmkdhnidgjoaa

namespace Go.Proofs.Ytpdmkdhnidgjoaa
open Go.ChangeShapes Go.WideShapes Go.ChangeAt Go.RowKit Go.Sort
set_option linter.unusedVariables false
set_option linter.unusedSimpArgs false

theorem ins_get {α : Type} (fs : List α) (x : α) (k : Nat) (hk : k ≤ fs.length) (j : Nat) : (fs.take k ++ x :: fs.drop k)[j]? = if j < k then fs[j]? else if j = k then some x else fs[j - 1]? := by
  by_cases h1 : j < k
  · rw [if_pos h1, List.getElem?_append_left (by rw [List.length_take]; omega), List.getElem?_take_of_lt h1]
  · rw [if_neg h1, List.getElem?_append_right (by rw [List.length_take]; omega), List.length_take, show j - min k fs.length = j - k by omega]
    by_cases h2 : j = k
    · subst h2; simp
    · rw [if_neg h2, show j - k = (j - 1 - k) + 1 by omega, List.getElem?_cons_succ, List.getElem?_drop, show k + (j - 1 - k) = j - 1 by omega]
theorem ins_getD {α : Type} (d : α) (fs : List α) (x : α) (k : Nat) (hk : k ≤ fs.length) (j : Nat) : (fs.take k ++ x :: fs.drop k).getD j d = if j < k then fs.getD j d else if j = k then x else fs.getD (j - 1) d := by
  simp only [List.getD_eq_getElem?_getD, ins_get fs x k hk j]
  split
  · rfl
  · split <;> rfl
theorem ins_len {α : Type} (fs : List α) (x : α) (k : Nat) (hk : k ≤ fs.length) : (fs.take k ++ x :: fs.drop k).length = fs.length + 1 := by
  simp only [List.length_append, List.length_take, List.length_cons, List.length_drop]; omega
theorem ins2_get (cs : List Value) (a b : Value) (m : Nat) (hm : m ≤ cs.length) (i : Nat) : (cs.take m ++ [a, b] ++ cs.drop m)[i]? = if i < m then cs[i]? else if i = m then some a else if i = m + 1 then some b else cs[i - 2]? := by
  rw [List.append_assoc]
  by_cases h1 : i < m
  · rw [if_pos h1, List.getElem?_append_left (by rw [List.length_take]; omega), List.getElem?_take_of_lt h1]
  · rw [if_neg h1, List.getElem?_append_right (by rw [List.length_take]; omega), List.length_take, show i - min m cs.length = i - m by omega]
    by_cases h2 : i = m
    · subst h2; simp
    · rw [if_neg h2, show i - m = (i - m - 1) + 1 by omega, List.cons_append, List.getElem?_cons_succ]
      by_cases h3 : i = m + 1
      · subst h3; simp
      · rw [if_neg h3, show i - m - 1 = (i - m - 2) + 1 by omega, List.cons_append, List.getElem?_cons_succ, List.nil_append, List.getElem?_drop, show m + (i - m - 2) = i - 2 by omega]

theorem Items.insert {w : World} {lo mid hi : Nat} {fs : FL} {cs : List Value} {bs : Nat → Nat} (h : Items w lo mid fs cs bs) {q : Nat} {r : Int} {xs : List Int} {v : Value} (hv : OwnV w mid hi v q xs) (a : lo ≤ mid) (b : mid ≤ hi) (k : Nat) (hk : k ≤ fs.length) :
    Items w lo hi (fs.take k ++ (r, xs) :: fs.drop k) (cs.take (k * 2) ++ [.int .i64 r, v] ++ cs.drop (k * 2)) (fun j => if j < k then bs j else if j = k then q else bs (j - 1)) := by
  have H := h
  obtain ⟨h1, h2, h3⟩ := h
  have hm : k * 2 ≤ cs.length := by omega
  refine ⟨?_, fun j hj => ?_, fun i j hij hj hi0 hj0 => ?_⟩
  · rw [ins_len _ _ _ hk]
    simp only [List.length_append, List.length_take, List.length_drop, List.length_cons, List.length_nil]; omega
  · rw [ins_len _ _ _ hk] at hj
    rw [ins_getD _ _ _ _ hk, ins2_get _ _ _ _ hm, ins2_get _ _ _ _ hm]
    by_cases e1 : j < k
    · simp only [if_pos e1, if_pos (show j * 2 < k * 2 by omega), if_pos (show j * 2 + 1 < k * 2 by omega)]
      obtain ⟨e0, v1, e2, hv1⟩ := h2 j (by omega)
      exact ⟨e0, v1, e2, hv1.mono (Nat.le_refl _) b⟩
    · by_cases e2 : j = k
      · subst e2
        simp only [if_neg e1, if_pos, if_neg (show ¬ j * 2 < j * 2 by omega), if_neg (show ¬ j * 2 + 1 < j * 2 by omega), if_neg (show ¬ j * 2 + 1 = j * 2 by omega)]
        exact ⟨trivial, v, rfl, hv.mono a (Nat.le_refl _)⟩
      · simp only [if_neg e1, if_neg e2, if_neg (show ¬ j * 2 < k * 2 by omega), if_neg (show ¬ j * 2 = k * 2 by omega), if_neg (show ¬ j * 2 = k * 2 + 1 by omega), if_neg (show ¬ j * 2 + 1 < k * 2 by omega), if_neg (show ¬ j * 2 + 1 = k * 2 by omega), if_neg (show ¬ j * 2 + 1 = k * 2 + 1 by omega)]
        obtain ⟨e0, v1, e3, hv1⟩ := h2 (j - 1) (by omega)
        refine ⟨by rw [show j * 2 - 2 = (j - 1) * 2 by omega]; exact e0, v1, by rw [show j * 2 + 1 - 2 = (j - 1) * 2 + 1 by omega]; exact e3, hv1.mono (Nat.le_refl _) b⟩
  · rw [ins_len _ _ _ hk] at hj
    rw [ins_getD _ _ _ _ hk] at hi0 hj0
    by_cases j1 : j < k
    · have i1 : i < k := by omega
      simp only [if_pos i1, if_pos j1] at hi0 hj0 ⊢
      exact h3 i j hij (by omega) hi0 hj0
    · by_cases j2 : j = k
      · subst j2
        simp only [if_pos hij, if_neg j1, if_pos] at hi0 hj0 ⊢
        have r1 := H.rng (show i < fs.length by omega) hi0
        have r2 := hv.rng hj0
        omega
      · simp only [if_neg j1, if_neg j2] at hj0 ⊢
        have r2 := H.rng (show j - 1 < fs.length by omega) hj0
        by_cases i1 : i < k
        · simp only [if_pos i1] at hi0 ⊢
          exact h3 i (j - 1) (by omega) (by omega) hi0 hj0
        · by_cases i2 : i = k
          · subst i2
            simp only [if_neg i1, if_pos] at hi0 ⊢
            have r1 := hv.rng hi0
            omega
          · simp only [if_neg i1, if_neg i2] at hi0 ⊢
            exact h3 (i - 1) (j - 1) (by omega) (by omega) hi0 hj0
theorem ownsRow_low {w : World} {lo lo' : Nat} {e : TypeId} {K n : Nat} {v : Value} {cs : List Value} (h : w.ownsRow lo e K v n cs) (a : lo' ≤ lo) : w.ownsRow lo' e K v n cs := by
  obtain ⟨h1, h2⟩ := h
  refine ⟨h1, ?_⟩
  rcases h2 with h2 | ⟨g, cap, cur, hv, hb, hr⟩
  · exact .inl h2
  · exact .inr ⟨g, cap, cur, hv, Nat.le_trans a hb, hr⟩
theorem ownC_cells {w : World} {lo hi g n c : Nat} {fs : FL} {cs : List Value} {bs : Nat → Nat} (h : OwnC w lo hi (.slice (some ⟨g, 0, none⟩) n c) fs cs bs) : ∀ j v, cs[j]? = some v → w.cell? ⟨g, j, none⟩ = some v := fun j v hj => by
  have := h.1.cells (g := g) rfl j v hj
  rwa [add_eq, Nat.zero_add] at this
theorem items_one' {w : World} {lo hi : Nat} {fs : FL} {cs : List Value} {bs : Nat → Nat} (h : Items w lo hi fs cs bs) : ∀ x ∈ cs, x.oneCell' = true := fun x hx => by
  obtain ⟨j, hj⟩ := List.getElem?_of_mem hx
  have hlt : j < fs.length * 2 := by have := (List.getElem?_eq_some_iff.1 hj).1; have := h.1; omega
  obtain ⟨e0, v1, e1, hv⟩ := h.2.1 (j / 2) (by omega)
  rcases Nat.mod_two_eq_zero_or_one j with hm | hm
  · rw [show j / 2 * 2 = j by omega, hj] at e0
    injection e0 with e0
    subst e0
    rfl
  · rw [show j / 2 * 2 + 1 = j by omega, hj] at e1
    injection e1 with e1
    subst e1
    obtain ⟨A, c, rfl, _⟩ := hv
    rfl
theorem hasB_iff (l : FL) (r : Int) (xs : List Int) : hasB l r xs = true ↔ ∃ k, k < l.length ∧ decide (cmpF (l.getD k (0, [])).1 (l.getD k (0, [])).2 r xs = 0) = true := by
  constructor
  · intro h
    by_cases hc : ∃ k, k < l.length ∧ decide (cmpF (l.getD k (0, [])).1 (l.getD k (0, [])).2 r xs = 0) = true
    · exact hc
    · exfalso
      unfold hasB at h
      rw [List.any_eq_true] at h
      obtain ⟨g, hg, hs⟩ := h
      obtain ⟨k, hk, rfl⟩ := List.getElem_of_mem hg
      refine hc ⟨k, hk, ?_⟩
      have e : l.getD k (0, []) = l[k] := by simp [List.getD_eq_getElem?_getD, hk]
      rw [e]
      have := cmp_same l[k].1 l[k].2 r xs
      rw [hs] at this
      simpa using this
  · rintro ⟨k, hk, h⟩
    refine hasB_found l r xs k hk ?_
    rw [← cmp_same]
    simpa using h
theorem addI_gr {l : FL} {r : Int} {xs : List Int} (h : hasB l r xs = false) {k : Nat} (hk : k ≤ l.length) (h1 : ∀ j, j < k → decide (cmpF (l.getD j (0, [])).1 (l.getD j (0, [])).2 r xs > 0) = false) (h2 : k < l.length → decide (cmpF (l.getD k (0, [])).1 (l.getD k (0, [])).2 r xs > 0) = true) :
    addI l r xs = l.take k ++ (r, xs) :: l.drop k := by
  refine addI_at l r xs k hk (fun j hj => ?_) (fun hlt => ?_)
  · have := of_decide_eq_false (h1 j hj)
    have hn := hasB_none h (show j < l.length by omega)
    unfold ltAt; omega
  · have := of_decide_eq_true (h2 hlt)
    unfold ltAt; omega
end Go.Proofs.Ytpdmkdhnidgjoaa
