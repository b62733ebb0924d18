/- What the terms are worth: the program's valuesOf, and TupleOf of both. Conditions: none beyond each theorem's own. What extend leaves. Conditions: none beyond each theorem's own. What the two functions IsMapping answer. Conditions: none beyond each theorem's own. AddFact, as the laws call it. Conditions: none beyond each theorem's own. Copies of atoms and of queries; an atom struck out of a row. Conditions: none beyond each theorem's own. The model's copies of atoms and queries, and its DropAtom. Conditions: none beyond each theorem's own. What the program's IsMapping answers. Conditions: none beyond each theorem's own. -/
import Derived.Test.YtimlpdcambmcjaaGreatS8
import Derived.Test.YtimlpdcambmcjaaGreatS20
import Derived.Deep.RegionLaw
import Derived.Test.YtimlpdcambmcjaaGreatS19
import Derived.Deep.DeepCutAuto
import Derived.Test.YtimlpdcambmcjaaGreatS4
import Derived.Test.YtimlpdcambmcjaaGreatS10
import Derived.Test.YtimlpdcambmcjaaGreatSAddS
import Derived.Lib.LazyBuf
import Derived.Lib.QuietBelow
import Derived.Deep.Cut
import Derived.Lib.SliceRun
import Derived.Deep.AppendLies
import Derived.Deep.RegionHeld3

namespace Go.Proofs.YtimlpdcambmcjaaGreat
open Go.ChangeShapes Go.WideShapes Go.ChangeAt Go.RowKit Go.Sort
set_option linter.unusedVariables false
set_option linter.unusedSimpArgs false

/-- What the terms ts are worth under the binding of us to vs. -/
def tupV (us vs ts : List Int) : List Int := ts.map (bval us vs)
theorem tupV_len (us vs ts : List Int) : (tupV us vs ts).length = ts.length := List.length_map _
theorem tupV_take (us vs ts : List Int) {k : Nat} (hk : k < ts.length) {t : Int} (ht : ts.getD k 0 = t) : tupV us vs (ts.take (k + 1)) = tupV us vs (ts.take k) ++ [bval us vs t] := by
  rw [takeI' ts hk ht]
  simp [tupV]
theorem tupV_takeN (us vs ts : List Int) (k : Nat) (hk : k ≤ ts.length) : (tupV us vs (ts.take k)).length = k := by
  rw [tupV_len, List.length_take]; omega

/-- A call of two arguments as one step of a region that draws. -/
theorem callV2 {P : Program} {ops : Array Oper} {o : Oper} {a : Act} {w : World} {K : Act → World → Prop} {Q : Exit → Act → World → Prop} {E : Prop}
    (hgd : o.guard = none) (g : FuncId) (x y : Operand) (t t' : TypeId) (ho : o.op = .call { callee := .value (.func g), args := #[x, y], argTypes := #[t, t'] })
    (vx vy : Value) (hx : a.eval x = vx) (hy : a.eval y = vy) (hcf : (callFunc g #[vx, vy]).run P w = .ok (.enter g #[vx, vy]) w) {R : Value → World → Prop} (hc : Calls P g #[vx, vy] w fun e w' => ∃ v, e = .returned v ∧ R v w') (hK : ∀ v w', R v w' → K (a.put o.dst v) w') :
    if Region.wanted o (yielded ops a.tmps) = true then Oper.wp P o a w K Q else E := by
  have hw : Region.wanted o (yielded ops a.tmps) = true := by simp [Region.wanted, hgd]
  rw [if_pos hw]
  unfold Oper.wp
  have e : (execOp a.eval o).run P w = .ok (.enter g #[vx, vy]) w := by
    rw [← hx, ← hy] at hcf ⊢
    simpa [go_sem, execOp, ho, resolve, invoke] using hcf
  rw [e, Oper.upon_enter]
  refine hc.mono ?_
  rintro _ w' ⟨v, rfl, h⟩
  exact hK v w' h

set_option maxRecDepth 100000 in
set_option maxHeartbeats 1000000 in
theorem valuesOf_any (T U V : Option Addr) (ct cu cv : Nat) (ts us vs : List Int) (ht : ts.length ≤ 1048576) (hu : us.length ≤ 1048576) (hv : vs.length ≤ 1048576) (w : World) (h : RI w T ts) (h1 : RI w U us) (h2 : RI w V vs) :
    Calls Tryz.prog 133 #[.slice T ts.length ct, .agg #[.slice U us.length cu, .slice V vs.length cv]] w (ListT w (tupV us vs ts)) := by
  obtain ⟨i0, hi, hz0, hz1, hz2⟩ := info_parts int_info
  have ht' : (ts.length : Int) ≤ 1048576 := by omega
  have B0 := Lib.hid (below_alloc w (.cells #[.slice U us.length cu, .slice V vs.length cv] 100))
  have X0 := Lib.hid (Box.new w #[.slice U us.length cu, .slice V vs.length cv] 100)
  have HT := Lib.hid h
  have HU := Lib.hid h1
  have HV := Lib.hid h2
  clear h h1 h2
  go_enter Tryz.func133, Tryz.ntmps133
  go_wp2
  go_loopw [5, 7, 10] (fun o _ i wr => ∃ (k : Nat) (v : Value), k ≤ ts.length ∧ i = .int .i64 k ∧ v = o ∧ Hid (wr.ownsRow (w.heap.size + 1) 3 1 v k ((tupV us vs (ts.take k)).map (Value.int .i64))) ∧ Hid (Box wr w.heap.size #[.slice U us.length cu, .slice V vs.length cv] 100) ∧ Hid (Below w.heap.size w wr)) (fun _ _ i _ => ts.length - (intOf i).toNat)
  case atStart => exact ⟨0, _, by omega, rfl, rfl, Lib.hid (World.ownsRow_nil _ _ _ _), X0, B0⟩
  case round =>
    obtain ⟨k, v, hk, rfl, rfl, hO, hX, hB⟩ := hrel
    have x0 := hX.out.cell 0
    have x1 := hX.out.cell 1
    simp only [List.getElem?_toArray, List.getElem?_cons_zero, List.getElem?_cons_succ] at x0 x1
    have hk0 : (0 : Int) ≤ (k : Int) := by omega
    by_cases hlt : k < ts.length
    · have hk1 : (k : Int) < (ts.length : Int) := by omega
      obtain ⟨b, off, rfl, nb, e0⟩ := (HT.out.step hB.out).at_ hlt
      generalize hx : ts.getD k 0 = t at e0
      have TT := Lib.hid (tupV_take us vs ts hlt hx)
      have XV := Lib.hid (impl_ValueOf U V cu cv us vs t hu hv wr (HU.out.step hB.out) (HV.out.step hB.out))
      generalize bval us vs t = y at TT XV
      have hxl := hX.out.lt
      clear hx
      go_wp2_with fail
      refine XV.out.mono ?_
      rintro e w1 ⟨rfl, d⟩
      have O1 := Lib.hid (ownsRow_step hO.out d)
      have X1 := Lib.hid (hX.out.step d)
      have B1 := Lib.hid (step hB.out d)
      have Bl1 := Lib.hid (show Below (w.heap.size + 1) wr w1 from d.mono (by omega))
      have hbs : w.heap.size + 1 ≤ w1.heap.size := by have := X1.out.lt; omega
      clear d x0 x1
      go_wp2_with (at_builtin; refine wpList_push rfl _ _ _ 3 rfl i0 Tryz.underlying22 hi (.int .i64 0) 8 hz0 hz1 hz2 rfl (by omega) rfl rfl rfl O1.out (Below.refl _ w1) hbs (by omega) ?_; intro v' w' hown' hb' hsz')
      go_roundw
      case rel => exact ⟨k + 1, v', by omega, by go_num, rfl, Lib.hid (by rw [TT.out, List.map_append]; exact hown'), Lib.hid (show Box w' w.heap.size _ _ from (hb'.block _ (by omega)).trans X1.out), Lib.hid (B1.out.trans (hb'.mono (by omega)))⟩
      case measure => simp [intOf]; omega
    · obtain rfl : k = ts.length := by omega
      have OO := Lib.hid (show wr.ownsRow w.heap.size 3 1 v (tupV us vs ts).length ((tupV us vs ts).map (Value.int .i64)) by
        have := hO.out
        rw [List.take_length] at this
        rw [tupV_len]
        refine ⟨this.1, ?_⟩
        rcases this.2 with h0 | ⟨g, cap, cur, hv, hb, r⟩
        · exact .inl h0
        · exact .inr ⟨g, cap, cur, hv, by omega, r⟩)
      go_wp2
      go_ret
      exact ⟨v, rfl, OO.out, hB.out⟩

set_option maxRecDepth 100000 in
set_option maxHeartbeats 1000000 in
theorem impl_TupleOf (H Q U V : Option Addr) (ch c cu cv : Nat) (hs : List Int) (l : FL) (us vs : List Int) (hh : hs.length ≤ 1048576) (hu : us.length ≤ 1048576) (hv : vs.length ≤ 1048576) (w : World) (h : RI w H hs) (h1 : RI w U us) (h2 : RI w V vs) :
    Calls Tryz.prog 94 #[.agg #[.slice H hs.length ch, .slice Q l.length c], .agg #[.slice U us.length cu, .slice V vs.length cv]] w (ListT w (tupV us vs hs)) := by
  have B0 := Lib.hid (step (below_alloc w (.cells #[.slice H hs.length ch, .slice Q l.length c] 29)) (below_alloc _ (.cells #[.slice U us.length cu, .slice V vs.length cv] 100)))
  have XV := Lib.hid (valuesOf_any H U V ch cu cv hs us vs hh hu hv _ (h.step B0.out) (h1.step B0.out) (h2.step B0.out))
  clear h h1 h2
  go_enter Tryz.func94, Tryz.ntmps94
  go_wp2_with fail
  refine XV.out.mono ?_
  rintro e u ⟨v, rfl, ho, d⟩
  have D := Lib.hid (step B0.out d)
  have OO := Lib.hid (show u.ownsRow w.heap.size 3 1 v (tupV us vs hs).length ((tupV us vs hs).map (Value.int .i64)) by
    refine ⟨ho.1, ?_⟩
    rcases ho.2 with h0 | ⟨g, cap, cur, hv, hb, r⟩
    · exact .inl h0
    · exact .inr ⟨g, cap, cur, hv, by have := B0.out.size; omega, r⟩)
  clear ho d
  go_wp2
  go_ret
  exact ⟨v, rfl, OO.out, D.out⟩

set_option maxRecDepth 100000 in
set_option maxHeartbeats 2000000 in
theorem spec_TupleOf (H Q U V : Option Addr) (ch c cu cv : Nat) (hs : List Int) (l : FL) (us vs : List Int) (hh : hs.length ≤ 1048576) (hu : us.length ≤ 1048576) (hv : vs.length ≤ 1048576) (w : World) (h : RI w H hs) (h1 : RI w U us) (h2 : RI w V vs) :
    Calls Tryz.prog 81 #[.agg #[.slice H hs.length ch, .slice Q l.length c], .agg #[.slice U us.length cu, .slice V vs.length cv]] w (ListT w (tupV us vs hs)) := by
  obtain ⟨i0, hi, hz0, hz1, hz2⟩ := info_parts int_info
  have hh' : (hs.length : Int) ≤ 1048576 := by omega
  obtain ⟨w0, hw0⟩ : ∃ W, W = (w.alloc (.cells #[.slice H hs.length ch, .slice Q l.length c] 29)).alloc (.cells #[.slice U us.length cu, .slice V vs.length cv] 100) := ⟨_, rfl⟩
  have E0 := Lib.hid hw0
  have B0 := Lib.hid (show Below w.heap.size w w0 by rw [hw0]; exact step (below_alloc w _) (below_alloc _ _))
  have X0 := Lib.hid (show Box w0 w.heap.size #[.slice H hs.length ch, .slice Q l.length c] 29 by rw [hw0]; exact (Box.new w _ _).step (below_alloc _ _))
  have Y0 := Lib.hid (show Box w0 (w.heap.size + 1) #[.slice U us.length cu, .slice V vs.length cv] 100 by
    rw [hw0]
    have h := Box.new (w.alloc (.cells #[.slice H hs.length ch, .slice Q l.length c] 29)) #[.slice U us.length cu, .slice V vs.length cv] 100
    rwa [al_size] at h)
  have S0 := Lib.hid (show w0.heap.size = w.heap.size + 2 by rw [hw0, al_size, al_size])
  have HT := Lib.hid h
  have HU := Lib.hid h1
  have HV := Lib.hid h2
  clear h h1 h2 hw0
  go_enter Tryz.func81, Tryz.ntmps81
  go_wp2_with fail
  go_loopw [5, 6] (fun o i wr => ∃ (k : Nat) (v : Value), k ≤ hs.length ∧ i = .int .i64 k ∧ v = o ∧ Hid (wr.ownsRow (w.heap.size + 2) 3 1 v k ((tupV us vs (hs.take k)).map (Value.int .i64))) ∧ Hid (Box wr w.heap.size #[.slice H hs.length ch, .slice Q l.length c] 29) ∧ Hid (Box wr (w.heap.size + 1) #[.slice U us.length cu, .slice V vs.length cv] 100) ∧ Hid (Below w.heap.size w wr)) (fun _ i _ => hs.length - (intOf i).toNat)
  case atStart =>
    refine ⟨0, _, by omega, rfl, rfl, Lib.hid ?_, Lib.hid ?_, Lib.hid ?_, Lib.hid ?_⟩
    · rw [← E0.out]
      have := World.ownsRow_lit (base := w.heap.size + 2) (e := 3) (size := 1) w0 #[] 0 (by rw [S0.out]; exact Nat.le_refl _) (by unfold maxLen; omega) rfl
      rw [S0.out] at this
      exact this
    · rw [← E0.out]; exact X0.out.step (below_alloc _ _)
    · rw [← E0.out]; exact Y0.out.step (below_alloc _ _)
    · rw [← E0.out]; exact step B0.out (below_alloc _ _)
  case round =>
    obtain ⟨k, v, hk, rfl, rfl, hO, hX, hY, hB⟩ := hrel
    have x0 := hX.out.cell 0
    have y0 := hY.out.cell 0
    have y1 := hY.out.cell 1
    simp only [List.getElem?_toArray, List.getElem?_cons_zero, List.getElem?_cons_succ] at x0 y0 y1
    have hk0 : (0 : Int) ≤ (k : Int) := by omega
    by_cases hlt : k < hs.length
    · have hk1 : (k : Int) < (hs.length : Int) := by omega
      obtain ⟨b, off, rfl, nb, e0⟩ := (HT.out.step hB.out).at_ hlt
      generalize hx : hs.getD k 0 = t at e0
      have TT := Lib.hid (tupV_take us vs hs hlt hx)
      have XV := Lib.hid fun (W : World) (b : Below wr.heap.size wr W) => spec_ValueOf U V cu cv us vs t hu hv W ((HU.out.step hB.out).step b) ((HV.out.step hB.out).step b)
      generalize bval us vs t = y at TT XV
      have hyl := hY.out.lt
      clear hx
      go_wp2
      go_region_law (first
        | (refine callV2 rfl 122 _ _ _ _ rfl (.agg #[.slice U us.length cu, .slice V vs.length cv]) (.int .i64 t) rfl rfl (by kernel_rfl) (R := fun v' w' => v' = .int .i64 y ∧ Below wr.heap.size wr w') ((XV.out _ (by first | exact Below.refl _ _ | exact below_drew _)).mono (fun e w' h => ⟨_, h.1, rfl, by first | exact h.2 | exact und h.2 | exact undN h.2⟩)) ?_
           rintro _ u5 ⟨rfl, b5⟩
           have x05 := (b5.cell (p := ⟨w.heap.size, 0, none⟩) (by (try simp) <;> omega)).trans x0
           have y05 := (b5.cell (p := ⟨w.heap.size + 1, 0, none⟩) (by (try simp) <;> omega)).trans y0
           have y15 := (b5.cell (p := ⟨w.heap.size + 1, 1, none⟩) (by (try simp) <;> omega)).trans y1
           have z5 := b5.size
           have HO5 := Lib.hid (ownsRow_step hO.out b5)
           have hb5 : Below (w.heap.size + 2) wr u5 := b5.mono (by omega)
           have hz5 : w.heap.size + 2 ≤ u5.heap.size := by omega)
        | (refine step_pushR rfl _ _ _ 3 rfl i0 Tryz.underlying22 hi (.int .i64 0) 8 hz0 hz1 hz2 rfl (by omega) (w.heap.size + 2) k _ ((tupV us vs (hs.take k)).map (Value.int .i64)) _ 1 (.int .i64 y) rfl rfl rfl (by first | exact HO5.out.alloc _ | exact (HO5.out.alloc _).drew | exact HO5.out.drew.alloc _) (by first | exact hb5.alloc hz5 _ | exact (hb5.alloc hz5 _).drew | exact hb5.drew.alloc hz5 _) (by (try simp) <;> omega) (by omega) (by simp [Addr.add]) ?_
           intro v6 u6 hown6 hb6 hz6
           have HO6 := Lib.hid hown6
           clear hown6))
      all_goals
        have z6 := hb6.size
        clear x0 y0 y1 e0
        go_wp2
        go_roundw
        case rel =>
          refine ⟨k + 1, v6, by omega, by go_num, rfl, Lib.hid ?_, Lib.hid (show Box u6 w.heap.size _ _ from (hb6.block _ (by omega)).trans hX.out), Lib.hid (show Box u6 (w.heap.size + 1) _ _ from (hb6.block _ (by omega)).trans hY.out), Lib.hid (hB.out.trans (hb6.mono (by omega)))⟩
          rw [TT.out, List.map_append]
          exact HO6.out
        case measure => simp [intOf]; omega
    · obtain rfl : k = hs.length := by omega
      have OO := Lib.hid (show wr.ownsRow w.heap.size 3 1 v (tupV us vs hs).length ((tupV us vs hs).map (Value.int .i64)) by
        have := hO.out
        rw [List.take_length] at this
        rw [tupV_len]
        refine ⟨this.1, ?_⟩
        rcases this.2 with h0 | ⟨g, cap, cur, hv, hb, r⟩
        · exact .inl h0
        · exact .inr ⟨g, cap, cur, hv, by omega, r⟩)
      go_wp2
      go_ret
      exact ⟨v, rfl, OO.out, hB.out⟩
end Go.Proofs.YtimlpdcambmcjaaGreat

namespace Go.Proofs.YtimlpdcambmcjaaGreat
open Go.ChangeShapes Go.WideShapes Go.ChangeAt Go.RowKit Go.Sort
open Go.Maps (Keyed int_keyed keyOf_int_mk)
set_option linter.unusedVariables false
set_option linter.unusedSimpArgs false

/-- A binding that is being extended: its box at g, two rows of its own. -/
def EBd (w : World) (base g : Nat) (X : Option Addr) (cx : Nat) (Y : Option Addr) (cy : Nat) (xs ys : List Int) : Prop :=
  Box w g #[.slice X xs.length cx, .slice Y ys.length cy] 100 ∧ RowV w base (.slice X xs.length cx) xs ∧ RowV w base (.slice Y ys.length cy) ys ∧ Apart (.slice X xs.length cx) (.slice Y ys.length cy) ∧ base ≤ g
theorem row_ne_box {w : World} {base g : Nat} {v : Value} {xs : List Int} {cs : Array Value} (h : RowV w base v xs) (hb : Box w g cs 100) : some g ≠ v.ownBlock := by
  intro e
  rcases h.2 with ⟨hv, _⟩ | ⟨k, cap, cur, hv, hbk, hk, _⟩
  · rw [hv] at e; cases e
  · rw [hv] at e
    injection e with e
    have e' : g = k := e
    unfold Box at hb
    rw [e', hk] at hb
    injection hb with hb
    injection hb with _ h2
    exact absurd h2 (by decide)
theorem Box.grown {w w' : World} {base g : Nat} {v : Value} {xs : List Int} {cs : Array Value} (hb : Box w g cs 100) (h : RowV w base v xs) (hg : w.grownBy w' v.ownBlock) : Box w' g cs 100 :=
  (hg.block g hb.lt (row_ne_box h hb)).trans hb
theorem apart_at {u : World} {base : Nat} {v v' y : Value} {ys : List Int} (ha : Apart v y) (hy : RowV u base y ys) (hat : v'.ownBlock = v.ownBlock ∨ v'.ownBlock = some u.heap.size) : Apart v' y := by
  rcases hat with hat | hat
  · unfold Apart at *; rw [hat]; exact ha
  · refine .inr fun e => ?_
    have := World.ownsRow.lt hy _ (e.symm.trans hat)
    omega
theorem EBd.push1 {w u w' : World} {base g : Nat} {X : Option Addr} {cx : Nat} {Y : Option Addr} {cy : Nat} {xs ys xs' : List Int} (h : EBd w base g X cx Y cy xs ys) (hb : Below w.heap.size w u) {X' : Option Addr} {c' : Nat}
    (hv : RowV w' base (.slice X' xs'.length c') xs') (hg : u.grownBy w' (Value.slice X xs.length cx).ownBlock) (hat : (Value.slice X' xs'.length c').ownBlock = (Value.slice X xs.length cx).ownBlock ∨ (Value.slice X' xs'.length c').ownBlock = some u.heap.size) :
    Box w' g #[.slice X xs.length cx, .slice Y ys.length cy] 100 ∧ EBd (w'.setCell ⟨g, 0, none⟩ (.slice X' xs'.length c')) base g X' c' Y cy xs' ys := by
  obtain ⟨h1, h2, h3, h4, h5⟩ := h
  have k1 := (h1.step hb).grown (h2.below hb) hg
  have k3 := (h3.below hb).kept hg (h4.symm)
  exact ⟨k1, k1.set 0 (.slice X' xs'.length c'), hv.set k1 (by decide), k3.set k1 (by decide), apart_at h4 (h3.below hb) hat, h5⟩
theorem EBd.push2 {w u w' : World} {base g : Nat} {X : Option Addr} {cx : Nat} {Y : Option Addr} {cy : Nat} {xs ys ys' : List Int} (h : EBd w base g X cx Y cy xs ys) (hb : Below w.heap.size w u) {Y' : Option Addr} {c' : Nat}
    (hv : RowV w' base (.slice Y' ys'.length c') ys') (hg : u.grownBy w' (Value.slice Y ys.length cy).ownBlock) (hat : (Value.slice Y' ys'.length c').ownBlock = (Value.slice Y ys.length cy).ownBlock ∨ (Value.slice Y' ys'.length c').ownBlock = some u.heap.size) :
    Box w' g #[.slice X xs.length cx, .slice Y ys.length cy] 100 ∧ EBd (w'.setCell ⟨g, 1, none⟩ (.slice Y' ys'.length c')) base g X cx Y' c' xs ys' := by
  obtain ⟨h1, h2, h3, h4, h5⟩ := h
  have k1 := (h1.step hb).grown (h3.below hb) hg
  have k2 := (h2.below hb).kept hg h4
  exact ⟨k1, k1.set 1 (.slice Y' ys'.length c'), k2.set k1 (by decide), hv.set k1 (by decide), (apart_at h4.symm (h2.below hb) hat).symm, h5⟩

theorem ri_one (w : World) (x : Int) : RI (w.alloc (.cells #[.int .i64 x] 3)) (some ⟨w.heap.size, 0, none⟩) [x] := fun _ => by
  refine ⟨w.heap.size, 0, rfl, Nat.zero_le _, by rw [al_size]; omega, fun k hk => ?_⟩
  obtain rfl : k = 0 := by simpa using hk
  simp

def exTab (ts vs : List Int) : Nat → Option (List Int)
  | 2 => some ts | 5 => some vs | _ => none
def exCons : Nat → Nat
  | 2 => 8 | 5 => 8 | _ => 9
def exVals (g : Nat) (x y : Value) : Nat → Option Value
  | 0 => some (.pointer (some ⟨g, 0, none⟩)) | 1 => some x | 3 => some (.pointer (some ⟨g, 1, none⟩)) | 4 => some y | _ => none


def x6Vals (gb g : Nat) (y : Value) (mb : Nat) (x pv : Int) : Nat → Option Value
  | 0 => some (.pointer (some ⟨gb, 1, none⟩)) | 1 => some y | 2 => some (.pointer (some ⟨g, 0, none⟩)) | 3 => some (.pointer (some ⟨g, 0, none⟩)) | 4 => some (.pointer (some ⟨g, 0, none⟩)) | 5 => some (.map (some mb)) | 6 => some (.int .i64 x) | 7 => some (.int .i64 pv) | 10 => some (.pointer (some ⟨gb, 1, none⟩)) | _ => none

end Go.Proofs.YtimlpdcambmcjaaGreat

namespace Go.Proofs.YtimlpdcambmcjaaGreat
open Go.ChangeShapes Go.WideShapes Go.ChangeAt Go.RowKit Go.Sort
set_option linter.unusedVariables false
set_option linter.unusedSimpArgs false

/-- Are the first n atoms of l, with their terms' worth, among the facts? -/
def allHas (us vs : List Int) (fs l : FL) (n : Nat) : Bool := (List.range n).all fun k => hasB fs (l.getD k (0, [])).1 (tupV us vs (l.getD k (0, [])).2)
theorem allHas_succ (us vs : List Int) (fs l : FL) (k : Nat) : allHas us vs fs l (k + 1) = (allHas us vs fs l k && hasB fs (l.getD k (0, [])).1 (tupV us vs (l.getD k (0, [])).2)) := by
  unfold allHas
  rw [List.range_succ, List.all_append]
  simp
theorem allHas_not (us vs : List Int) (fs l : FL) (k n : Nat) (hk : k < n) (h : hasB fs (l.getD k (0, [])).1 (tupV us vs (l.getD k (0, [])).2) = false) : allHas us vs fs l n = false := by
  unfold allHas
  rw [List.all_eq_false]
  exact ⟨k, by simpa using hk, by rw [h]; simp⟩
def mapB (us vs hs head : List Int) (l fs : FL) : Bool := decide (us.length = vs.length) && decide (tupV us vs hs = head) && allHas us vs fs l l.length
theorem mapB_len {us vs hs head : List Int} {l fs : FL} (h : ¬ us.length = vs.length) : mapB us vs hs head l fs = false := by simp [mapB, h]
theorem mapB_head {us vs hs head : List Int} {l fs : FL} (h : ¬ tupV us vs hs = head) : mapB us vs hs head l fs = false := by simp [mapB, h]
theorem mapB_all {us vs hs head : List Int} {l fs : FL} (h : us.length = vs.length) (h' : tupV us vs hs = head) : mapB us vs hs head l fs = allHas us vs fs l l.length := by simp [mapB, h, h']

theorem row_ri {w : World} {base n c : Nat} {A : Option Addr} {xs : List Int} (h : w.ownsRow base 3 1 (.slice A n c) n (xs.map (Value.int .i64))) (hn : n = xs.length) : RI w A xs ∧ xs.length ≤ c ∧ c ≤ maxLen := by
  subst hn
  obtain ⟨q, hv⟩ := ownV_of_row h
  have h2 := hv.ints
  exact ⟨h2.2.2.2.mono (Nat.zero_le _) (Nat.le_refl _), h2.2.1, h2.2.2.1⟩

end Go.Proofs.YtimlpdcambmcjaaGreat

namespace Go.Proofs.YtimlpdcambmcjaaGreat
open Go.ChangeShapes Go.WideShapes Go.ChangeAt Go.RowKit
set_option linter.unusedVariables false
set_option linter.unusedSimpArgs false

/-- What AddFact returns, as its block. -/
theorem spec_AddFact_r (A : Option Addr) (c : Nat) (l : FL) (r : Int) (xs : List Int) (A' : Option Addr) (c' : Nat) (hz : szF l ≤ 1048576) (hl2 : xs.length ≤ 1048576) (w : World) (h : RF w A l) (h' : RI w A' xs) :
    Calls Tryz.prog 150 #[.slice A l.length c, .agg #[.int .i64 r, .slice A' xs.length c']] w (AddP w (addF l r xs)) :=
  (spec_AddFact A c l r xs A' c' hz hl2 w h h').mono fun _ _ h => h.toP
theorem impl_AddFact_r (b off c : Nat) (l : FL) (r : Int) (xs : List Int) (A' : Option Addr) (c' : Nat) (hlc : l.length ≤ c) (hc : c ≤ 9223372036854775807) (hz : szF l ≤ 1048576) (hl2 : xs.length ≤ 1048576) (hc2 : xs.length ≤ c') (hm2 : c' ≤ maxLen) (w : World) (h : RF w (some ⟨b, off, none⟩) l) (h' : RI w A' xs) :
    Calls Tryz.prog 128 #[.slice (some ⟨b, off, none⟩) l.length c, .agg #[.int .i64 r, .slice A' xs.length c']] w (AddP w (addF l r xs)) :=
  (impl_AddFact b off c l r xs A' c' hlc hc hz hl2 hc2 hm2 w h h').mono fun _ _ h => h.toP
end Go.Proofs.YtimlpdcambmcjaaGreat

namespace Go.Proofs.YtimlpdcambmcjaaGreat
open Go.ChangeShapes Go.WideShapes Go.ChangeAt Go.RowKit Go.Sort
set_option linter.unusedVariables false
set_option linter.unusedSimpArgs false

/-- A call of one argument as one step of a region that draws. -/
theorem callV1 {P : Program} {ops : Array Oper} {o : Oper} {a : Act} {w : World} {K : Act → World → Prop} {Q : Exit → Act → World → Prop} {E : Prop}
    (hgd : o.guard = none) (g : FuncId) (x : Operand) (t : TypeId) (ho : o.op = .call { callee := .value (.func g), args := #[x], argTypes := #[t] })
    (vx : Value) (hx : a.eval x = vx) (hcf : (callFunc g #[vx]).run P w = .ok (.enter g #[vx]) w) {R : Value → World → Prop} (hc : Calls P g #[vx] w fun e w' => ∃ v, e = .returned v ∧ R v w') (hK : ∀ v w', R v w' → K (a.put o.dst v) w') :
    if Region.wanted o (yielded ops a.tmps) = true then Oper.wp P o a w K Q else E := by
  have hw : Region.wanted o (yielded ops a.tmps) = true := by simp [Region.wanted, hgd]
  rw [if_pos hw]
  unfold Oper.wp
  have e : (execOp a.eval o).run P w = .ok (.enter g #[vx]) w := by
    rw [← hx] at hcf ⊢
    simpa [go_sem, execOp, ho, resolve, invoke] using hcf
  rw [e, Oper.upon_enter]
  refine hc.mono ?_
  rintro _ w' ⟨v, rfl, h⟩
  exact hK v w' h

set_option maxRecDepth 100000 in
set_option maxHeartbeats 400000 in
theorem copyAtom_any (r : Int) (A : Option Addr) (c : Nat) (xs : List Int) (hl : xs.length ≤ 1048576) (w : World) (h : RI w A xs) :
    Calls Tryz.prog 85 #[.agg #[.int .i64 r, .slice A xs.length c]] w (CopyF w r xs) := by
  have B0 := step (below_alloc w (.cells #[.int .i64 r, .slice A xs.length c] 67)) (below_alloc _ (.cells #[.int .i64 0, .slice none 0 0] 67))
  have HI := Lib.hid (h.step B0)
  have HB0 := Lib.hid B0
  have X0 : Box ((w.alloc (.cells #[.int .i64 r, .slice A xs.length c] 67)).alloc (.cells #[.int .i64 0, .slice none 0 0] 67)) w.heap.size #[.int .i64 r, .slice A xs.length c] 67 := (Box.new _ _ _).step (below_alloc _ _)
  have X1 : Box ((w.alloc (.cells #[.int .i64 r, .slice A xs.length c] 67)).alloc (.cells #[.int .i64 0, .slice none 0 0] 67)) (w.heap.size + 1) #[.int .i64 0, .slice none 0 0] 67 := by simpa using Box.new (w.alloc (.cells #[.int .i64 r, .slice A xs.length c] 67)) #[.int .i64 0, .slice none 0 0] 67
  have HX1 := Lib.hid X1
  have g0 := X0.cell 0
  have g1 := X0.cell 1
  simp only [List.getElem?_toArray, List.getElem?_cons_zero, List.getElem?_cons_succ] at g0 g1
  clear h B0 X0 X1
  go_enter Tryz.func85, Tryz.ntmps85
  go_wp2
  go_region_held3 (fun w' => w'.cell? ⟨w.heap.size, 0, none⟩ = some (.int .i64 r) ∧ w'.cell? ⟨w.heap.size, 1, none⟩ = some (.slice A xs.length c))
    (first
      | go_keep
      | (go_split_ands; refine ⟨?_, ?_⟩ <;> (rw [d.cell (by (try simp) <;> omega)]; assumption)))
    (first
      | (go_at_call 83; refine (clone_any A c xs hl _ (by first | exact HI.out | exact HI.out.step (below_drew _))).mono ?_; rintro e u ⟨A2, c2, q, rfl, hv, d⟩
         have b2 := (by first | exact d | exact und d : Below ((w.alloc (.cells #[.int .i64 r, .slice A xs.length c] 67)).alloc (.cells #[.int .i64 0, .slice none 0 0] 67)).heap.size ((w.alloc (.cells #[.int .i64 r, .slice A xs.length c] 67)).alloc (.cells #[.int .i64 0, .slice none 0 0] 67)) u)
         have X4 := HX1.out.step b2
         have q0 := X4.cell 0
         have q1 := X4.cell 1
         have q2 := X4.frozen 0
         have q3 := X4.frozen 1
         simp only [List.getElem?_toArray, List.getElem?_cons_zero, List.getElem?_cons_succ] at q0 q1
         have q4 := X4.lt
         have HV := Lib.hid hv
         have HB2 := Lib.hid (step HB0.out b2)
         clear hv b2 X4))
  go_wp2
  refine bodyPost_ret (v := .agg #[.int .i64 r, .slice A2 xs.length c2]) (by simp [results, Tryz.results85, go_sem, q0, q1, q2, q3]) rfl ⟨A2, c2, q, rfl, ?_, ?_⟩
  · rw [size2]
    exact (HV.out.keep fun h1 _ _ => (Below.heap_setCell _ ⟨w.heap.size + 1, 1, none⟩ _ q (by (try simp at h1 ⊢); omega)).trans (Below.heap_setCell _ ⟨w.heap.size + 1, 0, none⟩ _ q (by (try simp at h1 ⊢); omega))).mono (by (try simp) <;> omega) (Nat.le_refl _)
  · exact Below.setCell (Below.setCell HB2.out (by (try simp) <;> omega) _) (by (try simp) <;> omega) _

/-- A list of facts of the call's own, at the head of block g; the numbers' blocks lie from lo on. -/
def CopyLt (w : World) (fs : FL) (e : Ending) (w' : World) : Prop :=
  e = .returned (.slice (some ⟨w.heap.size, 0, none⟩) fs.length fs.length) ∧ atom.OwnP w' w.heap.size w'.heap.size w.heap.size (fs.length * 2) fs.length fs ∧ Below w.heap.size w w' ∧ w.heap.size < w'.heap.size

/-- What a copy of a query is: its head in blocks up to below mid, its atoms from there on. -/
def CpQ (w : World) (hs : List Int) (l : FL) (e : Ending) (w' : World) : Prop :=
  ∃ (A : Option Addr) (c q mid : Nat), e = .returned (.agg #[.slice A hs.length c, .slice (some ⟨mid, 0, none⟩) l.length l.length]) ∧ OwnV w' w.heap.size mid (.slice A hs.length c) q hs ∧ atom.OwnP w' mid w'.heap.size mid (l.length * 2) l.length l ∧ w.heap.size + 2 ≤ mid ∧ mid < w'.heap.size ∧ Below w.heap.size w w'

end Go.Proofs.YtimlpdcambmcjaaGreat

namespace Go.Proofs.YtimlpdcambmcjaaGreat
open Go.ChangeShapes Go.WideShapes Go.ChangeAt Go.RowKit Go.Sort
set_option linter.unusedVariables false
set_option linter.unusedSimpArgs false

theorem ownC_nilD (w : World) (lo hi : Nat) : atom.OwnC w lo hi (.slice none ([] : FL).length 0) [] [] (fun _ => 0) := ⟨⟨by simp, .inl ⟨rfl, rfl⟩⟩, Items.nil _ _ _⟩
theorem ownC_setD {w : World} {lo hi : Nat} {v u : Value} {fs : FL} {cs : List Value} {bs : Nat → Nat} (h : atom.OwnC w lo hi v fs cs bs) {p : Addr} (hp : p.block < lo) : atom.OwnC (w.setCell p u) lo hi v fs cs bs :=
  ⟨ownsRow_set h.1 hp, h.2.keep fun q a _ _ => Below.heap_setCell _ _ _ _ (by omega)⟩

/-- The atoms without the one with this number. -/
def dropL (l : FL) (a : Int) : FL := if a < 0 then l else l.eraseIdx a.toNat
theorem take_snocA (l : FL) {k : Nat} (hk : k < l.length) {f : Int × List Int} (hf : l.getD k (0, []) = f) : l.take (k + 1) = l.take k ++ [f] := by
  rw [List.take_succ_eq_append_getElem hk]
  have : l[k] = l.getD k (0, []) := by simp [List.getD_eq_getElem?_getD, hk]
  rw [this, hf]
theorem dropL_here (l : FL) {a : Int} {k : Nat} (hk : k < l.length) (ha : (k : Int) = a) : dropL (l.take (k + 1)) a = dropL (l.take k) a := by
  subst ha
  have hl : (l.take k).length = k := by rw [List.length_take]; omega
  have h2 : (l.take k).eraseIdx k = l.take k := List.eraseIdx_of_length_le (by omega)
  unfold dropL
  rw [if_neg (by omega), if_neg (by omega), Int.toNat_natCast, take_snocA l hk rfl, List.eraseIdx_append_of_length_le (by omega), hl, h2, Nat.sub_self]
  simp
theorem dropL_more (l : FL) {a : Int} {k : Nat} (hk : k < l.length) (ha : ¬ (k : Int) = a) {f : Int × List Int} (hf : l.getD k (0, []) = f) : dropL (l.take (k + 1)) a = dropL (l.take k) a ++ [f] := by
  have hl : (l.take k).length = k := by rw [List.length_take]; omega
  unfold dropL
  by_cases h0 : a < 0
  · rw [if_pos h0, if_pos h0, take_snocA l hk hf]
  · rw [if_neg h0, if_neg h0, take_snocA l hk hf]
    by_cases h1 : a.toNat < k
    · rw [List.eraseIdx_append_of_lt_length (by omega)]
    · rw [List.eraseIdx_of_length_le (by rw [List.length_append, hl]; simp; omega), List.eraseIdx_of_length_le (by omega)]
theorem dropL_len (l : FL) (a : Int) : (dropL l a).length ≤ l.length := by
  unfold dropL
  split
  · exact Nat.le_refl _
  · rw [List.length_eraseIdx]; split <;> omega

/-- One atom more, in its block, behind a row of atoms. -/
theorem app_done {wr u5 v31 : World} {g5 c2 q5 c5 g31 cap31 : Nat} {out : FL} {cs : List Value} {bs : Nat → Nat} {A2 A5 : Option Addr} {r : Int} {xs : List Int}
    (hsz : g5 + 1 ≤ wr.heap.size) (b5 : Below wr.heap.size wr u5) (hv5 : OwnV u5 wr.heap.size u5.heap.size (.slice A5 xs.length c5) q5 xs)
    (HO5 : atom.OwnC (u5.alloc (.cells #[.int .i64 r, .slice A5 xs.length c5] 67)) (g5 + 1) wr.heap.size (.slice A2 out.length c2) out cs bs)
    (hgrow : (u5.alloc (.cells #[.int .i64 r, .slice A5 xs.length c5] 67)).grownBy v31 (Value.slice A2 out.length c2).ownBlock)
    (hown31 : v31.ownsRow (g5 + 1) 67 2 (.slice (some ⟨g31, 0, none⟩) (out.length + 1) cap31) (out.length + 1) (cs ++ [.int .i64 r, .slice A5 xs.length c5])) :
    ∃ bs31, atom.OwnC v31 (g5 + 1) v31.heap.size (.slice (some ⟨g31, 0, none⟩) (out.length + 1) cap31) (out ++ [(r, xs)]) (cs ++ [.int .i64 r, .slice A5 xs.length c5]) bs31 ∧ Below (g5 + 1) wr v31 := by
  have hz := b5.size
  have HV5 := OwnV.step hv5 (below_alloc u5 (.cells #[.int .i64 r, .slice A5 xs.length c5] 67))
  have d31 : Below (g5 + 1) (u5.alloc (.cells #[.int .i64 r, .slice A5 xs.length c5] 67)) v31 := (Below.refl _ _).grown hgrow (by rw [al_size]; omega) (fun q hq => (HO5.1.lt q hq).1)
  obtain ⟨bs31, ho31⟩ := atom.own_append HO5 (Items.one HV5) hsz (by rw [al_size]; omega) (by simpa using hown31) hgrow
  exact ⟨bs31, by simpa using ho31, ((step b5 (below_alloc u5 (.cells #[.int .i64 r, .slice A5 xs.length c5] 67))).mono hsz).trans d31⟩
theorem drp_rel {w w5 wr v31 : World} {g5 ch c cH c2 g31 cap31 : Nat} {H Q AH A2 : Option Addr} {hs : List Int} {l out : FL} {r : Int} {xs : List Int} {cs : List Value} {bs : Nat → Nat}
    (gl : w.heap.size + 1 + 1 ≤ g5) (hsz : g5 + 1 ≤ wr.heap.size) (hZ : Box wr g5 #[.slice AH hs.length cH, .slice A2 out.length c2] 29)
    (hO : atom.OwnC v31 (g5 + 1) v31.heap.size (.slice (some ⟨g31, 0, none⟩) (out.length + 1) cap31) (out ++ [(r, xs)]) cs bs)
    (hX : Box wr w.heap.size #[.slice H hs.length ch, .slice Q l.length c] 29) (hY : Box wr (w.heap.size + 1) #[.slice none 0 0, .slice none 0 0] 29) (hB : Below w.heap.size w wr) (hG : Below g5 w5 wr) (b : Below (g5 + 1) wr v31) :
    Box (v31.setCell ⟨g5, 1, none⟩ (.slice (some ⟨g31, 0, none⟩) (out.length + 1) cap31)) g5 #[.slice AH hs.length cH, .slice (some ⟨g31, 0, none⟩) (out ++ [(r, xs)]).length cap31] 29 ∧
    Hid (atom.OwnC (v31.setCell ⟨g5, 1, none⟩ (.slice (some ⟨g31, 0, none⟩) (out.length + 1) cap31)) (g5 + 1) (v31.setCell ⟨g5, 1, none⟩ (.slice (some ⟨g31, 0, none⟩) (out.length + 1) cap31)).heap.size (.slice (some ⟨g31, 0, none⟩) (out ++ [(r, xs)]).length cap31) (out ++ [(r, xs)]) cs bs) ∧
    Hid (Box (v31.setCell ⟨g5, 1, none⟩ (.slice (some ⟨g31, 0, none⟩) (out.length + 1) cap31)) w.heap.size #[.slice H hs.length ch, .slice Q l.length c] 29) ∧ Hid (Box (v31.setCell ⟨g5, 1, none⟩ (.slice (some ⟨g31, 0, none⟩) (out.length + 1) cap31)) (w.heap.size + 1) #[.slice none 0 0, .slice none 0 0] 29) ∧
    Hid (Below w.heap.size w (v31.setCell ⟨g5, 1, none⟩ (.slice (some ⟨g31, 0, none⟩) (out.length + 1) cap31))) ∧ Hid (Below g5 w5 (v31.setCell ⟨g5, 1, none⟩ (.slice (some ⟨g31, 0, none⟩) (out.length + 1) cap31))) ∧ g5 + 1 ≤ (v31.setCell ⟨g5, 1, none⟩ (.slice (some ⟨g31, 0, none⟩) (out.length + 1) cap31)).heap.size := by
  have el : (out ++ [(r, xs)]).length = out.length + 1 := by simp
  have hz := b.size
  rw [el, set_size]
  refine ⟨box_set1 (show Box v31 g5 #[.slice AH hs.length cH, .slice A2 out.length c2] 29 from (b.block _ (by omega)).trans hZ), Lib.hid (ownC_setD hO (show g5 < g5 + 1 by omega)), Lib.hid ?_, Lib.hid ?_, Lib.hid ((hB.trans (b.mono (by omega))).setCell (by (try simp) <;> omega) _), Lib.hid ((hG.trans (b.mono (by omega))).setCell (Nat.le_refl _) _), by omega⟩
  · exact (Below.heap_setCell v31 ⟨g5, 1, none⟩ _ _ (by (try simp) <;> omega)).trans ((b.block _ (by omega)).trans hX)
  · exact (Below.heap_setCell v31 ⟨g5, 1, none⟩ _ _ (by (try simp) <;> omega)).trans ((b.block _ (by omega)).trans hY)

/-- What a query of the model's is. -/
def QSo (w : World) (hs : List Int) (l : FL) (e : Ending) (w' : World) : Prop := ∃ H A ch c, e = .returned (.agg #[.slice H hs.length ch, .slice A l.length c]) ∧ RI w' H hs ∧ RF w' A l ∧ Below w.heap.size w w'
theorem CopyF.toR {w : World} {r : Int} {xs : List Int} {e : Ending} {w' : World} (h : CopyF w r xs e w') : ∃ v, e = .returned v ∧ ∃ A c q, v = .agg #[.int .i64 r, .slice A xs.length c] ∧ OwnV w' w.heap.size w'.heap.size (.slice A xs.length c) q xs ∧ Below w.heap.size w w' := by
  obtain ⟨A, c, q, h1, h2, h3⟩ := h
  exact ⟨_, h1, A, c, q, rfl, h2, h3⟩

set_option maxRecDepth 100000 in
set_option maxHeartbeats 400000 in
theorem l3Atom_any (r : Int) (A : Option Addr) (c : Nat) (xs : List Int) (hl : xs.length ≤ 1048576) (w : World) (h : RI w A xs) :
    Calls Tryz.prog 73 #[.int .i64 r, .slice A xs.length c] w (CopyF w r xs) := by
  obtain ⟨i0, hi, hz0, hz1, hz2⟩ := info_parts int_info
  have B1 := below_alloc w (.cells #[.int .i64 0, .slice none 0 0] 67)
  have HI := Lib.hid ((h.step B1).step (below_alloc _ (.cells #[] 3)))
  have HB1 := Lib.hid B1
  clear h B1
  go_enter Tryz.func73, Tryz.ntmps73
  go_wp2_with (at_builtin; refine wpList_append_nums rfl _ _ 22 rfl (w.heap.size + 1) 3 i0 Tryz.underlying22 hi hz0 hz1 hz2 (.slice (some ⟨w.heap.size + 1, 0, none⟩) 0 0) 0 [] rfl (by have := World.ownsRow_lit (base := w.heap.size + 1) (e := 3) (size := 1) (w.alloc (.cells #[.int .i64 0, .slice none 0 0] 67)) #[] 0 (by simp) (by unfold maxLen; omega) rfl; rw [al_size] at this; exact this) _ _ A c xs rfl HI.out (by omega) (by simp) ?_; intro v' w' hown hg hat
               have hown' : w'.ownsRow (w.heap.size + 1) 3 1 v' (0 + xs.length) (xs.map (Value.int .i64)) := by simpa using hown
               obtain ⟨q, hv⟩ := ownV_of_row hown'
               obtain ⟨A2, c2, rfl, _, _⟩ := hv.form
               have HV := Lib.hid hv
               have HG := Lib.hid hg
               have X4 : Box w' w.heap.size #[.int .i64 0, .slice none 0 0] 67 := (hg.block w.heap.size (by simp <;> omega) (by simp [Value.ownBlock])).trans ((Box.new w _ _).step (below_alloc _ _))
               have g0 := X4.cell 0
               have g1 := X4.cell 1
               have g2 := X4.frozen 0
               have g3 := X4.frozen 1
               simp only [List.getElem?_toArray, List.getElem?_cons_zero, List.getElem?_cons_succ] at g0 g1
               have HX4 := Lib.hid X4
               clear hown hown' hv hg hat X4)
  have hlt := HX4.out.lt
  have HB := Lib.hid (show Below w.heap.size w w' from (step HB1.out (below_alloc _ (.cells #[] 3))).grown HG.out (by (try simp) <;> omega) (fun k hk => by have := own_some hk; omega))
  refine bodyPost_ret (v := .agg #[.int .i64 r, .slice A2 xs.length c2]) (by simp [results, Tryz.results73, go_sem, g0, g1]) rfl ⟨A2, c2, q, rfl, ?_, ?_⟩
  · rw [size2]
    exact (HV.out.keep fun h1 _ _ => (Below.heap_setCell _ ⟨w.heap.size, 1, none⟩ _ q (by (try simp) <;> omega)).trans (Below.heap_setCell _ ⟨w.heap.size, 0, none⟩ _ q (by (try simp) <;> omega))).mono (by omega) (Nat.le_refl _)
  · exact Below.setCell (Below.setCell HB.out (by simp) _) (by simp) _

end Go.Proofs.YtimlpdcambmcjaaGreat

namespace Go.Proofs.YtimlpdcambmcjaaGreat
open Go.ChangeShapes Go.WideShapes Go.ChangeAt Go.RowKit Go.Sort
set_option linter.unusedVariables false
set_option linter.unusedSimpArgs false

/-- The fact that an atom is under a binding. -/
def FFor (w : World) (r : Int) (ys : List Int) (v : Value) (w' : World) : Prop := ∃ A c, v = .agg #[.int .i64 r, .slice A ys.length c] ∧ (RI w' A ys ∧ ys.length ≤ c ∧ c ≤ maxLen) ∧ w'.ownsRow w.heap.size 3 1 (.slice A ys.length c) ys.length (ys.map (Value.int .i64)) ∧ Below w.heap.size w w'

set_option maxRecDepth 100000 in
set_option maxHeartbeats 1000000 in
theorem factFor_any (r : Int) (T U V : Option Addr) (ct cu cv : Nat) (ts us vs : List Int) (ht : ts.length ≤ 1048576) (hu : us.length ≤ 1048576) (hv : vs.length ≤ 1048576) (w : World) (h : RI w T ts) (h1 : RI w U us) (h2 : RI w V vs) :
    Calls Tryz.prog 129 #[.agg #[.int .i64 r, .slice T ts.length ct], .agg #[.slice U us.length cu, .slice V vs.length cv]] w fun e w' => ∃ v, e = .returned v ∧ FFor w r (tupV us vs ts) v w' := by
  obtain ⟨w0, hw0⟩ : ∃ W, W = ((w.alloc (.cells #[.int .i64 r, .slice T ts.length ct] 67)).alloc (.cells #[.slice U us.length cu, .slice V vs.length cv] 100)).alloc (.cells #[.int .i64 0, .slice none 0 0] 77) := ⟨_, rfl⟩
  have E0 := Lib.hid hw0
  have B0 := Lib.hid (show Below w.heap.size w w0 by rw [hw0]; exact step (step (below_alloc w _) (below_alloc _ _)) (below_alloc _ _))
  have X0 := Lib.hid (show Box w0 w.heap.size #[.int .i64 r, .slice T ts.length ct] 67 by rw [hw0]; exact ((Box.new w _ _).step (below_alloc _ _)).step (below_alloc _ _))
  have Y0 := Lib.hid (show Box w0 (w.heap.size + 1) #[.slice U us.length cu, .slice V vs.length cv] 100 by
    rw [hw0]
    have h := (Box.new (w.alloc (.cells #[.int .i64 r, .slice T ts.length ct] 67)) #[.slice U us.length cu, .slice V vs.length cv] 100).step (below_alloc _ (.cells #[.int .i64 0, .slice none 0 0] 77))
    rwa [al_size] at h)
  have Z0 := Lib.hid (show Box w0 (w.heap.size + 1 + 1) #[.int .i64 0, .slice none 0 0] 77 by
    rw [hw0]
    have h := Box.new ((w.alloc (.cells #[.int .i64 r, .slice T ts.length ct] 67)).alloc (.cells #[.slice U us.length cu, .slice V vs.length cv] 100)) #[.int .i64 0, .slice none 0 0] 77
    rwa [al_size, al_size] at h)
  have XV := Lib.hid fun (W : World) (b : Below w0.heap.size w0 W) => valuesOf_any T U V ct cu cv ts us vs ht hu hv W ((h.step B0.out).step b) ((h1.step B0.out).step b) ((h2.step B0.out).step b)
  have zl := Z0.out.lt
  have x0 := X0.out.cell 0
  have x1 := X0.out.cell 1
  have y0 := Y0.out.cell 0
  have y1 := Y0.out.cell 1
  have q0 := Z0.out.cell 0
  have q1 := Z0.out.cell 1
  have q2 := Z0.out.frozen 0
  have q3 := Z0.out.frozen 1
  simp only [List.getElem?_toArray, List.getElem?_cons_zero, List.getElem?_cons_succ] at x0 x1 y0 y1 q0 q1
  clear h h1 h2 hw0
  go_enter Tryz.func129, Tryz.ntmps129
  go_upto_region 1 with fail
  rw [← E0.out]
  go_region_law (first
    | (refine callV2 rfl 133 _ _ _ _ rfl (.slice T ts.length ct) (.agg #[.slice U us.length cu, .slice V vs.length cv]) rfl rfl (by kernel_rfl) (R := fun v' w' => w'.ownsRow w0.heap.size 3 1 v' (tupV us vs ts).length ((tupV us vs ts).map (Value.int .i64)) ∧ Below w0.heap.size w0 w') ((XV.out _ (by first | exact Below.refl _ _ | exact below_drew _)).mono (fun e w' h => by
         obtain ⟨v, e1, e2, e3⟩ := h
         exact ⟨v, e1, e2, by first | exact e3 | exact und e3 | exact undN e3⟩)) ?_
       rintro v5 u5 ⟨o5, b5⟩
       obtain ⟨A5, c5, rfl⟩ := ownsRow_form o5
       have x05 := (b5.cell (p := ⟨w.heap.size, 0, none⟩) (by (try simp) <;> omega)).trans x0
       have Z5 := Lib.hid (Z0.out.step b5)
       have D5 := Lib.hid (step B0.out b5)
       have O5 := Lib.hid o5
       have q05 := Z5.out.cell 0
       have q15 := Z5.out.cell 1
       have q25 := Z5.out.frozen 0
       have q35 := Z5.out.frozen 1
       simp only [List.getElem?_toArray, List.getElem?_cons_zero, List.getElem?_cons_succ] at q05 q15
       have z5 := Z5.out.lt
       clear o5 b5))
  all_goals
    go_wp2
    refine bodyPost_ret (v := .agg #[.int .i64 r, .slice A5 (tupV us vs ts).length c5]) (by simp [results, Tryz.results129, go_sem, q05, q15, q25, q35]) rfl ?_
    have OO : ((u5.setCell ⟨w.heap.size + 1 + 1, 0, none⟩ (.int .i64 r)).setCell ⟨w.heap.size + 1 + 1, 1, none⟩ (.slice A5 (tupV us vs ts).length c5)).ownsRow w.heap.size 3 1 (.slice A5 (tupV us vs ts).length c5) (tupV us vs ts).length ((tupV us vs ts).map (Value.int .i64)) := by
      have h := ownsRow_set (p := ⟨w.heap.size + 1 + 1, 1, none⟩) (u := .slice A5 (tupV us vs ts).length c5) (ownsRow_set (p := ⟨w.heap.size + 1 + 1, 0, none⟩) (u := .int .i64 r) O5.out (by (try simp) <;> omega)) (by (try simp) <;> omega)
      refine ⟨h.1, ?_⟩
      rcases h.2 with h0 | ⟨g, cap, cur, hv, hb, rr⟩
      · exact .inl h0
      · exact .inr ⟨g, cap, cur, hv, by omega, rr⟩
    exact ⟨_, rfl, A5, c5, rfl, row_ri OO rfl, OO, Below.setCell (Below.setCell D5.out (by (try simp) <;> omega) _) (by (try simp) <;> omega) _⟩

end Go.Proofs.YtimlpdcambmcjaaGreat
