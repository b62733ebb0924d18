/- What the two functions ValueOf answer. Conditions: none beyond each theorem's own. What the two functions ValueOf answer. Conditions: none beyond each theorem's own. What the terms are worth: the program's valuesOf, and TupleOf of both. Conditions: none beyond each theorem's own. Copies of atoms and of queries; an atom struck out of a row. Conditions: none beyond each theorem's own. -/
import Derived.Test.YtighalbnpgmdfaaAp8
import Derived.Lib.QuietBelow
import Derived.Test.YtighalbnpgmdfaaAp1
import Derived.Deep.RegionLaw
import Derived.Lib.LazyBuf
import Derived.Deep.DeepCutAuto
import Derived.Deep.Cut
import Derived.Lib.SliceRun

namespace Go.Proofs.Ytighalbnpgmdfaa
open Go.ChangeShapes Go.WideShapes Go.ChangeAt Go.RowKit Go.Sort
set_option linter.unusedVariables false
set_option linter.unusedSimpArgs false

theorem takeI' (v : List Int) {k : Nat} (h : k < v.length) {x : Int} (hx : v.getD k 0 = x) : v.take (k + 1) = v.take k ++ [x] := by
  rw [List.take_succ_eq_append_getElem h]
  have : v[k] = v.getD k 0 := by simp [List.getD_eq_getElem?_getD, h]
  rw [this, hx]
theorem idx_ge : ∀ (hs : List Int) (t : Int) (k : Nat), k ≤ hs.length → t ∉ hs.take k → k ≤ hs.idxOf t
  | _, _, 0, _, _ => Nat.zero_le _
  | [], _, k + 1, h, _ => by simp at h
  | x :: xs, t, k + 1, h, hn => by
    rw [List.take_succ_cons] at hn
    have h1 : ¬ t = x := fun e => hn (by rw [e]; exact List.mem_cons_self)
    have h2 := idx_ge xs t k (by simpa using h) (fun hm => hn (List.mem_cons_of_mem _ hm))
    rw [List.idxOf_cons]
    have e : (x == t) = false := by simpa using fun e => h1 e.symm
    rw [e]
    simp only [cond_false]
    omega
theorem idx_at : ∀ (hs : List Int) (t : Int) (k : Nat), k < hs.length → t ∉ hs.take k → hs.getD k 0 = t → hs.idxOf t = k
  | [], _, k, h, _, _ => by simp at h
  | x :: xs, t, 0, _, _, he => by
    have : x = t := by simpa using he
    subst this
    simp
  | x :: xs, t, k + 1, h, hn, he => by
    rw [List.take_succ_cons] at hn
    have h1 : ¬ t = x := fun e => hn (by rw [e]; exact List.mem_cons_self)
    have h2 := idx_at xs t k (by simpa using h) (fun hm => hn (List.mem_cons_of_mem _ hm)) (by simpa using he)
    rw [List.idxOf_cons]
    have e : (x == t) = false := by simpa using fun e => h1 e.symm
    rw [e]
    simp only [cond_false]
    omega

/-- What a term is worth under the binding of hs to l. -/
def bval (hs l : List Int) (t : Int) : Int :=
  if inB t 10 17 = true then (if hs.idxOf t < hs.length ∧ hs.idxOf t < l.length then l.getD (hs.idxOf t) 0 else -1) else t
theorem bval_no {hs l : List Int} {t : Int} (h : inB t 10 17 = false) : bval hs l t = t := by simp [bval, h]
theorem bval_at {hs l : List Int} {t : Int} (h : inB t 10 17 = true) {k : Nat} (h1 : k < hs.length) (h2 : k < l.length) (h3 : t ∉ hs.take k) (h4 : hs.getD k 0 = t) : bval hs l t = l.getD k 0 := by
  have e := idx_at hs t k h1 h3 h4
  simp [bval, h, e, h1, h2]
theorem bval_none {hs l : List Int} {t : Int} (h : inB t 10 17 = true) {k : Nat} (h1 : k ≤ hs.length) (h3 : t ∉ hs.take k) (h2 : hs.length ≤ k ∨ l.length ≤ k) : bval hs l t = -1 := by
  have e := idx_ge hs t k h1 h3
  have : ¬ (hs.idxOf t < hs.length ∧ hs.idxOf t < l.length) := by omega
  simp [bval, h, this]
theorem notMem_snoc {hs : List Int} {t x : Int} {k : Nat} (hk : k < hs.length) (h3 : t ∉ hs.take k) (hx : hs.getD k 0 = x) (hne : ¬ x = t) : t ∉ hs.take (k + 1) := by
  rw [takeI' hs hk hx]
  simp only [List.mem_append, List.mem_singleton, not_or]
  exact ⟨h3, fun e => hne e.symm⟩

/-- The first place of x in v, or -1. -/
def idxI (v : List Int) (x : Int) : Int := if v.idxOf x < v.length then (v.idxOf x : Int) else -1
set_option maxRecDepth 100000 in
set_option maxHeartbeats 400000 in
theorem index_at (lo hi : Nat) (A : Option Addr) (c : Nat) (v : List Int) (x : Int) (hl : v.length ≤ 1048576) (w : World) (h : Ints w lo hi A v) :
    Calls Try.prog 141 #[.slice A v.length c, .int .i64 x] w fun e w' => e = .returned (.int .i64 (idxI v x)) ∧ w = w' := by
  have HI := Lib.hid h
  clear h
  have hl' : (v.length : Int) ≤ 1048576 := by omega
  go_enter Try.func141, Try.ntmps141
  go_wp2
  go_loop [5, 8] (fun _ i => ∃ k : Nat, k ≤ v.length ∧ i = .int .i64 k ∧ Hid (x ∉ v.take k)) (fun _ i => v.length - (intOf i).toNat)
  case atStart => exact ⟨0, by omega, rfl, Lib.hid (by simp)⟩
  case round =>
    obtain ⟨k, hk, rfl, ha⟩ := hrel
    by_cases hlt : k < v.length
    · obtain ⟨b, off, rfl, _, _, hc⟩ := HI.out.at_ hlt
      generalize hz : v.getD k 0 = z at hc
      have HZ := Lib.hid hz
      clear hz
      by_cases he : x = z
      · subst he
        go_wp2
        go_ret
        exact ⟨ret_int (by have := idx_at v x k hlt ha.out HZ.out; simp [idxI, this, hlt]), rfl⟩
      · have d1 : (x == z) = false := by simpa using he
        go_wp2
        go_round
        case rel => exact ⟨k + 1, by omega, by go_num, Lib.hid (notMem_snoc hlt ha.out HZ.out (fun e => he e.symm))⟩
        case measure => simp [intOf]; omega
    · obtain rfl : k = v.length := by omega
      go_wp2
      go_ret
      exact ⟨ret_int (by have := idx_ge v x v.length (Nat.le_refl _) ha.out; simp [idxI, show ¬ v.idxOf x < v.length by omega]), rfl⟩
end Go.Proofs.Ytighalbnpgmdfaa

namespace Go.Proofs.Ytighalbnpgmdfaa
open Go.ChangeShapes Go.WideShapes Go.ChangeAt Go.RowKit Go.Sort
set_option linter.unusedVariables false
set_option linter.unusedSimpArgs false

set_option maxRecDepth 100000 in
set_option maxHeartbeats 1000000 in
theorem spec_ValueOf (H A : Option Addr) (ch c : Nat) (hs l : List Int) (t : Int) (hh : hs.length ≤ 1048576) (hl : l.length ≤ 1048576) (w : World) (h : RI w H hs) (h' : RI w A l) :
    Calls Try.prog 110 #[.agg #[.slice H hs.length ch, .slice A l.length c], .int .i64 t] w fun e w' => e = .returned (.int .i64 (bval hs l t)) ∧ Below w.heap.size w w' := by
  have hh' : (hs.length : Int) ≤ 1048576 := by omega
  have hl' : (l.length : Int) ≤ 1048576 := by omega
  have B0 := Lib.hid (below_alloc w (.cells #[.slice H hs.length ch, .slice A l.length c] 98))
  have X0 := Lib.hid (Box.new w #[.slice H hs.length ch, .slice A l.length c] 98)
  have HI := Lib.hid (h.step B0.out)
  have HJ := Lib.hid (h'.step B0.out)
  clear h h'
  by_cases ht : inB t 10 17 = true
  · have HT := Lib.hid ht
    clear ht
    go_enter Try.func110, Try.ntmps110
    go_wp2_with fail
    refine (spec_IsVar t _).mono ?_
    rintro e w1 ⟨he, rfl⟩
    rw [HT.out] at he
    subst he
    go_wp2
    go_loop [5] (fun i => ∃ k : Nat, k ≤ hs.length ∧ i = .int .i64 k ∧ Hid (t ∉ hs.take k)) (fun i => hs.length - (intOf i).toNat)
    case atStart => exact ⟨0, by omega, rfl, Lib.hid (by simp)⟩
    case round =>
      obtain ⟨k, hk, rfl, ha⟩ := hrel
      have hk0 : (0 : Int) ≤ (k : Int) := by omega
      by_cases h1 : k < hs.length
      · have hk1 : (k : Int) < (hs.length : Int) := by omega
        have d1 : decide (k < hs.length) = true := by simpa using h1
        by_cases h2 : k < l.length
        · have hk2 : (k : Int) < (l.length : Int) := by omega
          have d2 : decide (k < l.length) = true := by simpa using h2
          obtain ⟨b, off, rfl, n1, e1⟩ := HI.out.at_ h1
          obtain ⟨b', off', rfl, n2, e2⟩ := HJ.out.at_ h2
          generalize hx : hs.getD k 0 = x at e1
          generalize hy : l.getD k 0 = y at e2
          have HX := Lib.hid hx
          have HY := Lib.hid hy
          clear hx hy
          by_cases he : x = t
          · have d3 : (x == t) = true := by simpa using he
            have HE := Lib.hid he
            clear he
            go_wp2
            go_ret
            exact ⟨ret_int (by rw [bval_at HT.out h1 h2 ha.out (by rw [HX.out]; exact HE.out), HY.out]), B0.out⟩
          · have d3 : (x == t) = false := by simpa using he
            have HE := Lib.hid he
            clear he
            go_wp2
            go_round
            case rel => exact ⟨k + 1, by omega, by go_num, Lib.hid (notMem_snoc h1 ha.out HX.out HE.out)⟩
            case measure => simp [intOf]; omega
        · have hk2 : ¬ (k : Int) < (l.length : Int) := by omega
          have d2 : decide (k < l.length) = false := by simpa using h2
          go_wp2
          go_ret
          exact ⟨ret_int (by rw [bval_none HT.out hk ha.out (.inr (by omega))]), B0.out⟩
      · have hk1 : ¬ (k : Int) < (hs.length : Int) := by omega
        have d1 : decide (k < hs.length) = false := by simpa using h1
        go_wp2
        go_ret
        exact ⟨ret_int (by rw [bval_none HT.out hk ha.out (.inl (by omega))]), B0.out⟩
  · have ht' : inB t 10 17 = false := by simpa using ht
    have HT := Lib.hid ht'
    rw [bval_no ht']
    clear ht ht'
    go_enter Try.func110, Try.ntmps110
    go_wp2_with fail
    refine (spec_IsVar t _).mono ?_
    rintro e w1 ⟨he, rfl⟩
    rw [HT.out] at he
    subst he
    go_wp2
    go_ret
    exact ⟨rfl, B0.out⟩

set_option maxRecDepth 100000 in
set_option maxHeartbeats 1000000 in
theorem impl_ValueOf (H A : Option Addr) (ch c : Nat) (hs l : List Int) (t : Int) (hh : hs.length ≤ 1048576) (hl : l.length ≤ 1048576) (w : World) (h : RI w H hs) (h' : RI w A l) :
    Calls Try.prog 151 #[.agg #[.slice H hs.length ch, .slice A l.length c], .int .i64 t] w fun e w' => e = .returned (.int .i64 (bval hs l t)) ∧ Below w.heap.size w w' := by
  have hh' : (hs.length : Int) ≤ 1048576 := by omega
  have hl' : (l.length : Int) ≤ 1048576 := by omega
  have B0 := Lib.hid (below_alloc w (.cells #[.slice H hs.length ch, .slice A l.length c] 98))
  have XI := Lib.hid (index_at _ _ H ch hs t hh _ (h.step B0.out))
  have HJ := Lib.hid (h'.step B0.out)
  clear h h'
  by_cases ht : inB t 10 17 = true
  · have HT := Lib.hid ht
    clear ht
    by_cases h1 : hs.idxOf t < hs.length
    · have E1 := Lib.hid (show idxI hs t = (hs.idxOf t : Int) from if_pos h1)
      by_cases h2 : hs.idxOf t < l.length
      · have E := Lib.hid (show bval hs l t = l.getD (hs.idxOf t) 0 by simp [bval, HT.out, h1, h2])
        rw [E.out]
        generalize hs.idxOf t = k at h1 h2 E1
        obtain ⟨b', off', rfl, n2, e2⟩ := HJ.out.at_ h2
        generalize hy : l.getD k 0 = y at e2
        clear hy E
        have hk0 : (0 : Int) ≤ (k : Int) := by omega
        have hk2 : ¬ ((l.length : Int) ≤ (k : Int)) := by omega
        have hk3 : (k : Int) < (l.length : Int) := by omega
        have d2 : decide (l.length ≤ k) = false := by simp; omega
        have d0 : decide ((k : Int) < 0) = false := by simp
        go_enter Try.func151, Try.ntmps151
        go_wp2_with fail
        refine (impl_IsVar t _).mono ?_
        rintro e w1 ⟨he, rfl⟩
        rw [HT.out] at he
        subst he
        go_wp2_with fail
        refine XI.out.mono ?_
        rintro e w1 ⟨he, rfl⟩
        rw [E1.out] at he
        subst he
        go_wp2
        go_ret
        exact ⟨rfl, B0.out⟩
      · have E := Lib.hid (show bval hs l t = -1 by simp [bval, HT.out, h2])
        rw [E.out]
        generalize hs.idxOf t = k at h1 h2 E1
        clear E
        have hk0 : (0 : Int) ≤ (k : Int) := by omega
        have hk2 : ((l.length : Int) ≤ (k : Int)) := by omega
        have d2 : decide (l.length ≤ k) = true := by simp; omega
        have d0 : decide ((k : Int) < 0) = false := by simp
        go_enter Try.func151, Try.ntmps151
        go_wp2_with fail
        refine (impl_IsVar t _).mono ?_
        rintro e w1 ⟨he, rfl⟩
        rw [HT.out] at he
        subst he
        go_wp2_with fail
        refine XI.out.mono ?_
        rintro e w1 ⟨he, rfl⟩
        rw [E1.out] at he
        subst he
        go_wp2
        go_ret
        exact ⟨rfl, B0.out⟩
    · have E1 := Lib.hid (show idxI hs t = -1 from if_neg h1)
      have E := Lib.hid (show bval hs l t = -1 by simp [bval, HT.out, h1])
      rw [E.out]
      clear E h1
      go_enter Try.func151, Try.ntmps151
      go_wp2_with fail
      refine (impl_IsVar t _).mono ?_
      rintro e w1 ⟨he, rfl⟩
      rw [HT.out] at he
      subst he
      go_wp2_with fail
      refine XI.out.mono ?_
      rintro e w1 ⟨he, rfl⟩
      rw [E1.out] at he
      subst he
      go_wp2
      go_ret
      exact ⟨rfl, B0.out⟩
  · have ht' : inB t 10 17 = false := by simpa using ht
    have HT := Lib.hid ht'
    rw [bval_no ht']
    clear ht ht'
    go_enter Try.func151, Try.ntmps151
    go_wp2_with fail
    refine (impl_IsVar t _).mono ?_
    rintro e w1 ⟨he, rfl⟩
    rw [HT.out] at he
    subst he
    go_wp2
    go_ret
    exact ⟨rfl, B0.out⟩
end Go.Proofs.Ytighalbnpgmdfaa

namespace Go.Proofs.Ytighalbnpgmdfaa
open Go.ChangeShapes Go.WideShapes Go.ChangeAt Go.RowKit Go.Sort
set_option linter.unusedVariables false
set_option linter.unusedSimpArgs false

/-- What the terms ts are worth under the binding of us to vs. -/
def tupV (us vs ts : List Int) : List Int := ts.map (bval us vs)
theorem tupV_len (us vs ts : List Int) : (tupV us vs ts).length = ts.length := List.length_map _
theorem tupV_take (us vs ts : List Int) {k : Nat} (hk : k < ts.length) {t : Int} (ht : ts.getD k 0 = t) : tupV us vs (ts.take (k + 1)) = tupV us vs (ts.take k) ++ [bval us vs t] := by
  rw [takeI' ts hk ht]
  simp [tupV]
theorem tupV_takeN (us vs ts : List Int) (k : Nat) (hk : k ≤ ts.length) : (tupV us vs (ts.take k)).length = k := by
  rw [tupV_len, List.length_take]; omega

/-- A call of two arguments as one step of a region that draws. -/
theorem callV2 {P : Program} {ops : Array Oper} {o : Oper} {a : Act} {w : World} {K : Act → World → Prop} {Q : Exit → Act → World → Prop} {E : Prop}
    (hgd : o.guard = none) (g : FuncId) (x y : Operand) (t t' : TypeId) (ho : o.op = .call { callee := .value (.func g), args := #[x, y], argTypes := #[t, t'] })
    (vx vy : Value) (hx : a.eval x = vx) (hy : a.eval y = vy) (hcf : (callFunc g #[vx, vy]).run P w = .ok (.enter g #[vx, vy]) w) {R : Value → World → Prop} (hc : Calls P g #[vx, vy] w fun e w' => ∃ v, e = .returned v ∧ R v w') (hK : ∀ v w', R v w' → K (a.put o.dst v) w') :
    if Region.wanted o (yielded ops a.tmps) = true then Oper.wp P o a w K Q else E := by
  have hw : Region.wanted o (yielded ops a.tmps) = true := by simp [Region.wanted, hgd]
  rw [if_pos hw]
  unfold Oper.wp
  have e : (execOp a.eval o).run P w = .ok (.enter g #[vx, vy]) w := by
    rw [← hx, ← hy] at hcf ⊢
    simpa [go_sem, execOp, ho, resolve, invoke] using hcf
  rw [e, Oper.upon_enter]
  refine hc.mono ?_
  rintro _ w' ⟨v, rfl, h⟩
  exact hK v w' h

set_option maxRecDepth 100000 in
set_option maxHeartbeats 1000000 in
theorem valuesOf_any (T U V : Option Addr) (ct cu cv : Nat) (ts us vs : List Int) (ht : ts.length ≤ 1048576) (hu : us.length ≤ 1048576) (hv : vs.length ≤ 1048576) (w : World) (h : RI w T ts) (h1 : RI w U us) (h2 : RI w V vs) :
    Calls Try.prog 123 #[.slice T ts.length ct, .agg #[.slice U us.length cu, .slice V vs.length cv]] w (ListT w (tupV us vs ts)) := by
  obtain ⟨i0, hi, hz0, hz1, hz2⟩ := info_parts int_info
  have ht' : (ts.length : Int) ≤ 1048576 := by omega
  have B0 := Lib.hid (below_alloc w (.cells #[.slice U us.length cu, .slice V vs.length cv] 98))
  have X0 := Lib.hid (Box.new w #[.slice U us.length cu, .slice V vs.length cv] 98)
  have HT := Lib.hid h
  have HU := Lib.hid h1
  have HV := Lib.hid h2
  clear h h1 h2
  go_enter Try.func123, Try.ntmps123
  go_wp2
  go_loopw [5, 7, 10] (fun o _ i wr => ∃ (k : Nat) (v : Value), k ≤ ts.length ∧ i = .int .i64 k ∧ v = o ∧ Hid (wr.ownsRow (w.heap.size + 1) 3 1 v k ((tupV us vs (ts.take k)).map (Value.int .i64))) ∧ Hid (Box wr w.heap.size #[.slice U us.length cu, .slice V vs.length cv] 98) ∧ Hid (Below w.heap.size w wr)) (fun _ _ i _ => ts.length - (intOf i).toNat)
  case atStart => exact ⟨0, _, by omega, rfl, rfl, Lib.hid (World.ownsRow_nil _ _ _ _), X0, B0⟩
  case round =>
    obtain ⟨k, v, hk, rfl, rfl, hO, hX, hB⟩ := hrel
    have x0 := hX.out.cell 0
    have x1 := hX.out.cell 1
    simp only [List.getElem?_toArray, List.getElem?_cons_zero, List.getElem?_cons_succ] at x0 x1
    have hk0 : (0 : Int) ≤ (k : Int) := by omega
    by_cases hlt : k < ts.length
    · have hk1 : (k : Int) < (ts.length : Int) := by omega
      obtain ⟨b, off, rfl, nb, e0⟩ := (HT.out.step hB.out).at_ hlt
      generalize hx : ts.getD k 0 = t at e0
      have TT := Lib.hid (tupV_take us vs ts hlt hx)
      have XV := Lib.hid (impl_ValueOf U V cu cv us vs t hu hv wr (HU.out.step hB.out) (HV.out.step hB.out))
      generalize bval us vs t = y at TT XV
      have hxl := hX.out.lt
      clear hx
      go_wp2_with fail
      refine XV.out.mono ?_
      rintro e w1 ⟨rfl, d⟩
      have O1 := Lib.hid (ownsRow_step hO.out d)
      have X1 := Lib.hid (hX.out.step d)
      have B1 := Lib.hid (step hB.out d)
      have Bl1 := Lib.hid (show Below (w.heap.size + 1) wr w1 from d.mono (by omega))
      have hbs : w.heap.size + 1 ≤ w1.heap.size := by have := X1.out.lt; omega
      clear d x0 x1
      go_wp2_with (at_builtin; refine wpList_push rfl _ _ _ 3 rfl i0 Try.underlying22 hi (.int .i64 0) 8 hz0 hz1 hz2 rfl (by omega) rfl rfl rfl O1.out (Below.refl _ w1) hbs (by omega) ?_; intro v' w' hown' hb' hsz')
      go_roundw
      case rel => exact ⟨k + 1, v', by omega, by go_num, rfl, Lib.hid (by rw [TT.out, List.map_append]; exact hown'), Lib.hid (show Box w' w.heap.size _ _ from (hb'.block _ (by omega)).trans X1.out), Lib.hid (B1.out.trans (hb'.mono (by omega)))⟩
      case measure => simp [intOf]; omega
    · obtain rfl : k = ts.length := by omega
      have OO := Lib.hid (show wr.ownsRow w.heap.size 3 1 v (tupV us vs ts).length ((tupV us vs ts).map (Value.int .i64)) by
        have := hO.out
        rw [List.take_length] at this
        rw [tupV_len]
        refine ⟨this.1, ?_⟩
        rcases this.2 with h0 | ⟨g, cap, cur, hv, hb, r⟩
        · exact .inl h0
        · exact .inr ⟨g, cap, cur, hv, by omega, r⟩)
      go_wp2
      go_ret
      exact ⟨v, rfl, OO.out, hB.out⟩

set_option maxRecDepth 100000 in
set_option maxHeartbeats 1000000 in
theorem impl_TupleOf (H Q U V : Option Addr) (ch c cu cv : Nat) (hs : List Int) (l : FL) (us vs : List Int) (hh : hs.length ≤ 1048576) (hu : us.length ≤ 1048576) (hv : vs.length ≤ 1048576) (w : World) (h : RI w H hs) (h1 : RI w U us) (h2 : RI w V vs) :
    Calls Try.prog 81 #[.agg #[.slice H hs.length ch, .slice Q l.length c], .agg #[.slice U us.length cu, .slice V vs.length cv]] w (ListT w (tupV us vs hs)) := by
  have B0 := Lib.hid (step (below_alloc w (.cells #[.slice H hs.length ch, .slice Q l.length c] 37)) (below_alloc _ (.cells #[.slice U us.length cu, .slice V vs.length cv] 98)))
  have XV := Lib.hid (valuesOf_any H U V ch cu cv hs us vs hh hu hv _ (h.step B0.out) (h1.step B0.out) (h2.step B0.out))
  clear h h1 h2
  go_enter Try.func81, Try.ntmps81
  go_wp2_with fail
  refine XV.out.mono ?_
  rintro e u ⟨v, rfl, ho, d⟩
  have D := Lib.hid (step B0.out d)
  have OO := Lib.hid (show u.ownsRow w.heap.size 3 1 v (tupV us vs hs).length ((tupV us vs hs).map (Value.int .i64)) by
    refine ⟨ho.1, ?_⟩
    rcases ho.2 with h0 | ⟨g, cap, cur, hv, hb, r⟩
    · exact .inl h0
    · exact .inr ⟨g, cap, cur, hv, by have := B0.out.size; omega, r⟩)
  clear ho d
  go_wp2
  go_ret
  exact ⟨v, rfl, OO.out, D.out⟩

set_option maxRecDepth 100000 in
set_option maxHeartbeats 2000000 in
theorem spec_TupleOf (H Q U V : Option Addr) (ch c cu cv : Nat) (hs : List Int) (l : FL) (us vs : List Int) (hh : hs.length ≤ 1048576) (hu : us.length ≤ 1048576) (hv : vs.length ≤ 1048576) (w : World) (h : RI w H hs) (h1 : RI w U us) (h2 : RI w V vs) :
    Calls Try.prog 76 #[.agg #[.slice H hs.length ch, .slice Q l.length c], .agg #[.slice U us.length cu, .slice V vs.length cv]] w (ListT w (tupV us vs hs)) := by
  obtain ⟨i0, hi, hz0, hz1, hz2⟩ := info_parts int_info
  have hh' : (hs.length : Int) ≤ 1048576 := by omega
  obtain ⟨w0, hw0⟩ : ∃ W, W = (w.alloc (.cells #[.slice H hs.length ch, .slice Q l.length c] 37)).alloc (.cells #[.slice U us.length cu, .slice V vs.length cv] 98) := ⟨_, rfl⟩
  have E0 := Lib.hid hw0
  have B0 := Lib.hid (show Below w.heap.size w w0 by rw [hw0]; exact step (below_alloc w _) (below_alloc _ _))
  have X0 := Lib.hid (show Box w0 w.heap.size #[.slice H hs.length ch, .slice Q l.length c] 37 by rw [hw0]; exact (Box.new w _ _).step (below_alloc _ _))
  have Y0 := Lib.hid (show Box w0 (w.heap.size + 1) #[.slice U us.length cu, .slice V vs.length cv] 98 by
    rw [hw0]
    have h := Box.new (w.alloc (.cells #[.slice H hs.length ch, .slice Q l.length c] 37)) #[.slice U us.length cu, .slice V vs.length cv] 98
    rwa [al_size] at h)
  have S0 := Lib.hid (show w0.heap.size = w.heap.size + 2 by rw [hw0, al_size, al_size])
  have HT := Lib.hid h
  have HU := Lib.hid h1
  have HV := Lib.hid h2
  clear h h1 h2 hw0
  go_enter Try.func76, Try.ntmps76
  go_wp2_with fail
  go_loopw [5, 6] (fun o i wr => ∃ (k : Nat) (v : Value), k ≤ hs.length ∧ i = .int .i64 k ∧ v = o ∧ Hid (wr.ownsRow (w.heap.size + 2) 3 1 v k ((tupV us vs (hs.take k)).map (Value.int .i64))) ∧ Hid (Box wr w.heap.size #[.slice H hs.length ch, .slice Q l.length c] 37) ∧ Hid (Box wr (w.heap.size + 1) #[.slice U us.length cu, .slice V vs.length cv] 98) ∧ Hid (Below w.heap.size w wr)) (fun _ i _ => hs.length - (intOf i).toNat)
  case atStart =>
    refine ⟨0, _, by omega, rfl, rfl, Lib.hid ?_, Lib.hid ?_, Lib.hid ?_, Lib.hid ?_⟩
    · rw [← E0.out]
      have := World.ownsRow_lit (base := w.heap.size + 2) (e := 3) (size := 1) w0 #[] 0 (by rw [S0.out]; exact Nat.le_refl _) (by unfold maxLen; omega) rfl
      rw [S0.out] at this
      exact this
    · rw [← E0.out]; exact X0.out.step (below_alloc _ _)
    · rw [← E0.out]; exact Y0.out.step (below_alloc _ _)
    · rw [← E0.out]; exact step B0.out (below_alloc _ _)
  case round =>
    obtain ⟨k, v, hk, rfl, rfl, hO, hX, hY, hB⟩ := hrel
    have x0 := hX.out.cell 0
    have y0 := hY.out.cell 0
    have y1 := hY.out.cell 1
    simp only [List.getElem?_toArray, List.getElem?_cons_zero, List.getElem?_cons_succ] at x0 y0 y1
    have hk0 : (0 : Int) ≤ (k : Int) := by omega
    by_cases hlt : k < hs.length
    · have hk1 : (k : Int) < (hs.length : Int) := by omega
      obtain ⟨b, off, rfl, nb, e0⟩ := (HT.out.step hB.out).at_ hlt
      generalize hx : hs.getD k 0 = t at e0
      have TT := Lib.hid (tupV_take us vs hs hlt hx)
      have XV := Lib.hid fun (W : World) (b : Below wr.heap.size wr W) => spec_ValueOf U V cu cv us vs t hu hv W ((HU.out.step hB.out).step b) ((HV.out.step hB.out).step b)
      generalize bval us vs t = y at TT XV
      have hyl := hY.out.lt
      clear hx
      go_wp2
      go_region_law (first
        | (refine callV2 rfl 110 _ _ _ _ rfl (.agg #[.slice U us.length cu, .slice V vs.length cv]) (.int .i64 t) rfl rfl (by kernel_rfl) (R := fun v' w' => v' = .int .i64 y ∧ Below wr.heap.size wr w') ((XV.out _ (by first | exact Below.refl _ _ | exact below_drew _)).mono (fun e w' h => ⟨_, h.1, rfl, by first | exact h.2 | exact und h.2 | exact undN h.2⟩)) ?_
           rintro _ u5 ⟨rfl, b5⟩
           have x05 := (b5.cell (p := ⟨w.heap.size, 0, none⟩) (by (try simp) <;> omega)).trans x0
           have y05 := (b5.cell (p := ⟨w.heap.size + 1, 0, none⟩) (by (try simp) <;> omega)).trans y0
           have y15 := (b5.cell (p := ⟨w.heap.size + 1, 1, none⟩) (by (try simp) <;> omega)).trans y1
           have z5 := b5.size
           have HO5 := Lib.hid (ownsRow_step hO.out b5)
           have hb5 : Below (w.heap.size + 2) wr u5 := b5.mono (by omega)
           have hz5 : w.heap.size + 2 ≤ u5.heap.size := by omega)
        | (refine step_pushR rfl _ _ _ 3 rfl i0 Try.underlying22 hi (.int .i64 0) 8 hz0 hz1 hz2 rfl (by omega) (w.heap.size + 2) k _ ((tupV us vs (hs.take k)).map (Value.int .i64)) _ 1 (.int .i64 y) rfl rfl rfl (by first | exact HO5.out.alloc _ | exact (HO5.out.alloc _).drew | exact HO5.out.drew.alloc _) (by first | exact hb5.alloc hz5 _ | exact (hb5.alloc hz5 _).drew | exact hb5.drew.alloc hz5 _) (by (try simp) <;> omega) (by omega) (by simp [Addr.add]) ?_
           intro v6 u6 hown6 hb6 hz6
           have HO6 := Lib.hid hown6
           clear hown6))
      all_goals
        have z6 := hb6.size
        clear x0 y0 y1 e0
        go_wp2
        go_roundw
        case rel =>
          refine ⟨k + 1, v6, by omega, by go_num, rfl, Lib.hid ?_, Lib.hid (show Box u6 w.heap.size _ _ from (hb6.block _ (by omega)).trans hX.out), Lib.hid (show Box u6 (w.heap.size + 1) _ _ from (hb6.block _ (by omega)).trans hY.out), Lib.hid (hB.out.trans (hb6.mono (by omega)))⟩
          rw [TT.out, List.map_append]
          exact HO6.out
        case measure => simp [intOf]; omega
    · obtain rfl : k = hs.length := by omega
      have OO := Lib.hid (show wr.ownsRow w.heap.size 3 1 v (tupV us vs hs).length ((tupV us vs hs).map (Value.int .i64)) by
        have := hO.out
        rw [List.take_length] at this
        rw [tupV_len]
        refine ⟨this.1, ?_⟩
        rcases this.2 with h0 | ⟨g, cap, cur, hv, hb, r⟩
        · exact .inl h0
        · exact .inr ⟨g, cap, cur, hv, by omega, r⟩)
      go_wp2
      go_ret
      exact ⟨v, rfl, OO.out, hB.out⟩
end Go.Proofs.Ytighalbnpgmdfaa

namespace Go.Proofs.Ytighalbnpgmdfaa
open Go.ChangeShapes Go.WideShapes Go.ChangeAt Go.RowKit Go.Sort
set_option linter.unusedVariables false
set_option linter.unusedSimpArgs false

/-- A call of one argument as one step of a region that draws. -/
theorem callV1 {P : Program} {ops : Array Oper} {o : Oper} {a : Act} {w : World} {K : Act → World → Prop} {Q : Exit → Act → World → Prop} {E : Prop}
    (hgd : o.guard = none) (g : FuncId) (x : Operand) (t : TypeId) (ho : o.op = .call { callee := .value (.func g), args := #[x], argTypes := #[t] })
    (vx : Value) (hx : a.eval x = vx) (hcf : (callFunc g #[vx]).run P w = .ok (.enter g #[vx]) w) {R : Value → World → Prop} (hc : Calls P g #[vx] w fun e w' => ∃ v, e = .returned v ∧ R v w') (hK : ∀ v w', R v w' → K (a.put o.dst v) w') :
    if Region.wanted o (yielded ops a.tmps) = true then Oper.wp P o a w K Q else E := by
  have hw : Region.wanted o (yielded ops a.tmps) = true := by simp [Region.wanted, hgd]
  rw [if_pos hw]
  unfold Oper.wp
  have e : (execOp a.eval o).run P w = .ok (.enter g #[vx]) w := by
    rw [← hx] at hcf ⊢
    simpa [go_sem, execOp, ho, resolve, invoke] using hcf
  rw [e, Oper.upon_enter]
  refine hc.mono ?_
  rintro _ w' ⟨v, rfl, h⟩
  exact hK v w' h

set_option maxRecDepth 100000 in
set_option maxHeartbeats 400000 in
theorem copyAtom_any (r : Int) (A : Option Addr) (c : Nat) (xs : List Int) (hl : xs.length ≤ 1048576) (w : World) (h : RI w A xs) :
    Calls Try.prog 125 #[.agg #[.int .i64 r, .slice A xs.length c]] w (CopyF w r xs) := by
  have B0 := step (below_alloc w (.cells #[.int .i64 r, .slice A xs.length c] 73)) (below_alloc _ (.cells #[.int .i64 0, .slice none 0 0] 73))
  have HI := Lib.hid (h.step B0)
  have HB0 := Lib.hid B0
  have X0 : Box ((w.alloc (.cells #[.int .i64 r, .slice A xs.length c] 73)).alloc (.cells #[.int .i64 0, .slice none 0 0] 73)) w.heap.size #[.int .i64 r, .slice A xs.length c] 73 := (Box.new _ _ _).step (below_alloc _ _)
  have X1 : Box ((w.alloc (.cells #[.int .i64 r, .slice A xs.length c] 73)).alloc (.cells #[.int .i64 0, .slice none 0 0] 73)) (w.heap.size + 1) #[.int .i64 0, .slice none 0 0] 73 := by simpa using Box.new (w.alloc (.cells #[.int .i64 r, .slice A xs.length c] 73)) #[.int .i64 0, .slice none 0 0] 73
  have HX1 := Lib.hid X1
  have g0 := X0.cell 0
  have g1 := X0.cell 1
  simp only [List.getElem?_toArray, List.getElem?_cons_zero, List.getElem?_cons_succ] at g0 g1
  clear h B0 X0 X1
  go_enter Try.func125, Try.ntmps125
  go_wp2
  go_region_held3 (fun w' => w'.cell? ⟨w.heap.size, 0, none⟩ = some (.int .i64 r) ∧ w'.cell? ⟨w.heap.size, 1, none⟩ = some (.slice A xs.length c))
    (first
      | go_keep
      | (go_split_ands; refine ⟨?_, ?_⟩ <;> (rw [d.cell (by (try simp) <;> omega)]; assumption)))
    (first
      | (go_at_call 124; refine (clone_any A c xs hl _ (by first | exact HI.out | exact HI.out.step (below_drew _))).mono ?_; rintro e u ⟨A2, c2, q, rfl, hv, d⟩
         have b2 := (by first | exact d | exact und d : Below ((w.alloc (.cells #[.int .i64 r, .slice A xs.length c] 73)).alloc (.cells #[.int .i64 0, .slice none 0 0] 73)).heap.size ((w.alloc (.cells #[.int .i64 r, .slice A xs.length c] 73)).alloc (.cells #[.int .i64 0, .slice none 0 0] 73)) u)
         have X4 := HX1.out.step b2
         have q0 := X4.cell 0
         have q1 := X4.cell 1
         have q2 := X4.frozen 0
         have q3 := X4.frozen 1
         simp only [List.getElem?_toArray, List.getElem?_cons_zero, List.getElem?_cons_succ] at q0 q1
         have q4 := X4.lt
         have HV := Lib.hid hv
         have HB2 := Lib.hid (step HB0.out b2)
         clear hv b2 X4))
  go_wp2
  refine bodyPost_ret (v := .agg #[.int .i64 r, .slice A2 xs.length c2]) (by simp [results, Try.results125, go_sem, q0, q1, q2, q3]) rfl ⟨A2, c2, q, rfl, ?_, ?_⟩
  · rw [size2]
    exact (HV.out.keep fun h1 _ _ => (Below.heap_setCell _ ⟨w.heap.size + 1, 1, none⟩ _ q (by (try simp at h1 ⊢); omega)).trans (Below.heap_setCell _ ⟨w.heap.size + 1, 0, none⟩ _ q (by (try simp at h1 ⊢); omega))).mono (by (try simp) <;> omega) (Nat.le_refl _)
  · exact Below.setCell (Below.setCell HB2.out (by (try simp) <;> omega) _) (by (try simp) <;> omega) _

/-- A list of facts of the call's own, at the head of block g; the numbers' blocks lie from lo on. -/
def CopyLt (w : World) (fs : FL) (e : Ending) (w' : World) : Prop :=
  e = .returned (.slice (some ⟨w.heap.size, 0, none⟩) fs.length fs.length) ∧ atom.OwnP w' w.heap.size w'.heap.size w.heap.size (fs.length * 2) fs.length fs ∧ Below w.heap.size w w' ∧ w.heap.size < w'.heap.size

/-- What a copy of a query is: its head in blocks up to below mid, its atoms from there on. -/
def CpQ (w : World) (hs : List Int) (l : FL) (e : Ending) (w' : World) : Prop :=
  ∃ (A : Option Addr) (c q mid : Nat), e = .returned (.agg #[.slice A hs.length c, .slice (some ⟨mid, 0, none⟩) l.length l.length]) ∧ OwnV w' w.heap.size mid (.slice A hs.length c) q hs ∧ atom.OwnP w' mid w'.heap.size mid (l.length * 2) l.length l ∧ w.heap.size + 2 ≤ mid ∧ mid < w'.heap.size ∧ Below w.heap.size w w'

end Go.Proofs.Ytighalbnpgmdfaa
