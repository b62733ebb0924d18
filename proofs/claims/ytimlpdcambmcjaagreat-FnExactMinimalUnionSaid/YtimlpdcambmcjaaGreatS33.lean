/- What the program's freezeApart and FreezeQuery leave. Conditions: none beyond each theorem's own. -/
import Derived.Test.YtimlpdcambmcjaaGreatS32
import Derived.Test.YtimlpdcambmcjaaGreatS23
import Derived.Test.YtimlpdcambmcjaaGreatS12
import Derived.Deep.DeepCutAuto
import Derived.Deep.Cut

namespace Go.Proofs.YtimlpdcambmcjaaGreat
open Go.ChangeShapes Go.WideShapes Go.ChangeAt Go.RowKit Go.Sort
set_option linter.unusedVariables false
set_option linter.unusedSimpArgs false

/-- What freezing leaves: the binding in blocks up to below mid, the facts from there on. -/
def FzO (w : World) (F : FL) (us vs : List Int) (ok : Bool) (e : Ending) (w' : World) : Prop :=
  ∃ (A : Option Addr) (c : Nat) (X : Option Addr) (cx : Nat) (Y : Option Addr) (cy mid : Nat), e = .returned (.tuple #[.slice A F.length c, .agg #[.slice X us.length cx, .slice Y vs.length cy], .bool ok]) ∧ BR w' w.heap.size mid X cx Y cy (us, vs) ∧ POf w' mid w'.heap.size A c F ∧ w.heap.size + 2 ≤ mid ∧ Below w.heap.size w w'

theorem br_two {w : World} {lo m1 mid cx cy q1 q2 : Nat} {X Y : Option Addr} {us vs : List Int} (h1 : OwnV w lo m1 (.slice X us.length cx) q1 us) (h2 : OwnV w m1 mid (.slice Y vs.length cy) q2 vs) (ha : lo < m1) (hb : m1 < mid) (hm : mid ≤ w.heap.size) :
    BR w lo mid X cx Y cy (us, vs) := by
  obtain ⟨A, c, e, a1, a2, a3⟩ := h1
  obtain ⟨B, d, e', b1, b2, b3⟩ := h2
  refine ⟨if 0 < us.length then q1 else lo, if 0 < vs.length then q2 else m1, ⟨A, c, e, a1, a2, fun hp => ?_⟩, ⟨B, d, e', b1, b2, fun hp => ?_⟩, ?_, ?_, ?_, ?_, ?_, hm⟩
  · obtain ⟨x1, x2, x3, x4⟩ := a3 hp
    rw [if_pos hp]
    exact ⟨x1, Nat.le_refl _, Nat.lt_succ_self _, x4⟩
  · obtain ⟨x1, x2, x3, x4⟩ := b3 hp
    rw [if_pos hp]
    exact ⟨x1, Nat.le_refl _, Nat.lt_succ_self _, x4⟩
  · split
    · rename_i hp; exact (a3 hp).2.1
    · exact Nat.le_refl _
  · split
    · rename_i hp; have := (a3 hp).2.2.1; omega
    · show lo < mid; omega
  · split
    · rename_i hp; have := (b3 hp).2.1; omega
    · show lo ≤ m1; omega
  · split
    · rename_i hp; have := (b3 hp).2.2.1; omega
    · exact hb
  · have h3 : (if 0 < us.length then q1 else lo) < m1 := by
      split
      · rename_i hp; exact (a3 hp).2.2.1
      · exact ha
    have h4 : m1 ≤ (if 0 < vs.length then q2 else m1) := by
      split
      · rename_i hp; exact (b3 hp).2.1
      · exact Nat.le_refl _
    exact fun e => by
      have e2 : (if 0 < us.length then q1 else lo) = (if 0 < vs.length then q2 else m1) := e
      omega

theorem POf.widen {w : World} {lo lo' hi c : Nat} {A : Option Addr} {fs : FL} (h : POf w lo hi A c fs) (h1 : lo' ≤ lo) (h2 : hi ≤ w.heap.size) : POf w lo' w.heap.size A c fs := by
  obtain ⟨_, h⟩ := h
  refine ⟨Nat.le_refl _, ?_⟩
  rcases h with h | ⟨g, e, ⟨a1, a2, F, bs, a3, a4, a5⟩, b1, b2⟩
  · exact .inl h
  · exact .inr ⟨g, e, ⟨by omega, by omega, F, bs, a3, fun j hj => ⟨(a4 j hj).1, (a4 j hj).2.mono h1 h2⟩, a5⟩, Nat.le_refl _, b2⟩

set_option maxRecDepth 100000 in
set_option maxHeartbeats 4000000 in
theorem freezeApart_any (H Q G : Option Addr) (ch c cg : Nat) (hs : List Int) (l : FL) (gv : List Int) (hh : hs.length ≤ 1048576) (hz : szF l ≤ 1048576) (hg : gv.length ≤ 1000) (w : World) (hq : RF w Q l) (hgv : RI w G gv) :
    Calls Tryz.prog 91 #[.agg #[.slice H hs.length ch, .slice Q l.length c], .slice G gv.length cg] w (FzO w (frzR (wl 0 9 (terms l) ++ gv) (wl 10 17 (terms l)) l) (frzL (wl 0 9 (terms l) ++ gv) (wl 10 17 (terms l))) (frzV (wl 0 9 (terms l) ++ gv) (wl 10 17 (terms l))) (frzO (wl 0 9 (terms l) ++ gv) (wl 10 17 (terms l)))) := by
  obtain ⟨i0, hi, hz0, hz1, hz2⟩ := info_parts int_info
  have hl := szF_len hz
  have hl' : (l.length : Int) ≤ 1048576 := by omega
  obtain ⟨w0, hw0⟩ : ∃ W, W = (w.alloc (.cells #[.slice H hs.length ch, .slice Q l.length c] 29)).alloc (.cells #[.slice none 0 0, .slice none 0 0] 100) := ⟨_, rfl⟩
  have E0 := Lib.hid hw0
  have S0 : w.heap.size + 2 ≤ w0.heap.size := by rw [hw0, al_size, al_size]; omega
  have B0 := Lib.hid (show Below w.heap.size w w0 by rw [hw0]; exact step (below_alloc w _) (below_alloc _ _))
  have X0 := Lib.hid (show Box w0 w.heap.size #[.slice H hs.length ch, .slice Q l.length c] 29 by rw [hw0]; exact (Box.new w _ _).step (below_alloc _ _))
  have R0 := Lib.hid (show Box w0 (w.heap.size + 1) #[.slice none 0 0, .slice none 0 0] 100 by
    rw [hw0]
    have h := Box.new (w.alloc (.cells #[.slice H hs.length ch, .slice Q l.length c] 29)) #[.slice none 0 0, .slice none 0 0] 100
    rwa [al_size] at h)
  have XC := Lib.hid (impl_ConstantsOf H Q ch c hs l hz w0 (hq.step B0.out))
  have XV := Lib.hid fun (W : World) (b : Below w.heap.size w W) => impl_VarsOf H Q ch c hs l hz W (hq.step b)
  have HQ := Lib.hid hq
  have HG := Lib.hid hgv
  have hcl := wl_len 0 9 (terms l)
  have hvl := wl_len 10 17 (terms l)
  generalize wl 0 9 (terms l) = cs at XC hcl ⊢
  generalize wl 10 17 (terms l) = us at XV hvl ⊢
  have hcl2 : cs.length ≤ 10 := by omega
  have hvl2 : us.length ≤ 8 := by omega
  obtain ⟨used, hu⟩ : ∃ u, u = cs ++ gv := ⟨_, rfl⟩
  rw [← hu]
  have hul : used.length ≤ 1010 := by rw [hu, List.length_append]; omega
  have HU := Lib.hid hu
  clear hq hgv hw0 hcl hvl hu
  go_enter Tryz.func91, Tryz.ntmps91
  go_wp2_with fail
  rw [← E0.out]
  refine XC.out.mono ?_
  rintro e u1 ⟨v1, rfl, ho1, d1⟩
  obtain ⟨A1, c1, rfl⟩ := ownsRow_form ho1
  have B1 := Lib.hid (step B0.out d1)
  have X1 := Lib.hid (X0.out.step d1)
  have R1 := Lib.hid (R0.out.step d1)
  have O1 := Lib.hid ho1
  have hb1 := d1.size
  clear ho1 d1
  go_wp2_with (at_builtin; refine wpList_append_nums rfl _ _ 22 rfl w0.heap.size 3 i0 Tryz.underlying22 hi hz0 hz1 hz2 (.slice A1 cs.length c1) cs.length (cs.map (Value.int .i64)) rfl O1.out _ _ G cg gv rfl (HG.out.step B1.out) (by omega) hb1 ?_; intro v2 u2 hown2 hg2 hat2
               have hown2' : u2.ownsRow w0.heap.size 3 1 v2 used.length (used.map (Value.int .i64)) := by rw [HU.out, List.length_append, List.map_append]; exact hown2
               obtain ⟨A2, c2, rfl⟩ := ownsRow_form hown2'
               have D2 := Lib.hid (show Below w0.heap.size u1 u2 from (Below.refl _ _).grown hg2 hb1 (fun k hk => (O1.out.lt k hk).1))
               have T2 := Lib.hid (show RI u2 A2 used from (row_ri hown2' rfl).1)
               have X2 := Lib.hid (show Box u2 w.heap.size #[.slice H hs.length ch, .slice Q l.length c] 29 from (D2.out.block _ (by omega)).trans X1.out)
               have x02 := X2.out.cell 0
               have x12 := X2.out.cell 1
               simp only [List.getElem?_toArray, List.getElem?_cons_zero, List.getElem?_cons_succ] at x02 x12
               clear hown2 hown2' hg2 hat2)
  have R2 := Lib.hid (show Box u2 (w.heap.size + 1) #[.slice none 0 0, .slice none 0 0] 100 from (D2.out.block _ (by omega)).trans R1.out)
  have B2 := Lib.hid (B1.out.trans (D2.out.mono (by omega)))
  have s2 : w.heap.size + 2 ≤ u2.heap.size := by have := D2.out.size; omega
  refine (XV.out _ B2.out).mono ?_
  rintro e u3 ⟨v3, rfl, ho3, d3⟩
  obtain ⟨X3a, c3, rfl⟩ := ownsRow_form ho3
  obtain ⟨q3, hv3⟩ := ownV_of_row ho3
  have V3 := Lib.hid hv3
  have B3 := Lib.hid (step B2.out d3)
  have X3 := Lib.hid (X2.out.step d3)
  have R3 := Lib.hid (R2.out.step d3)
  have T3 := Lib.hid (T2.out.step d3)
  have s3 := d3.size
  clear ho3 hv3 d3 x02 x12
  obtain ⟨gb, hgb⟩ : ∃ g, g = u3.heap.size := ⟨_, rfl⟩
  have h4 := below_alloc u3 (.cells #[.slice X3a us.length c3, .slice none 0 0] 100)
  have Y4 := Lib.hid (show Box (u3.alloc (.cells #[.slice X3a us.length c3, .slice none 0 0] 100)) gb #[.slice X3a us.length c3, .slice none ([] : List Int).length 0] 100 by rw [hgb]; exact Box.new _ _ _)
  have D4 := Lib.hid (show Below gb u3 (u3.alloc (.cells #[.slice X3a us.length c3, .slice none 0 0] 100)) by rw [hgb]; exact h4)
  have S4 : gb + 1 ≤ (u3.alloc (.cells #[.slice X3a us.length c3, .slice none 0 0] 100)).heap.size := by rw [al_size, hgb]; exact Nat.le_refl _
  have GB := Lib.hid hgb
  have gl : w.heap.size + 2 ≤ gb := by omega
  have gl3 : u2.heap.size ≤ gb := by omega
  clear h4
  go_wp2
  rw [← hgb]
  obtain ⟨w4, hw4⟩ : ∃ W, W = u3.alloc (.cells #[.slice X3a us.length c3, .slice none 0 0] 100) := ⟨_, rfl⟩
  rw [← hw4] at Y4 D4 S4 ⊢
  clear hw4 hgb
  go_loopw [9, 20] (fun _ i wr => ∃ (k : Nat) (vs : List Int) (Y : Option Addr) (cy : Nat), k ≤ 10 ∧ i = .int .i64 k ∧ Hid (vs = (frV used k).take us.length) ∧ Box wr gb #[.slice X3a us.length c3, .slice Y vs.length cy] 100 ∧ Hid (wr.ownsRow (gb + 1) 3 1 (.slice Y vs.length cy) vs.length (vs.map (Value.int .i64))) ∧ Hid (Below gb u3 wr) ∧ gb + 1 ≤ wr.heap.size) (fun _ i _ => 10 - (intOf i).toNat)
  case atStart => exact ⟨0, [], none, 0, by omega, rfl, Lib.hid (by simp [frV]), Y4.out, Lib.hid (World.ownsRow_nil _ _ _ _), D4, S4⟩
  case round =>
    obtain ⟨k, vs, Y, cy, hk, rfl, hV, hY0, hO, hD, hsz⟩ := hrel
    have hY := Lib.hid hY0
    clear hY0
    have y0 := hY.out.cell 0
    have y1 := hY.out.cell 1
    have y3 := hY.out.frozen 1
    simp only [List.getElem?_toArray, List.getElem?_cons_zero, List.getElem?_cons_succ] at y0 y1
    have hvk : vs.length ≤ 10 := by have := tak_len (used := used) (n := k) (m := us.length); rw [← hV.out] at this; omega
    have DW := Lib.hid (show Below u3.heap.size u3 wr by have := hD.out; rwa [GB.out] at this)
    by_cases hlt : k < 10
    · by_cases hm : vs.length < us.length
      · have hm' : (vs.length : Int) < (us.length : Int) := by omega
        have XN := Lib.hid (contains_any _ _ A2 c2 used k (by omega) wr (T3.out.step DW.out))
        have MM := Lib.hid hm
        by_cases hc : decide ((k : Int) ∈ used) = true
        · have C := Lib.hid hc
          have E := Lib.hid (show vs = (frV used (k + 1)).take us.length by rw [tak_used hc]; exact hV.out)
          clear hc hm
          go_wp2_with fail
          refine XN.out.mono ?_
          rintro e w1 ⟨he, rfl⟩
          rw [C.out] at he
          subst he
          go_wp2
          go_roundw
          case rel => exact ⟨k + 1, vs, Y, cy, by omega, by go_num, E, hY.out, hO, hD, hsz⟩
          case measure => simp [intOf]; omega
        · have C := Lib.hid (show decide ((k : Int) ∈ used) = false by simpa using hc)
          have E := Lib.hid (show vs ++ [(k : Int)] = (frV used (k + 1)).take us.length by rw [tak_more (by rw [← hV.out]; exact MM.out) C.out, ← hV.out])
          clear hc hm
          go_wp2_with fail
          refine XN.out.mono ?_
          rintro e w1 ⟨he, rfl⟩
          rw [C.out] at he
          subst he
          go_wp2_with (at_builtin; refine wpList_push rfl _ _ _ 3 rfl i0 Tryz.underlying22 hi (.int .i64 0) 8 hz0 hz1 hz2 rfl (by omega) rfl rfl rfl hO.out (Below.refl _ wr) hsz (by omega) ?_; intro v7 w7 hown7 hb7 hsz7
                       obtain ⟨A7, c7, rfl⟩ := ownsRow_form hown7
                       have y17 := (hb7.cell (p := ⟨gb, 1, none⟩) (by (try simp) <;> omega)).trans y1
                       have y37 := (hb7.frozen (p := ⟨gb, 1, none⟩) (by (try simp) <;> omega)).trans y3
                       have O7 := Lib.hid hown7
                       have D7 := Lib.hid hb7
                       clear hown7 hb7)
          go_roundw
          case rel =>
            refine ⟨k + 1, vs ++ [(k : Int)], A7, c7, by omega, by go_num, E, ?_, Lib.hid ?_, Lib.hid ((hD.out.trans (D7.out.mono (by omega))).setCell (Nat.le_refl _) _), by rw [set_size]; omega⟩
            · rw [List.length_append]
              exact box_set1 (show Box w7 gb #[.slice X3a us.length c3, .slice Y vs.length cy] 100 from (D7.out.block _ (by omega)).trans hY.out)
            · rw [List.length_append, List.map_append]
              exact ownsRow_set O7.out (show gb < gb + 1 by omega)
          case measure => simp [intOf]; omega
      · have hm' : ¬ (vs.length : Int) < (us.length : Int) := by omega
        have E := Lib.hid (show vs = (frV used (k + 1)).take us.length by rw [tak_full (by rw [← hV.out]; exact hm)]; exact hV.out)
        clear hm
        go_wp2
        go_roundw
        case rel => exact ⟨k + 1, vs, Y, cy, by omega, by go_num, E, hY.out, hO, hD, hsz⟩
        case measure => simp [intOf]; omega
    · obtain rfl : k = 10 := by omega
      have R5 := Lib.hid (show Box wr (w.heap.size + 1) #[.slice none 0 0, .slice none 0 0] 100 from (hD.out.block _ (by omega)).trans R3.out)
      have B5 := Lib.hid (B3.out.trans (hD.out.mono (by omega)))
      have r0 := R5.out.cell 0
      have r1 := R5.out.cell 1
      have r2 := R5.out.frozen 0
      have r3 := R5.out.frozen 1
      simp only [List.getElem?_toArray, List.getElem?_cons_zero, List.getElem?_cons_succ] at r0 r1
      by_cases hm : vs.length < us.length
      · have hm' : (vs.length : Int) < (us.length : Int) := by omega
        have FN := Lib.hid (frz_no (used := used) (vars := us) l (by have := hV.out; rw [this, List.length_take] at hm; omega))
        clear hm
        go_wp2
        refine bodyPost_ret (v := .tuple #[.slice none 0 0, .agg #[.slice none 0 0, .slice none 0 0], .bool false]) (by simp [results, Tryz.results91, go_sem, r0, r1, r2, r3]) rfl ?_
        rw [FN.out.1, FN.out.2.1, FN.out.2.2.1, FN.out.2.2.2]
        have nilV : ∀ (W : World) (lo hi q : Nat), OwnV W lo hi (.slice none ([] : List Int).length 0) q [] := fun W lo hi q => ⟨none, 0, rfl, Nat.le_refl _, by unfold maxLen; omega, fun h => absurd h (by simp)⟩
        refine ⟨none, 0, none, 0, none, 0, w.heap.size + 2, rfl, br_two (q1 := 0) (q2 := 0) (m1 := w.heap.size + 1) (nilV _ _ _ _) (nilV _ _ _ _) (by omega) (by omega) (by rw [size2]; omega), ⟨Nat.le_refl _, .inl rfl⟩, Nat.le_refl _, ?_⟩
        exact Below.setCell (Below.setCell B5.out (by (try simp) <;> omega) _) (by (try simp) <;> omega) _
      · have hm' : ¬ (vs.length : Int) < (us.length : Int) := by omega
        have FY := Lib.hid (frz_yes (used := used) (vars := us) l (by have := hV.out; rw [this, List.length_take] at hm; omega))
        have X5 := Lib.hid (show Box wr w.heap.size #[.slice H hs.length ch, .slice Q l.length c] 29 from (hD.out.block _ (by omega)).trans X3.out)
        have x1 := X5.out.cell 1
        simp only [List.getElem?_toArray, List.getElem?_cons_zero, List.getElem?_cons_succ] at x1
        have HQ5 := Lib.hid (HQ.out.step B5.out)
        have UU := Lib.hid (RI.step (show RI u3 X3a us from (V3.out.ints).2.2.2.mono (Nat.zero_le _) (Nat.le_refl _)) DW.out)
        have VV := Lib.hid (row_ri hO.out rfl).1
        have VX := Lib.hid (show OwnV wr u2.heap.size u3.heap.size (.slice X3a us.length c3) q3 us from V3.out.keep fun _ b _ => DW.out.block _ b)
        obtain ⟨q7, h7⟩ := ownV_of_row hO.out
        have VY := Lib.hid h7
        have GB2 := Lib.hid (show u3.heap.size = gb from GB.out.symm)
        have VE := Lib.hid (show vs = (frV used 10).take us.length from hV.out)
        have s5 : w.heap.size + 3 ≤ wr.heap.size := by omega
        generalize wr = wo at *
        clear hm hO hD hV r0 r1 r2 r3
        go_wp2
        go_loopw [10, 12, 54] (fun o _ i wr => ∃ (k : Nat) (A : Option Addr) (cA lo hi' : Nat) (F : FL), k ≤ l.length ∧ i = .int .i64 k ∧ o = .slice A F.length cA ∧ Hid (F = frzF us vs (l.take k)) ∧ Hid (POf wr lo hi' A cA F) ∧ wo.heap.size ≤ lo ∧ Hid (Below wo.heap.size wo wr)) (fun _ _ i _ => l.length - (intOf i).toNat)
        case atStart => exact ⟨0, none, 0, wo.heap.size, wo.heap.size, [], by omega, rfl, rfl, Lib.hid rfl, Lib.hid ⟨Nat.le_refl _, .inl rfl⟩, Nat.le_refl _, Lib.hid (Below.refl _ _)⟩
        case round =>
          obtain ⟨k, A, cA, lo, hi', F, hk, rfl, rfl, hF, hP, hlo, hB⟩ := hrel
          have Y8 := Lib.hid (hY.out.step hB.out)
          clear y0 y1 y3
          have y0 := Y8.out.cell 0
          have y1 := Y8.out.cell 1
          simp only [List.getElem?_toArray, List.getElem?_cons_zero, List.getElem?_cons_succ] at y0 y1
          have hk0 : (0 : Int) ≤ (k : Int) := by omega
          by_cases hlt : k < l.length
          · generalize hf : l.getD k (0, []) = f
            obtain ⟨r, xs⟩ := f
            have hxl : xs.length ≤ 1048576 := by have := szF_elem hz hlt; rw [hf] at this; exact this
            have hk1 : (k : Int) < (l.length : Int) := by omega
            have FT := Lib.hid (frzF_take us vs l hlt hf)
            obtain ⟨b, off, B, c5, rfl, nb, e0, e1, _, hcm, hJ⟩ := (HQ5.out.step hB.out).at_ hlt hf
            have ba := below_alloc wr (.cells #[.int .i64 r, .slice B xs.length c5] 67)
            have YL := Y8.out.lt
            have XF := Lib.hid (factFor_any r B X3a Y c5 c3 cy xs us vs hxl (by omega) (by omega) _ (hJ.step ba) ((UU.out.step hB.out).step ba) ((VV.out.step hB.out).step ba))
            have SZ := Lib.hid (szF_frzA us vs l k hk hz)
            clear hf hJ ba
            go_wp2_with fail
            refine XF.out.mono ?_
            rintro e u5 ⟨v5, rfl, A5, c6, rfl, r5, _, d5⟩
            have D5 := Lib.hid (below_new d5)
            have RR := Lib.hid r5
            have XA := Lib.hid (impl_AddFact_o A cA F r (tupV us vs xs) A5 c6 (by rw [hF.out]; exact SZ.out) (by rw [tupV_len]; exact hxl) u5 ((hP.out.rf).step D5.out) RR.out.1)
            clear d5 r5
            go_wp2_with fail
            refine XA.out.mono ?_
            rintro e u6 he
            obtain ⟨A7, c7, rfl, P7, b7⟩ := he.toPOf
            have PP := Lib.hid P7
            have B7 := Lib.hid (step (step hB.out D5.out) b7)
            have s7 := D5.out.size
            have s8 := hB.out.size
            clear he P7 b7 y0 y1 e0 e1
            go_wp2
            go_roundw
            case rel => exact ⟨k + 1, A7, c7, u5.heap.size, u6.heap.size, _, by omega, by go_num, rfl, Lib.hid (by rw [FT.out, hF.out]), PP, by omega, B7⟩
            case measure => simp [intOf]; omega
          · obtain rfl : k = l.length := by omega
            have FE := Lib.hid (show F = frzF us vs l by rw [hF.out, List.take_length])
            have R8 := Lib.hid (R5.out.step hB.out)
            have r0 := R8.out.cell 0
            have r1 := R8.out.cell 1
            have r2 := R8.out.frozen 0
            have r3 := R8.out.frozen 1
            simp only [List.getElem?_toArray, List.getElem?_cons_zero, List.getElem?_cons_succ] at r0 r1
            have rl := R8.out.lt
            go_wp2
            go_region
            all_goals
              go_wp2
              refine bodyPost_ret (v := .tuple #[.slice A F.length cA, .agg #[.slice X3a us.length c3, .slice Y vs.length cy], .bool true]) (by simp [results, Tryz.results91, go_sem, r0, r1, r2, r3]) rfl ?_
              rw [FY.out.1, FY.out.2.1, FY.out.2.2.1, FY.out.2.2.2, ← VE.out, ← FE.out]
              refine ⟨A, cA, X3a, c3, Y, cy, wo.heap.size, rfl, ?_, ?_, by omega, ?_⟩
              · have k1 := (VX.out.keep fun _ b _ => hB.out.block _ (by have := GB2.out; omega)).mono (show w.heap.size + 2 ≤ u2.heap.size from s2) (Nat.le_of_eq GB2.out)
                have k2 := (VY.out.keep fun _ b _ => hB.out.block _ b)
                have k3 := (k1.keep fun a _ _ => Below.heap_setCell _ ⟨w.heap.size + 1, 0, none⟩ (.slice X3a us.length c3) q3 (by (try simp); omega)).keep fun a _ _ => Below.heap_setCell _ ⟨w.heap.size + 1, 1, none⟩ (.slice Y vs.length cy) q3 (by (try simp); omega)
                have k4 := (k2.keep fun a _ _ => Below.heap_setCell _ ⟨w.heap.size + 1, 0, none⟩ (.slice X3a us.length c3) q7 (by (try simp); omega)).keep fun a _ _ => Below.heap_setCell _ ⟨w.heap.size + 1, 1, none⟩ (.slice Y vs.length cy) q7 (by (try simp); omega)
                exact br_two (k3.mono (by omega) (Nat.le_refl _)) (k4.mono (Nat.le_succ _) (Nat.le_refl _)) (by omega) (by omega) (Nat.le_trans hB.out.size (Nat.le_of_eq (size2 wr ⟨w.heap.size + 1, 0, none⟩ ⟨w.heap.size + 1, 1, none⟩ (.slice X3a us.length c3) (.slice Y vs.length cy)).symm))
              · have g1 := POf.keep (w' := (wr.setCell ⟨w.heap.size + 1, 0, none⟩ (.slice X3a us.length c3)).setCell ⟨w.heap.size + 1, 1, none⟩ (.slice Y vs.length cy)) hP.out (fun b h1 _ => (Below.heap_setCell _ ⟨w.heap.size + 1, 1, none⟩ _ b (by (try simp); omega)).trans (Below.heap_setCell _ ⟨w.heap.size + 1, 0, none⟩ _ b (by (try simp); omega))) (Nat.le_of_eq (size2 wr _ _ _ _).symm)
                exact g1.widen hlo g1.1
              · have g2 : Below w.heap.size w ((wr.setCell ⟨w.heap.size + 1, 0, none⟩ (.slice X3a us.length c3)).setCell ⟨w.heap.size + 1, 1, none⟩ (.slice Y vs.length cy)) := Below.setCell (Below.setCell (step B5.out hB.out) (by (try simp) <;> omega) _) (by (try simp) <;> omega) _
                exact ⟨g2.os, g2.tape, g2.output, g2.size, g2.block⟩


/-- Binding rows behind stores into a block ahead of them. -/
theorem BR.shift {w w' : World} {lo mid cx cy : Nat} {X Y : Option Addr} {p : PL} (h : BR w lo mid X cx Y cy p) (hk : ∀ b, lo ≤ b → b < mid → w'.heap[b]? = w.heap[b]?) (hs : w.heap.size ≤ w'.heap.size) {lo' : Nat} (hl : lo' ≤ lo) : BR w' lo' mid X cx Y cy p := by
  obtain ⟨q1, q2, h1, h2, h3, h4, h5, h6, h7, h8⟩ := h.keep hk hs
  exact ⟨q1, q2, h1, h2, by omega, h4, by omega, h6, h7, h8⟩

end Go.Proofs.YtimlpdcambmcjaaGreat
