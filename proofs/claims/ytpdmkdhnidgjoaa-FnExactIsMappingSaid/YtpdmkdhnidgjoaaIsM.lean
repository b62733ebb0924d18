/- What the two functions IsMapping answer. Conditions: none beyond each theorem's own. -/
import Derived.Test.YtpdmkdhnidgjoaaTuV
import Derived.Test.YtpdmkdhnidgjoaaHas
import Derived.Test.YtpdmkdhnidgjoaaIntEq
import Derived.Test.YtpdmkdhnidgjoaaRowV
namespace Go.Proofs.Ytpdmkdhnidgjoaa
open Go.ChangeShapes Go.WideShapes Go.ChangeAt Go.RowKit Go.Sort
set_option linter.unusedVariables false
set_option linter.unusedSimpArgs false

/-- Are the first n atoms of l, with their terms' worth, among the facts? -/
def allHas (us vs : List Int) (fs l : FL) (n : Nat) : Bool := (List.range n).all fun k => hasB fs (l.getD k (0, [])).1 (tupV us vs (l.getD k (0, [])).2)
theorem allHas_succ (us vs : List Int) (fs l : FL) (k : Nat) : allHas us vs fs l (k + 1) = (allHas us vs fs l k && hasB fs (l.getD k (0, [])).1 (tupV us vs (l.getD k (0, [])).2)) := by
  unfold allHas
  rw [List.range_succ, List.all_append]
  simp
theorem allHas_not (us vs : List Int) (fs l : FL) (k n : Nat) (hk : k < n) (h : hasB fs (l.getD k (0, [])).1 (tupV us vs (l.getD k (0, [])).2) = false) : allHas us vs fs l n = false := by
  unfold allHas
  rw [List.all_eq_false]
  exact ⟨k, by simpa using hk, by rw [h]; simp⟩
def mapB (us vs hs head : List Int) (l fs : FL) : Bool := decide (us.length = vs.length) && decide (tupV us vs hs = head) && allHas us vs fs l l.length
theorem mapB_len {us vs hs head : List Int} {l fs : FL} (h : ¬ us.length = vs.length) : mapB us vs hs head l fs = false := by simp [mapB, h]
theorem mapB_head {us vs hs head : List Int} {l fs : FL} (h : ¬ tupV us vs hs = head) : mapB us vs hs head l fs = false := by simp [mapB, h]
theorem mapB_all {us vs hs head : List Int} {l fs : FL} (h : us.length = vs.length) (h' : tupV us vs hs = head) : mapB us vs hs head l fs = allHas us vs fs l l.length := by simp [mapB, h, h']

theorem row_ri {w : World} {base n c : Nat} {A : Option Addr} {xs : List Int} (h : w.ownsRow base 3 1 (.slice A n c) n (xs.map (Value.int .i64))) (hn : n = xs.length) : RI w A xs ∧ xs.length ≤ c ∧ c ≤ maxLen := by
  subst hn
  obtain ⟨q, hv⟩ := ownV_of_row h
  have h2 := hv.ints
  exact ⟨h2.2.2.2.mono (Nat.zero_le _) (Nat.le_refl _), h2.2.1, h2.2.2.1⟩

set_option maxRecDepth 100000 in
set_option maxHeartbeats 2000000 in
theorem spec_IsMapping (H Q F D U V : Option Addr) (ch c cf cd cu cv : Nat) (hs : List Int) (l fs : FL) (head us vs : List Int) (hh : hs.length ≤ 1048576) (hz : szF l ≤ 1048576) (hzf : szF fs ≤ 1048576) (hd : head.length ≤ 1048576) (hu : us.length ≤ 1048576) (hv : vs.length ≤ 1048576) (w : World)
    (h : RI w H hs) (hq : RF w Q l) (hf : RF w F fs) (hd' : RI w D head) (h1 : RI w U us) (h2 : RI w V vs) :
    Calls Try.prog 34 #[.agg #[.slice H hs.length ch, .slice Q l.length c], .slice F fs.length cf, .slice D head.length cd, .agg #[.slice U us.length cu, .slice V vs.length cv]] w fun e w' => e = .returned (.bool (mapB us vs hs head l fs)) ∧ Below w.heap.size w w' := by
  obtain ⟨i0, hi, hz0, hz1, hz2⟩ := info_parts int_info
  have hl := szF_len hz
  have hl' : (l.length : Int) ≤ 1048576 := by omega
  obtain ⟨w0, hw0⟩ : ∃ W, W = (w.alloc (.cells #[.slice H hs.length ch, .slice Q l.length c] 34)).alloc (.cells #[.slice U us.length cu, .slice V vs.length cv] 29) := ⟨_, rfl⟩
  have E0 := Lib.hid hw0
  have B0 := Lib.hid (show Below w.heap.size w w0 by rw [hw0]; exact step (below_alloc w _) (below_alloc _ _))
  have X0 := Lib.hid (show Box w0 w.heap.size #[.slice H hs.length ch, .slice Q l.length c] 34 by rw [hw0]; exact (Box.new w _ _).step (below_alloc _ _))
  have Y0 := Lib.hid (show Box w0 (w.heap.size + 1) #[.slice U us.length cu, .slice V vs.length cv] 29 by
    rw [hw0]
    have h := Box.new (w.alloc (.cells #[.slice H hs.length ch, .slice Q l.length c] 34)) #[.slice U us.length cu, .slice V vs.length cv] 29
    rwa [al_size] at h)
  by_cases c1 : us.length = vs.length
  · have d1 : ((us.length : Int) != (vs.length : Int)) = false := by simp; omega
    have C1 := Lib.hid c1
    have XT := Lib.hid (spec_TupleOf H Q U V ch c cu cv hs l us vs hh hu hv w0 (h.step B0.out) (h1.step B0.out) (h2.step B0.out))
    have HQ := Lib.hid hq
    have HF := Lib.hid hf
    have HD := Lib.hid hd'
    have HU := Lib.hid h1
    have HV := Lib.hid h2
    clear h hq hf hd' h1 h2 hw0 c1
    go_enter Try.func34, Try.ntmps34
    go_wp2_with fail
    rw [← E0.out]
    refine XT.out.mono ?_
    rintro e w1 ⟨v1, rfl, ho1, d1'⟩
    obtain ⟨A1, ca1, rfl⟩ := ownsRow_form ho1
    have R1 := Lib.hid (row_ri ho1 rfl).1
    have B1 := Lib.hid (step B0.out d1')
    have X1 := Lib.hid (X0.out.step d1')
    have Y1 := Lib.hid (Y0.out.step d1')
    have XI := Lib.hid (l2Ints_any _ _ _ _ A1 D ca1 cd (tupV us vs hs) head (by rw [tupV_len]; omega) (by omega) w1 R1.out (HD.out.step B1.out))
    clear ho1 d1'
    by_cases c2 : tupV us vs hs = head
    · have D2 := Lib.hid (show decide (tupV us vs hs = head) = true by simpa using c2)
      have E := Lib.hid (mapB_all (l := l) (fs := fs) C1.out c2)
      clear c2
      generalize tupV us vs hs = th at XI D2 R1 ⊢
      go_wp2_with fail
      refine XI.out.mono ?_
      rintro e w2 ⟨he, d2⟩
      rw [D2.out] at he
      subst he
      have B2 := Lib.hid (step B1.out d2)
      have X2 := Lib.hid (X1.out.step d2)
      have Y2 := Lib.hid (Y1.out.step d2)
      clear d2
      go_wp2
      go_loopw [9, 10, 11] (fun i _ _ wr => ∃ (k : Nat), k ≤ l.length ∧ i = .int .i64 k ∧ Hid (allHas us vs fs l k = true) ∧ Hid (Box wr w.heap.size #[.slice H hs.length ch, .slice Q l.length c] 34) ∧ Hid (Box wr (w.heap.size + 1) #[.slice U us.length cu, .slice V vs.length cv] 29) ∧ Hid (Below w.heap.size w wr)) (fun i _ _ _ => l.length - (intOf i).toNat)
      case atStart => exact ⟨0, by omega, rfl, Lib.hid rfl, X2, Y2, B2⟩
      case round =>
        obtain ⟨k, hk, rfl, hA, hX, hY, hB⟩ := hrel
        have x1 := hX.out.cell 1
        simp only [List.getElem?_toArray, List.getElem?_cons_zero, List.getElem?_cons_succ] at x1
        have hk0 : (0 : Int) ≤ (k : Int) := by omega
        by_cases hlt : k < l.length
        · generalize hf : l.getD k (0, []) = f
          obtain ⟨r, xs⟩ := f
          have hxl : xs.length ≤ 1048576 := by have := szF_elem hz hlt; rw [hf] at this; exact this
          have hxl' : (xs.length : Int) ≤ 1048576 := by omega
          have hk1 : (k : Int) < (l.length : Int) := by omega
          have HL := Lib.hid hf
          obtain ⟨b, off, B, c3, rfl, hb, e0, e1, _, hcm, hJ⟩ := (HQ.out.step hB.out).at_ hlt hf
          have E1 := Lib.hid e1
          have HJ := Lib.hid hJ
          have hyl := hY.out.lt
          have F0 := Lib.hid (Box.new wr #[.int .i64 r, .slice none 0 0] 70)
          obtain ⟨wf, hwf⟩ : ∃ W, W = wr.alloc (.cells #[.int .i64 r, .slice none 0 0] 70) := ⟨_, rfl⟩
          have BF := Lib.hid (show Below wr.heap.size wr wf by rw [hwf]; exact below_alloc _ _)
          have ZF : wr.heap.size + 1 = wf.heap.size := by rw [hwf, al_size]
          rw [← hwf] at F0
          have EF := Lib.hid hwf
          generalize wr = wo at *
          clear hf e1 hJ hwf
          go_wp2_with fail
          go_loopw [11] (fun i wr => ∃ (j : Nat) (A : Option Addr) (ca : Nat), j ≤ xs.length ∧ i = .int .i64 j ∧ Box wr wo.heap.size #[.int .i64 r, .slice A j ca] 70 ∧ wr.ownsRow (wo.heap.size + 1) 3 1 (.slice A j ca) j ((tupV us vs (xs.take j)).map (Value.int .i64)) ∧ Below wo.heap.size wo wr ∧ wo.heap.size + 1 ≤ wr.heap.size) (fun i _ => xs.length - (intOf i).toNat)
          case atStart =>
            rw [← EF.out]
            exact ⟨0, none, 0, by omega, rfl, F0.out, ⟨by simp [tupV], .inl ⟨rfl, rfl⟩⟩, BF.out, by omega⟩
          case round =>
            obtain ⟨j, A, ca, hj, rfl, hG, hown, hb2, hsz⟩ := hrel
            have HG := Lib.hid hG
            have HO := Lib.hid hown
            have HB := Lib.hid hb2
            clear hG hown hb2 x1 e0
            have X3 := Lib.hid (hX.out.step HB.out)
            have Y3 := Lib.hid (hY.out.step HB.out)
            have x1 := X3.out.cell 1
            have y0 := Y3.out.cell 0
            have y1 := Y3.out.cell 1
            have q0 := HG.out.cell 0
            have q1 := HG.out.cell 1
            have q2 := HG.out.frozen 0
            have q3 := HG.out.frozen 1
            simp only [List.getElem?_toArray, List.getElem?_cons_zero, List.getElem?_cons_succ] at x1 y0 y1 q0 q1
            have e1 := (HB.out.cell (p := ⟨b, off + k * 2 + 1, none⟩) hb).trans E1.out
            have hj0 : (0 : Int) ≤ (j : Int) := by omega
            by_cases hjt : j < xs.length
            · have hj1 : (j : Int) < (xs.length : Int) := by omega
              obtain ⟨b2, off2, rfl, nb2, et⟩ := (HJ.out.step HB.out).at_ hjt
              generalize hx : xs.getD j 0 = t at et
              have TT := Lib.hid (tupV_take us vs xs hjt hx)
              have XV := Lib.hid fun (W : World) (b : Below wr.heap.size wr W) => spec_ValueOf U V cu cv us vs t hu hv W (((HU.out.step hB.out).step HB.out).step b) (((HV.out.step hB.out).step HB.out).step b)
              generalize bval us vs t = y at TT XV
              clear hx
              go_wp2
              go_region_law (first
                | (refine callV2 rfl 49 _ _ _ _ rfl (.agg #[.slice U us.length cu, .slice V vs.length cv]) (.int .i64 t) rfl rfl (by kernel_rfl) (R := fun v' w' => v' = .int .i64 y ∧ Below wr.heap.size wr w') ((XV.out _ (by first | exact Below.refl _ _ | exact below_drew _)).mono (fun e w' h => ⟨_, h.1, rfl, by first | exact h.2 | exact und h.2 | exact undN h.2⟩)) ?_
                   rintro _ u5 ⟨rfl, b5⟩
                   have q15 := (b5.cell (p := ⟨wo.heap.size, 1, none⟩) (by (try simp) <;> omega)).trans q1
                   have q35 := (b5.frozen (p := ⟨wo.heap.size, 1, none⟩) (by (try simp) <;> omega)).trans q3
                   have z5 := b5.size
                   have HO5 := Lib.hid (ownsRow_step HO.out b5)
                   have hb5 : Below (wo.heap.size + 1) wr u5 := b5.mono hsz
                   have hz5 : wo.heap.size + 1 ≤ u5.heap.size := by omega
                   have q17 := ((below_alloc u5 (.cells #[.int .i64 y] 3)).cell (p := ⟨wo.heap.size, 1, none⟩) (by (try simp) <;> omega)).trans q15
                   have q37 := ((below_alloc u5 (.cells #[.int .i64 y] 3)).frozen (p := ⟨wo.heap.size, 1, none⟩) (by (try simp) <;> omega)).trans q35)
                | (refine step_pushR rfl _ _ _ 3 rfl i0 Try.underlying22 hi (.int .i64 0) 8 hz0 hz1 hz2 rfl (by omega) (wo.heap.size + 1) j _ ((tupV us vs (xs.take j)).map (Value.int .i64)) _ 1 (.int .i64 y) rfl rfl rfl (by first | exact HO5.out.alloc _ | exact (HO5.out.alloc _).drew | exact HO5.out.drew.alloc _) (by first | exact hb5.alloc hz5 _ | exact (hb5.alloc hz5 _).drew | exact hb5.drew.alloc hz5 _) (by (try simp) <;> omega) (by omega) (by simp [Addr.add]) ?_
                   intro v6 u6 hown6 hb6 hz6
                   obtain ⟨A6, c6, rfl⟩ := ownsRow_form hown6
                   have q16 := (hb6.cell (p := ⟨wo.heap.size, 1, none⟩) (by (try simp) <;> omega)).trans q1
                   have q36 := (hb6.frozen (p := ⟨wo.heap.size, 1, none⟩) (by (try simp) <;> omega)).trans q3
                   have z6 := hb6.size
                   have HO6 := Lib.hid hown6
                   clear hown6 hz6))
              all_goals
                clear q15 q35 q16 q36 q17 q37 q0 q1 q2 q3 x1 y0 y1 e1 et
                go_wp2
                go_roundw
                case rel =>
                  refine ⟨j + 1, A6, c6, by omega, by go_num, box_set1 (show Box u6 wo.heap.size #[.int .i64 r, .slice A j ca] 70 from (hb6.block _ (by omega)).trans HG.out), ?_, (HB.out.trans (hb6.mono (by omega))).setCell (Nat.le_refl _) _, by rw [set_size]; omega⟩
                  rw [TT.out, List.map_append]
                  exact ownsRow_set HO6.out (show wo.heap.size < _ by omega)
                case measure => simp [intOf]; omega
            · obtain rfl : j = xs.length := by omega
              have hown2 : wr.ownsRow (wo.heap.size + 1) 3 1 (.slice A xs.length ca) xs.length ((tupV us vs xs).map (Value.int .i64)) := by have := HO.out; rwa [List.take_length] at this
              have RR := row_ri hown2 (tupV_len us vs xs).symm
              have XH := Lib.hid (show Calls Try.prog 65 #[.slice F fs.length cf, .agg #[.int .i64 r, .slice A xs.length ca]] wr fun e w' => e = .returned (.bool (hasB fs r (tupV us vs xs))) ∧ Below wr.heap.size wr w' by
                have hh := spec_HasFact F cf fs r (tupV us vs xs) A ca hzf (by rw [tupV_len]; omega) wr ((HF.out.step hB.out).step HB.out) RR.1
                rwa [tupV_len] at hh)
              clear hown2 RR
              by_cases c3 : hasB fs r (tupV us vs xs) = true
              · have C3 := Lib.hid c3
                have OO := Lib.hid (show allHas us vs fs l (k + 1) = true by rw [allHas_succ, hA.out, HL.out]; exact c3)
                clear c3
                go_wp2_with fail
                refine XH.out.mono ?_
                rintro e w4 ⟨he, d4⟩
                rw [C3.out] at he
                subst he
                have X4 := Lib.hid (X3.out.step d4)
                have Y4 := Lib.hid (Y3.out.step d4)
                have B4 := Lib.hid (step (step hB.out HB.out) d4)
                clear d4 x1 y0 y1 q0 q1 q2 q3 e1
                go_wp2
                go_roundw
                case rel => exact ⟨k + 1, by omega, by go_num, OO, X4, Y4, B4⟩
                case measure => simp [intOf]; omega
              · have C3 := Lib.hid (show hasB fs r (tupV us vs xs) = false by simpa using c3)
                have OO := Lib.hid (allHas_not us vs fs l k l.length hlt (by rw [HL.out]; exact C3.out))
                clear c3
                go_wp2_with fail
                refine XH.out.mono ?_
                rintro e w4 ⟨he, d4⟩
                rw [C3.out] at he
                subst he
                have B4 := Lib.hid (step (step hB.out HB.out) d4)
                clear d4 x1 y0 y1 q0 q1 q2 q3 e1
                go_wp2
                go_ret
                exact ⟨ret_bool (by rw [E.out]; exact OO.out.symm), B4.out⟩
        · obtain rfl : k = l.length := by omega
          go_wp2
          go_ret
          exact ⟨ret_bool (by rw [E.out]; exact hA.out.symm), hB.out⟩
    · have D2 := Lib.hid (show decide (tupV us vs hs = head) = false by simpa using c2)
      have E := Lib.hid (mapB_head (l := l) (fs := fs) c2)
      clear c2
      generalize tupV us vs hs = th at XI D2 R1 ⊢
      go_wp2_with fail
      refine XI.out.mono ?_
      rintro e w2 ⟨he, d2⟩
      rw [D2.out] at he
      subst he
      have B2 := Lib.hid (step B1.out d2)
      clear d2
      go_wp2
      go_ret
      exact ⟨ret_bool E.out.symm, B2.out⟩
  · have d1 : ((us.length : Int) != (vs.length : Int)) = true := by simp; omega
    rw [mapB_len c1]
    clear h hq hf hd' h1 h2 hw0
    go_enter Try.func34, Try.ntmps34
    go_wp2
    go_ret
    exact ⟨rfl, by rw [← E0.out]; exact B0.out⟩
end Go.Proofs.Ytpdmkdhnidgjoaa
