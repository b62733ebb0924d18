/- What the program's IsMapping answers. Conditions: none beyond each theorem's own. -/
import Derived.Test.YtpdmkdhnidgjoaaFz6
import Derived.Deep.DeepCutAuto
import Derived.Deep.Cut

namespace Go.Proofs.Ytpdmkdhnidgjoaa
open Go.ChangeShapes Go.WideShapes Go.ChangeAt Go.RowKit Go.Sort
set_option linter.unusedVariables false
set_option linter.unusedSimpArgs false

/-- The fact that an atom is under a binding. -/
def FFor (w : World) (r : Int) (ys : List Int) (v : Value) (w' : World) : Prop := ∃ A c, v = .agg #[.int .i64 r, .slice A ys.length c] ∧ (RI w' A ys ∧ ys.length ≤ c ∧ c ≤ maxLen) ∧ w'.ownsRow w.heap.size 3 1 (.slice A ys.length c) ys.length (ys.map (Value.int .i64)) ∧ Below w.heap.size w w'

set_option maxRecDepth 100000 in
set_option maxHeartbeats 1000000 in
theorem factFor_any (r : Int) (T U V : Option Addr) (ct cu cv : Nat) (ts us vs : List Int) (ht : ts.length ≤ 1048576) (hu : us.length ≤ 1048576) (hv : vs.length ≤ 1048576) (w : World) (h : RI w T ts) (h1 : RI w U us) (h2 : RI w V vs) :
    Calls Try.prog 68 #[.agg #[.int .i64 r, .slice T ts.length ct], .agg #[.slice U us.length cu, .slice V vs.length cv]] w fun e w' => ∃ v, e = .returned v ∧ FFor w r (tupV us vs ts) v w' := by
  obtain ⟨w0, hw0⟩ : ∃ W, W = ((w.alloc (.cells #[.int .i64 r, .slice T ts.length ct] 68)).alloc (.cells #[.slice U us.length cu, .slice V vs.length cv] 29)).alloc (.cells #[.int .i64 0, .slice none 0 0] 70) := ⟨_, rfl⟩
  have E0 := Lib.hid hw0
  have B0 := Lib.hid (show Below w.heap.size w w0 by rw [hw0]; exact step (step (below_alloc w _) (below_alloc _ _)) (below_alloc _ _))
  have X0 := Lib.hid (show Box w0 w.heap.size #[.int .i64 r, .slice T ts.length ct] 68 by rw [hw0]; exact ((Box.new w _ _).step (below_alloc _ _)).step (below_alloc _ _))
  have Y0 := Lib.hid (show Box w0 (w.heap.size + 1) #[.slice U us.length cu, .slice V vs.length cv] 29 by
    rw [hw0]
    have h := (Box.new (w.alloc (.cells #[.int .i64 r, .slice T ts.length ct] 68)) #[.slice U us.length cu, .slice V vs.length cv] 29).step (below_alloc _ (.cells #[.int .i64 0, .slice none 0 0] 70))
    rwa [al_size] at h)
  have Z0 := Lib.hid (show Box w0 (w.heap.size + 1 + 1) #[.int .i64 0, .slice none 0 0] 70 by
    rw [hw0]
    have h := Box.new ((w.alloc (.cells #[.int .i64 r, .slice T ts.length ct] 68)).alloc (.cells #[.slice U us.length cu, .slice V vs.length cv] 29)) #[.int .i64 0, .slice none 0 0] 70
    rwa [al_size, al_size] at h)
  have XV := Lib.hid fun (W : World) (b : Below w0.heap.size w0 W) => valuesOf_any T U V ct cu cv ts us vs ht hu hv W ((h.step B0.out).step b) ((h1.step B0.out).step b) ((h2.step B0.out).step b)
  have zl := Z0.out.lt
  have x0 := X0.out.cell 0
  have x1 := X0.out.cell 1
  have y0 := Y0.out.cell 0
  have y1 := Y0.out.cell 1
  have q0 := Z0.out.cell 0
  have q1 := Z0.out.cell 1
  have q2 := Z0.out.frozen 0
  have q3 := Z0.out.frozen 1
  simp only [List.getElem?_toArray, List.getElem?_cons_zero, List.getElem?_cons_succ] at x0 x1 y0 y1 q0 q1
  clear h h1 h2 hw0
  go_enter Try.func68, Try.ntmps68
  go_upto_region 1 with fail
  rw [← E0.out]
  go_region_law (first
    | (refine callV2 rfl 56 _ _ _ _ rfl (.slice T ts.length ct) (.agg #[.slice U us.length cu, .slice V vs.length cv]) rfl rfl (by kernel_rfl) (R := fun v' w' => w'.ownsRow w0.heap.size 3 1 v' (tupV us vs ts).length ((tupV us vs ts).map (Value.int .i64)) ∧ Below w0.heap.size w0 w') ((XV.out _ (by first | exact Below.refl _ _ | exact below_drew _)).mono (fun e w' h => by
         obtain ⟨v, e1, e2, e3⟩ := h
         exact ⟨v, e1, e2, by first | exact e3 | exact und e3 | exact undN e3⟩)) ?_
       rintro v5 u5 ⟨o5, b5⟩
       obtain ⟨A5, c5, rfl⟩ := ownsRow_form o5
       have x05 := (b5.cell (p := ⟨w.heap.size, 0, none⟩) (by (try simp) <;> omega)).trans x0
       have Z5 := Lib.hid (Z0.out.step b5)
       have D5 := Lib.hid (step B0.out b5)
       have O5 := Lib.hid o5
       have q05 := Z5.out.cell 0
       have q15 := Z5.out.cell 1
       have q25 := Z5.out.frozen 0
       have q35 := Z5.out.frozen 1
       simp only [List.getElem?_toArray, List.getElem?_cons_zero, List.getElem?_cons_succ] at q05 q15
       have z5 := Z5.out.lt
       clear o5 b5))
  all_goals
    go_wp2
    refine bodyPost_ret (v := .agg #[.int .i64 r, .slice A5 (tupV us vs ts).length c5]) (by simp [results, Try.results68, go_sem, q05, q15, q25, q35]) rfl ?_
    have OO : ((u5.setCell ⟨w.heap.size + 1 + 1, 0, none⟩ (.int .i64 r)).setCell ⟨w.heap.size + 1 + 1, 1, none⟩ (.slice A5 (tupV us vs ts).length c5)).ownsRow w.heap.size 3 1 (.slice A5 (tupV us vs ts).length c5) (tupV us vs ts).length ((tupV us vs ts).map (Value.int .i64)) := by
      have h := ownsRow_set (p := ⟨w.heap.size + 1 + 1, 1, none⟩) (u := .slice A5 (tupV us vs ts).length c5) (ownsRow_set (p := ⟨w.heap.size + 1 + 1, 0, none⟩) (u := .int .i64 r) O5.out (by (try simp) <;> omega)) (by (try simp) <;> omega)
      refine ⟨h.1, ?_⟩
      rcases h.2 with h0 | ⟨g, cap, cur, hv, hb, rr⟩
      · exact .inl h0
      · exact .inr ⟨g, cap, cur, hv, by omega, rr⟩
    exact ⟨_, rfl, A5, c5, rfl, row_ri OO rfl, OO, Below.setCell (Below.setCell D5.out (by (try simp) <;> omega) _) (by (try simp) <;> omega) _⟩

set_option maxRecDepth 100000 in
set_option maxHeartbeats 1000000 in
theorem isMap1_any (gf gb : Nat) (F U V : Option Addr) (cf cu cv : Nat) (fs : FL) (us vs : List Int) (r : Int) (T : Option Addr) (ct : Nat) (ts : List Int) (hzf : szF fs ≤ 1048576) (ht : ts.length ≤ 1048576) (hu : us.length ≤ 1048576) (hv : vs.length ≤ 1048576) (w : World)
    (hF : RF w F fs) (h : RI w T ts) (h1 : RI w U us) (h2 : RI w V vs) (hf : Box w gf #[.slice F fs.length cf] 27) (hb : Box w gb #[.slice U us.length cu, .slice V vs.length cv] 29) :
    Calls Try.prog 66 #[.agg #[.int .i64 r, .slice T ts.length ct], .pointer (some ⟨gf, 0, none⟩), .pointer (some ⟨gb, 0, none⟩)] w fun e w' => e = .returned (.bool (hasB fs r (tupV us vs ts))) ∧ Below w.heap.size w w' := by
  obtain ⟨w0, hw0⟩ : ∃ W, W = w.alloc (.cells #[.int .i64 r, .slice T ts.length ct] 68) := ⟨_, rfl⟩
  have E0 := Lib.hid hw0
  have B0 := Lib.hid (show Below w.heap.size w w0 by rw [hw0]; exact below_alloc w _)
  have X0 := Lib.hid (show Box w0 w.heap.size #[.int .i64 r, .slice T ts.length ct] 68 by rw [hw0]; exact Box.new w _ _)
  have f0 := (hf.step B0.out).cell 0
  have y0 := (hb.step B0.out).cell 0
  have y1 := (hb.step B0.out).cell 1
  have x0 := X0.out.cell 0
  have x1 := X0.out.cell 1
  have xl := X0.out.lt
  have fl := hf.lt
  have bl := hb.lt
  simp only [List.getElem?_toArray, List.getElem?_cons_zero, List.getElem?_cons_succ] at f0 x0 x1 y0 y1
  have XV := Lib.hid fun (W : World) (b : Below w0.heap.size w0 W) => factFor_any r T U V ct cu cv ts us vs ht hu hv W ((h.step B0.out).step b) ((h1.step B0.out).step b) ((h2.step B0.out).step b)
  have HF := Lib.hid (hF.step B0.out)
  have XH := Lib.hid fun (A : Option Addr) (c : Nat) (W : World) (hW : RF W F fs) (hA : RI W A (tupV us vs ts) ∧ (tupV us vs ts).length ≤ c ∧ c ≤ maxLen) => impl_HasFact F cf fs r (tupV us vs ts) A c hzf (by rw [tupV_len]; exact ht) hA.2.1 hA.2.2 W hW hA.1
  generalize tupV us vs ts = ys at XV XH ⊢
  clear h h1 h2 hw0 hf hb hF
  go_enter Try.func66, Try.ntmps66
  go_upto_region 1 with fail
  rw [← E0.out]
  go_region_law (first
    | (refine callV2 rfl 68 _ _ _ _ rfl (.agg #[.int .i64 r, .slice T ts.length ct]) (.agg #[.slice U us.length cu, .slice V vs.length cv]) rfl rfl (by kernel_rfl) (R := fun v' w' => ∃ A c, v' = .agg #[.int .i64 r, .slice A ys.length c] ∧ (RI w' A ys ∧ ys.length ≤ c ∧ c ≤ maxLen) ∧ Below w0.heap.size w0 w') ((XV.out _ (by first | exact Below.refl _ _ | exact below_drew _)).mono (fun e w' h => by
         obtain ⟨v, e1, A, c, e2, e3, _, e4⟩ := h
         exact ⟨v, e1, A, c, e2, e3, by first | exact e4 | exact und e4 | exact undN e4⟩)) ?_
       rintro _ u5 ⟨A5, c5, rfl, r5, b5⟩
       have R5 := Lib.hid r5
       have D5 := Lib.hid b5
       have f05 := (b5.cell (p := ⟨gf, 0, none⟩) (by (try simp) <;> have := B0.out.size <;> omega)).trans f0
       clear r5 b5)
    | (refine callV2 rfl 67 _ _ _ _ rfl (.slice F fs.length cf) (.agg #[.int .i64 r, .slice A5 ys.length c5]) rfl rfl (by kernel_rfl) (R := fun v' w' => v' = .bool (hasB fs r ys) ∧ Below u5.heap.size u5 w') ((XH.out A5 c5 _ (HF.out.step D5.out) R5.out).mono (fun e w' h => ⟨_, h.1, rfl, by first | exact h.2 | exact und h.2 | exact undN h.2⟩)) ?_
       rintro _ u6 ⟨rfl, b6⟩
       have D6 := Lib.hid (step (step B0.out D5.out) b6)
       clear b6))
  all_goals
    go_wp2
    go_ret
    exact ⟨rfl, D6.out⟩

set_option maxRecDepth 100000 in
set_option maxHeartbeats 1000000 in
theorem areAllM_any (gf gb : Nat) (F U V : Option Addr) (cf cu cv : Nat) (fs : FL) (us vs : List Int) (A : Option Addr) (c : Nat) (l : FL) (hzf : szF fs ≤ 1048576) (hz : szF l ≤ 1048576) (hu : us.length ≤ 1048576) (hv : vs.length ≤ 1048576) (w : World)
    (hF : RF w F fs) (h : RF w A l) (h1 : RI w U us) (h2 : RI w V vs) (hf : Box w gf #[.slice F fs.length cf] 27) (hb : Box w gb #[.slice U us.length cu, .slice V vs.length cv] 29) :
    Calls Try.prog 69 #[.slice A l.length c, .func (.func 66) #[] #[.pointer (some ⟨gf, 0, none⟩), .pointer (some ⟨gb, 0, none⟩)]] w fun e w' => e = .returned (.bool (allHas us vs fs l l.length)) ∧ Below w.heap.size w w' := by
  have hl := szF_len hz
  have hl' : (l.length : Int) ≤ 1048576 := by omega
  have HI := Lib.hid h
  have HF := Lib.hid hF
  have HU := Lib.hid h1
  have HV := Lib.hid h2
  have HG := Lib.hid hf
  have HB := Lib.hid hb
  clear h hF h1 h2 hf hb
  go_enter Try.func69, Try.ntmps69
  go_wp2
  go_loopw [6, 9] (fun _ i wr => ∃ k : Nat, k ≤ l.length ∧ i = .int .i64 k ∧ allHas us vs fs l k = true ∧ Hid (Below w.heap.size w wr)) (fun _ i _ => l.length - (intOf i).toNat)
  case atStart => exact ⟨0, by omega, rfl, rfl, Lib.hid (Below.refl _ _)⟩
  case round =>
    obtain ⟨k, hk, rfl, ha, hb⟩ := hrel
    have HA := Lib.hid ha
    clear ha
    by_cases hlt : k < l.length
    · generalize hf : l.getD k (0, []) = f
      obtain ⟨r, xs⟩ := f
      have hxl : xs.length ≤ 1048576 := by have := szF_elem hz hlt; rw [hf] at this; exact this
      obtain ⟨b, off, B, c2, rfl, n1, e0, e1, hxc, hcm, hI⟩ := (HI.out.step hb.out).at_ hlt hf
      have hk0 : (0 : Int) ≤ (k : Int) := by omega
      have hk1 : (k : Int) < (l.length : Int) := by omega
      have ba := below_alloc wr (.cells #[.int .i64 r, .slice B xs.length c2] 68)
      have B2 := Lib.hid (step hb.out ba)
      have XC := Lib.hid (isMap1_any gf gb F U V cf cu cv fs us vs r B c2 xs hzf hxl hu hv _ (HF.out.step B2.out) (hI.step ba) (HU.out.step B2.out) (HV.out.step B2.out) (HG.out.step B2.out) (HB.out.step B2.out))
      generalize hq : hasB fs r (tupV us vs xs) = q at XC
      have HFq := Lib.hid (show hasB fs (l.getD k (0, [])).1 (tupV us vs (l.getD k (0, [])).2) = q by rw [hf, ← hq])
      clear hf hq ba hI
      go_wp2_with fail
      refine XC.out.mono ?_
      rintro e u ⟨rfl, d⟩
      have hb2 := step B2.out d
      clear d
      cases q
      · go_wp2
        go_ret
        exact ⟨ret_bool (allHas_not us vs fs l k _ hlt HFq.out).symm, hb2⟩
      · go_wp2
        go_roundw
        case rel => exact ⟨k + 1, by omega, by go_num, by rw [allHas_succ, HA.out, HFq.out]; rfl, Lib.hid hb2⟩
        case measure => simp [intOf]; omega
    · obtain rfl : k = l.length := by omega
      go_wp2
      go_ret
      exact ⟨ret_bool HA.out.symm, hb.out⟩

set_option maxRecDepth 100000 in
set_option maxHeartbeats 2000000 in
theorem impl_IsMapping (H Q F D U V : Option Addr) (ch c cf cd cu cv : Nat) (hs : List Int) (l fs : FL) (head us vs : List Int) (hh : hs.length ≤ 1048576) (hz : szF l ≤ 1048576) (hzf : szF fs ≤ 1048576) (hd : head.length ≤ 1048576) (hu : us.length ≤ 1048576) (hv : vs.length ≤ 1048576) (w : World)
    (h : RI w H hs) (hq : RF w Q l) (hf : RF w F fs) (hd' : RI w D head) (h1 : RI w U us) (h2 : RI w V vs) :
    Calls Try.prog 35 #[.agg #[.slice H hs.length ch, .slice Q l.length c], .slice F fs.length cf, .slice D head.length cd, .agg #[.slice U us.length cu, .slice V vs.length cv]] w fun e w' => e = .returned (.bool (mapB us vs hs head l fs)) ∧ Below w.heap.size w w' := by
  obtain ⟨w0, hw0⟩ : ∃ W, W = ((w.alloc (.cells #[.slice H hs.length ch, .slice Q l.length c] 34)).alloc (.cells #[.slice F fs.length cf] 27)).alloc (.cells #[.slice U us.length cu, .slice V vs.length cv] 29) := ⟨_, rfl⟩
  have E0 := Lib.hid hw0
  have B0 := Lib.hid (show Below w.heap.size w w0 by rw [hw0]; exact step (step (below_alloc w _) (below_alloc _ _)) (below_alloc _ _))
  have X0 := Lib.hid (show Box w0 w.heap.size #[.slice H hs.length ch, .slice Q l.length c] 34 by rw [hw0]; exact ((Box.new w _ _).step (below_alloc _ _)).step (below_alloc _ _))
  have G0 := Lib.hid (show Box w0 (w.heap.size + 1) #[.slice F fs.length cf] 27 by
    rw [hw0]
    have h := (Box.new (w.alloc (.cells #[.slice H hs.length ch, .slice Q l.length c] 34)) #[.slice F fs.length cf] 27).step (below_alloc _ (.cells #[.slice U us.length cu, .slice V vs.length cv] 29))
    rwa [al_size] at h)
  have Y0 := Lib.hid (show Box w0 (w.heap.size + 1 + 1) #[.slice U us.length cu, .slice V vs.length cv] 29 by
    rw [hw0]
    have h := Box.new ((w.alloc (.cells #[.slice H hs.length ch, .slice Q l.length c] 34)).alloc (.cells #[.slice F fs.length cf] 27)) #[.slice U us.length cu, .slice V vs.length cv] 29
    rwa [al_size, al_size] at h)
  by_cases c1 : us.length = vs.length
  · have d1 : ((us.length : Int) == (vs.length : Int)) = true := by simp; omega
    have C1 := Lib.hid c1
    have XT := Lib.hid (impl_TupleOf H Q U V ch c cu cv hs l us vs hh hu hv w0 (h.step B0.out) (h1.step B0.out) (h2.step B0.out))
    have HQ := Lib.hid (hq.step B0.out)
    have HF := Lib.hid (hf.step B0.out)
    have HD := Lib.hid (hd'.step B0.out)
    have HU := Lib.hid (h1.step B0.out)
    have HV := Lib.hid (h2.step B0.out)
    clear h hq hf hd' h1 h2 hw0 c1
    go_enter Try.func35, Try.ntmps35
    go_wp2_with fail
    rw [← E0.out]
    refine XT.out.mono ?_
    rintro e w1 ⟨v1, rfl, ho1, d1'⟩
    obtain ⟨A1, ca1, rfl⟩ := ownsRow_form ho1
    have R1 := Lib.hid (row_ri ho1 rfl).1
    have B1 := Lib.hid (step B0.out d1')
    have D1 := Lib.hid d1'
    have XI := Lib.hid (sEqual_any _ _ _ _ A1 D ca1 cd (tupV us vs hs) head (by rw [tupV_len]; omega) (by omega) w1 R1.out (HD.out.step D1.out))
    clear ho1 d1'
    by_cases c2 : tupV us vs hs = head
    · have D2 := Lib.hid (show decide (tupV us vs hs = head) = true by simpa using c2)
      have E := Lib.hid (mapB_all (l := l) (fs := fs) C1.out c2)
      clear c2
      generalize tupV us vs hs = th at XI D2 R1 ⊢
      go_wp2_with fail
      refine XI.out.mono ?_
      rintro e w2 ⟨he, d2⟩
      rw [D2.out] at he
      subst he
      have D3 := Lib.hid (step D1.out d2)
      have x1 := (X0.out.step D3.out).cell 1
      simp only [List.getElem?_toArray, List.getElem?_cons_zero, List.getElem?_cons_succ] at x1
      have XA := Lib.hid (areAllM_any (w.heap.size + 1) (w.heap.size + 1 + 1) F U V cf cu cv fs us vs Q c l hzf hz hu hv w2 (HF.out.step D3.out) (HQ.out.step D3.out) (HU.out.step D3.out) (HV.out.step D3.out) (G0.out.step D3.out) (Y0.out.step D3.out))
      have D4 := Lib.hid (step B0.out D3.out)
      clear d2
      go_wp2_with fail
      refine XA.out.mono ?_
      rintro e w3 ⟨rfl, d3⟩
      have D5 := Lib.hid (step D4.out d3)
      clear d3
      go_wp2
      go_ret
      exact ⟨ret_bool E.out.symm, D5.out⟩
    · have D2 := Lib.hid (show decide (tupV us vs hs = head) = false by simpa using c2)
      have E := Lib.hid (mapB_head (l := l) (fs := fs) c2)
      clear c2
      generalize tupV us vs hs = th at XI D2 R1 ⊢
      go_wp2_with fail
      refine XI.out.mono ?_
      rintro e w2 ⟨he, d2⟩
      rw [D2.out] at he
      subst he
      have B2 := Lib.hid (step B1.out d2)
      clear d2
      go_wp2
      go_ret
      exact ⟨ret_bool E.out.symm, B2.out⟩
  · have d1 : ((us.length : Int) == (vs.length : Int)) = false := by simp; omega
    rw [mapB_len c1]
    clear h hq hf hd' h1 h2 hw0
    go_enter Try.func35, Try.ntmps35
    go_wp2
    go_ret
    exact ⟨rfl, by rw [← E0.out]; exact B0.out⟩
end Go.Proofs.Ytpdmkdhnidgjoaa
