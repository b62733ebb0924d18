/- What the two functions IsResponse answer. Conditions: none beyond each theorem's own. -/
import Derived.Test.YtenondgjipmhnaaMtp
namespace Go.Proofs.Ytenondgjipmhnaa
open Go.ChangeShapes Go.WideShapes Go.ChangeAt Go.RowKit Go.Sort
set_option linter.unusedVariables false
set_option linter.unusedSimpArgs false

theorem szF_filter (p : Int × List Int → Bool) (l : FL) : szF (l.filter p) ≤ szF l := by
  have h1 : sumN (l.filter p) ≤ sumN l := by
    unfold sumN
    induction l with
    | nil => simp
    | cons a t ih =>
      rw [List.filter_cons]
      split
      · simp only [List.map_cons, List.sum_cons]; omega
      · simp only [List.map_cons, List.sum_cons]; omega
  have h2 := List.length_filter_le p l
  unfold szF
  omega
theorem szF_matF {r : Int} {xs vs : List Int} {l : FL} (h : szF l ≤ 1048576) : szF (matF r xs vs l) ≤ 1048576 := Int.le_trans (szF_filter _ l) h
/-- Are the first n of the list among the facts M? -/
def hasN (M rs : FL) (n : Nat) : Bool := (List.range n).all fun k => hasB M (rs.getD k (0, [])).1 (rs.getD k (0, [])).2
theorem hasN_succ (M rs : FL) (k : Nat) : hasN M rs (k + 1) = (hasN M rs k && hasB M (rs.getD k (0, [])).1 (rs.getD k (0, [])).2) := by
  unfold hasN
  rw [List.range_succ, List.all_append]
  simp
theorem hasN_not (M rs : FL) (k n : Nat) (hk : k < n) (h : hasB M (rs.getD k (0, [])).1 (rs.getD k (0, [])).2 = false) : hasN M rs n = false := by
  unfold hasN
  rw [List.all_eq_false]
  exact ⟨k, by simpa using hk, by rw [h]; simp⟩
/-- How many facts a source tells. -/
def sizR (li : Int) (n : Nat) : Int := if li = 0 then (n : Int) else min (n : Int) li
def rspM (l : ML) (fs : FL) (m : Int) (vs : List Int) : FL := matF (l.getD m.toNat noM).1 (l.getD m.toNat noM).2.1 vs fs
def rspB (s : List Int) (l : ML) (fs : FL) (m : Int) (vs : List Int) (rs : FL) : Bool :=
  accB s l m vs && areB s fs && areB s rs && (hasN (rspM l fs m vs) rs rs.length && decide ((rs.length : Int) = sizR (l.getD m.toNat noM).2.2.1 (rspM l fs m vs).length))
theorem met_lim {s : List Int} {r : Int} {xs : List Int} {li co qu : Int} (h : methB s r xs li co qu = true) : 0 ≤ li ∧ li ≤ 9 := by
  unfold methB numB at h
  simp only [Bool.and_eq_true] at h
  have := h.1.2.1.1
  simpa [inB] using this

set_option maxHeartbeats 4000000 in
set_option maxRecDepth 100000 in
theorem spec_IsResponse (S : Option Addr) (cs : Nat) (s : List Int) (L : Option Addr) (cl : Nat) (l : ML) (D : Option Addr) (cd : Nat) (fs : FL) (m : Int) (vs : List Int) (V : Option Addr) (cv : Nat) (R : Option Addr) (cr : Nat) (rs : FL)
    (hls : s.length ≤ 1048576) (hz : szM l ≤ 1048576) (hzf : szF fs ≤ 1048576) (hlv : vs.length ≤ 1048576) (hzr : szF rs ≤ 1048576) (w : World) (h : RI w S s) (h' : RM w L l) (hd : RF w D fs) (hv : RI w V vs) (hr : RF w R rs) :
    Calls Try.prog 42 #[.slice S s.length cs, .slice L l.length cl, .slice D fs.length cd, .agg #[.int .i64 m, .slice V vs.length cv], .slice R rs.length cr] w fun e w' => e = .returned (.bool (rspB s l fs m vs rs)) ∧ Below w.heap.size w w' := by
  have hrl := szF_len hzr
  have hrl' : (rs.length : Int) ≤ 1048576 := by omega
  have bb := below_alloc w (.cells #[.int .i64 m, .slice V vs.length cv] 44)
  obtain ⟨W0, hW0⟩ : ∃ W0, W0 = w.alloc (.cells #[.int .i64 m, .slice V vs.length cv] 44) := ⟨_, rfl⟩
  have X0 := Box.new w #[.int .i64 m, .slice V vs.length cv] 44
  rw [← hW0] at X0 bb
  have HB0 := Lib.hid bb
  have HX0 := Lib.hid X0
  have HI := Lib.hid (h.step bb)
  have HL := Lib.hid (h'.step bb)
  have HD := Lib.hid (hd.step bb)
  have HV := Lib.hid (hv.step bb)
  have HR := Lib.hid (hr.step bb)
  have EW := Lib.hid hW0
  have x0 := X0.cell 0
  have x1 := X0.cell 1
  simp only [List.getElem?_toArray, List.getElem?_cons_zero, List.getElem?_cons_succ] at x0 x1
  have XA := Lib.hid (spec_IsAccess S cs s L cl l m vs V cv hls hz hlv W0 HI.out HL.out HV.out)
  have XF := Lib.hid fun (W : World) (hW : Below W0.heap.size W0 W) => spec_AreFacts S cs s D cd fs hls hzf W (HI.out.step hW) (HD.out.step hW)
  have XR := Lib.hid fun (W : World) (hW : Below W0.heap.size W0 W) => spec_AreFacts S cs s R cr rs hls hzr W (HI.out.step hW) (HR.out.step hW)
  clear h h' hd hv hr bb hW0 X0
  by_cases ca : accB s l m vs = true
  rotate_left
  · have CA := Lib.hid (show accB s l m vs = false by simpa using ca)
    have EH := Lib.hid (show rspB s l fs m vs rs = false by unfold rspB; rw [CA.out]; simp)
    rw [CA.out] at XA
    clear ca
    go_enter Try.func42, Try.ntmps42
    go_wp2_with fail
    rw [← EW.out]
    refine (XA.out).mono ?_
    rintro e u1 ⟨rfl, d1⟩
    have D1 := Lib.hid d1
    clear d1
    go_wp2
    go_ret
    exact ⟨ret_bool EH.out.symm, step HB0.out D1.out⟩
  have CA := Lib.hid ca
  rw [ca] at XA
  clear ca
  by_cases cf : areB s fs = true
  rotate_left
  · have CF := Lib.hid (show areB s fs = false by simpa using cf)
    have EH := Lib.hid (show rspB s l fs m vs rs = false by unfold rspB; rw [CF.out]; simp)
    rw [CF.out] at XF
    clear cf
    go_enter Try.func42, Try.ntmps42
    go_wp2_with fail
    rw [← EW.out]
    refine (XA.out).mono ?_
    rintro e u1 ⟨rfl, d1⟩
    have D1 := Lib.hid d1
    clear d1
    go_wp2_with fail
    refine (XF.out _ D1.out).mono ?_
    rintro e u2 ⟨rfl, d2⟩
    have D2 := Lib.hid (step D1.out d2)
    clear d2
    go_wp2
    go_ret
    exact ⟨ret_bool EH.out.symm, step HB0.out D2.out⟩
  have CF := Lib.hid cf
  rw [cf] at XF
  clear cf
  by_cases cr' : areB s rs = true
  rotate_left
  · have CR := Lib.hid (show areB s rs = false by simpa using cr')
    have EH := Lib.hid (show rspB s l fs m vs rs = false by unfold rspB; rw [CR.out]; simp)
    rw [CR.out] at XR
    clear cr'
    go_enter Try.func42, Try.ntmps42
    go_wp2_with fail
    rw [← EW.out]
    refine (XA.out).mono ?_
    rintro e u1 ⟨rfl, d1⟩
    have D1 := Lib.hid d1
    clear d1
    go_wp2_with fail
    refine (XF.out _ D1.out).mono ?_
    rintro e u2 ⟨rfl, d2⟩
    have D2 := Lib.hid (step D1.out d2)
    clear d2
    go_wp2_with fail
    refine (XR.out _ D2.out).mono ?_
    rintro e u3 ⟨rfl, d3⟩
    have D3 := Lib.hid (step D2.out d3)
    clear d3
    go_wp2
    go_ret
    exact ⟨ret_bool EH.out.symm, step HB0.out D3.out⟩
  have CR := Lib.hid cr'
  rw [cr'] at XR
  clear cr'
  have hm0 := (acc_of CA.out).2.1
  have hml := (acc_of CA.out).2.2.1
  obtain ⟨k, rfl⟩ := Int.eq_ofNat_of_zero_le hm0
  rw [Int.toNat_natCast] at hml
  have hmt := (acc_of CA.out).2.2.2.2
  rw [Int.toNat_natCast] at hmt
  generalize hf : l.getD k noM = f at hmt
  obtain ⟨r, xs, li, co, qu⟩ := f
  have hli := met_lim (show methB s r xs li co qu = true from hmt)
  have hli0 := hli.1
  have hli9 := hli.2
  have FO := Lib.hid (fit_of CA.out CF.out (show l.getD ((k : Int)).toNat noM = (r, xs, li, co, qu) by rw [Int.toNat_natCast]; exact hf))
  have EM := Lib.hid (show rspM l fs (k : Int) vs = matF r xs vs fs by unfold rspM; rw [Int.toNat_natCast, hf])
  have hzm : szF (matF r xs vs fs) ≤ 1048576 := szF_matF hzf
  obtain ⟨M, hM⟩ : ∃ M, M = matF r xs vs fs := ⟨_, rfl⟩
  rw [← hM] at hzm EM
  have HM := Lib.hid hM
  have hmlen := szF_len hzm
  have hmlen' : (M.length : Int) ≤ 1048576 := by omega
  have EH := Lib.hid (show rspB s l fs (k : Int) vs rs = (hasN M rs rs.length && decide ((rs.length : Int) = sizR li M.length)) by unfold rspB; rw [CA.out, CF.out, CR.out, EM.out, Int.toNat_natCast, hf]; rfl)
  have hxl : xs.length ≤ 1048576 := by have := szM_elem hz hml; rw [hf] at this; exact this
  have hk0 : (0 : Int) ≤ (k : Int) := by omega
  have hk1 : (k : Int) < (l.length : Int) := by omega
  have HF := Lib.hid hf
  clear hf hm0 hmt hM hli
  go_enter Try.func42, Try.ntmps42
  go_wp2_with fail
  rw [← EW.out]
  refine (XA.out).mono ?_
  rintro e u1 ⟨rfl, d1⟩
  have D1 := Lib.hid d1
  clear d1
  go_wp2_with fail
  refine (XF.out _ D1.out).mono ?_
  rintro e u2 ⟨rfl, d2⟩
  have D2 := Lib.hid (step D1.out d2)
  clear d2
  go_wp2_with fail
  refine (XR.out _ D2.out).mono ?_
  rintro e u3 ⟨rfl, d3⟩
  have D3 := Lib.hid (step D2.out d3)
  clear d3
  clear x0 x1
  have Z := HX0.out.step D3.out
  have x0 := Z.cell 0
  have x1 := Z.cell 1
  simp only [List.getElem?_toArray, List.getElem?_cons_zero, List.getElem?_cons_succ] at x0 x1
  have zn := Z.lt
  obtain ⟨b, off, B, c2, rfl, n1, e0, e1, e2, e3, e4, _, _, hX⟩ := (HL.out.step D3.out).at_ hml HF.out
  have N1 := Lib.hid n1
  have E2 := Lib.hid e2
  have HX := Lib.hid hX
  have HV2 := Lib.hid (HV.out.step D3.out)
  have HD2 := Lib.hid (HD.out.step D3.out)
  have HZ := Lib.hid Z
  clear hX Z
  go_wp2
  go_region_held3 (fun w' => w'.cell? ⟨w.heap.size, 0, none⟩ = some (.int .i64 (k : Int)) ∧ w'.cell? ⟨w.heap.size, 1, none⟩ = some (.slice V vs.length cv) ∧ w'.cell? ⟨b, off + k * 5, none⟩ = some (.int .i64 r) ∧ w'.cell? ⟨b, off + k * 5 + 1, none⟩ = some (.slice B xs.length c2) ∧ w'.cell? ⟨b, off + k * 5 + 2, none⟩ = some (.int .i64 li) ∧ w'.cell? ⟨b, off + k * 5 + 3, none⟩ = some (.int .i64 co) ∧ w'.cell? ⟨b, off + k * 5 + 4, none⟩ = some (.int .i64 qu))
    (first
      | go_keep
      | (go_split_ands; refine ⟨?_, ?_, ?_, ?_, ?_, ?_, ?_⟩ <;> (rw [d4.cell (by (try simp) <;> omega)]; assumption)))
    (first
      | (go_at_call 75
         refine (l5Matches_any r xs li co qu B c2 vs V cv D cd fs hxl FO.out.1 hzf FO.out.2 _ (by first | exact HX.out | exact HX.out.step (below_drew _)) (by first | exact HV2.out | exact HV2.out.step (below_drew _)) (by first | exact HD2.out | exact HD2.out.step (below_drew _))).mono ?_
         rintro e u4 ⟨A3, c3, cs3, bs3, rfl, ho3, d4⟩
         have b4 : Below u3.heap.size u3 u4 := by first | exact d4 | exact und d4
         have O3 := Lib.hid (show RF u4 A3 (matF r xs vs fs) from (show OwnC u4 u3.heap.size u4.heap.size _ _ _ _ from ho3).rf)
         have D4 := Lib.hid (step D3.out b4)
         rw [← HM.out]
         clear ho3))
  rw [← HM.out] at O3
  clear d4 x0 x1 e0 e1 e2 e3 e4 n1 zn
  have HR4 := Lib.hid (HR.out.step D4.out)
  go_wp2
  go_loopw [12] (fun i wr => ∃ j : Nat, j ≤ rs.length ∧ i = .int .i64 j ∧ hasN M rs j = true ∧ Hid (Below u4.heap.size u4 wr)) (fun i _ => rs.length - (intOf i).toNat)
  case atStart => exact ⟨0, by omega, rfl, rfl, Lib.hid (Below.refl _ _)⟩
  obtain ⟨j, hj, rfl, ha, hb⟩ := hrel
  have HA := Lib.hid ha
  clear ha
  have D5 := Lib.hid (step D4.out hb.out)
  by_cases hlt : j < rs.length
  · generalize hg : rs.getD j (0, []) = g
    obtain ⟨r2, ys⟩ := g
    have HG := Lib.hid (show hasB M (rs.getD j (0, [])).1 (rs.getD j (0, [])).2 = hasB M r2 ys by rw [hg])
    have hyl : ys.length ≤ 1048576 := by have := szF_elem hzr hlt; rw [hg] at this; exact this
    obtain ⟨b2, off2, B2, c5, rfl, n2, e0, e1, _, _, hI⟩ := (HR4.out.step hb.out).at_ hlt hg
    have XC := Lib.hid (spec_HasFact A3 c3 M r2 ys B2 c5 hzm hyl wr (O3.out.step hb.out) hI)
    generalize hasB M r2 ys = res at XC HG
    clear hg hI
    have hj0 : (0 : Int) ≤ (j : Int) := by omega
    have hj1 : (j : Int) < (rs.length : Int) := by omega
    go_wp2_with fail
    refine XC.out.mono ?_
    rintro e u6 ⟨rfl, d⟩
    have D6 := Lib.hid d
    clear d
    cases res
    · go_wp2
      go_ret
      exact ⟨ret_bool (by rw [EH.out, hasN_not M rs j _ hlt HG.out]; rfl), step HB0.out (step D5.out D6.out)⟩
    · go_wp2
      go_roundw
      case rel => exact ⟨j + 1, by omega, by go_num, by rw [hasN_succ, HA.out, HG.out]; rfl, Lib.hid (step hb.out D6.out)⟩
      case measure => simp [intOf]; omega
  · obtain rfl : j = rs.length := by omega
    have EJ := Lib.hid (show rspB s l fs (k : Int) vs rs = decide ((rs.length : Int) = sizR li M.length) by rw [EH.out, HA.out]; rfl)
    have Z := HX0.out.step D5.out
    have x0 := Z.cell 0
    simp only [List.getElem?_toArray, List.getElem?_cons_zero, List.getElem?_cons_succ] at x0
    have zn := Z.lt
    have nb : b < wr.heap.size := Nat.lt_of_lt_of_le N1.out (b4.trans (hb.out.mono b4.size)).size
    have e2 := ((b4.trans (hb.out.mono b4.size)).cell (p := ⟨b, off + k * 5 + 2, none⟩) N1.out).trans E2.out
    clear Z
    by_cases h0 : 0 < li
    · have d0 : decide (0 < li) = true := by simpa using h0
      have hn0 : ¬ li = 0 := by omega
      by_cases h1 : (M.length : Int) ≤ li
      · have ES := Lib.hid (show sizR li M.length = (M.length : Int) by unfold sizR; rw [if_neg hn0]; omega)
        have d1 : min (M.length : Int) li = (M.length : Int) := by omega
        go_wp2
        go_ret
        exact ⟨ret_bool (by rw [EJ.out, ES.out]; rfl), step HB0.out D5.out⟩
      · have ES := Lib.hid (show sizR li M.length = li by unfold sizR; rw [if_neg hn0]; omega)
        have d1 : min (M.length : Int) li = li := by omega
        go_wp2
        go_ret
        exact ⟨ret_bool (by rw [EJ.out, ES.out]; rfl), step HB0.out D5.out⟩
    · have d0 : decide (0 < li) = false := by simpa using h0
      have hn0 : li = 0 := by omega
      have ES := Lib.hid (show sizR li M.length = (M.length : Int) by unfold sizR; rw [if_pos hn0])
      clear hn0
      go_wp2
      go_ret
      exact ⟨ret_bool (by rw [EJ.out, ES.out]; rfl), step HB0.out D5.out⟩

set_option maxRecDepth 100000 in
theorem sizeOfResponse_any (r : Int) (A : Option Addr) (n c : Nat) (li co qu : Int) (V : Option Addr) (nv cv : Nat) (k : Nat) (hk : k ≤ 1048576) (h0 : 0 ≤ li) (h9 : li ≤ 9) (w : World) :
    Calls Try.prog 83 #[.agg #[.int .i64 r, .slice A n c, .int .i64 li, .int .i64 co, .int .i64 qu, .slice V nv cv], .int .i64 k] w fun e w' => e = .returned (.int .i64 (sizR li k)) ∧ Below w.heap.size w w' := by
  have hk' : (k : Int) ≤ 1048576 := by omega
  by_cases hz : li = 0
  · have ES := Lib.hid (show sizR li k = (k : Int) by unfold sizR; rw [if_pos hz])
    have d0 : (li == 0) = true := by simpa using hz
    clear hz
    go_enter Try.func83, Try.ntmps83
    go_wp2
    go_ret
    exact ⟨ret_int ES.out.symm, below_alloc _ _⟩
  · have d0 : (li == 0) = false := by simpa using hz
    have ES := Lib.hid (show sizR li k = min (k : Int) li by unfold sizR; rw [if_neg hz])
    clear hz
    by_cases hc : (k : Int) ≤ li
    · have ET := Lib.hid (show sizR li k = (k : Int) by rw [ES.out]; omega)
      have d1 : min (k : Int) li = (k : Int) := by omega
      go_enter Try.func83, Try.ntmps83
      go_wp2
      go_ret
      exact ⟨ret_int ET.out.symm, below_alloc _ _⟩
    · have ET := Lib.hid (show sizR li k = li by rw [ES.out]; omega)
      have d1 : min (k : Int) li = li := by omega
      go_enter Try.func83, Try.ntmps83
      go_wp2
      go_ret
      exact ⟨ret_int ET.out.symm, below_alloc _ _⟩

set_option maxHeartbeats 1000000 in
set_option maxRecDepth 100000 in
theorem isResponse1_any (g : Nat) (A : Option Addr) (c : Nat) (M : FL) (r : Int) (xs : List Int) (B : Option Addr) (c' : Nat) (hz : szF M ≤ 1048576) (hl : xs.length ≤ 1048576) (hc : xs.length ≤ c') (hm : c' ≤ maxLen) (w : World) (h : RF w A M) (h' : RI w B xs) (hb : Box w g #[.slice A M.length c] 50) :
    Calls Try.prog 85 #[.agg #[.int .i64 r, .slice B xs.length c'], .pointer (some ⟨g, 0, none⟩)] w fun e w' => e = .returned (.bool (hasB M r xs)) ∧ Below w.heap.size w w' := by
  have B0 := Lib.hid (below_alloc w (.cells #[.int .i64 r, .slice B xs.length c'] 98))
  have XC := Lib.hid (impl_HasFact A c M r xs B c' hz hl hc hm _ (h.step B0.out) (h'.step B0.out))
  have X1 := (hb.step B0.out).cell 0
  have gn := hb.lt
  simp only [List.getElem?_toArray, List.getElem?_cons_zero, List.getElem?_cons_succ] at X1
  clear h h' hb
  go_enter Try.func85, Try.ntmps85
  go_wp2_with fail
  refine XC.out.mono ?_
  rintro e u ⟨rfl, d⟩
  have D := Lib.hid (step B0.out d)
  clear d
  go_wp2
  go_ret
  exact ⟨rfl, D.out⟩

set_option maxHeartbeats 1000000 in
set_option maxRecDepth 100000 in
theorem areAllR_any (g : Nat) (A : Option Addr) (c : Nat) (M : FL) (R : Option Addr) (cr : Nat) (rs : FL) (hz : szF M ≤ 1048576) (hzr : szF rs ≤ 1048576) (w : World) (h : RF w A M) (h' : RF w R rs) (hg : Box w g #[.slice A M.length c] 50) :
    Calls Try.prog 87 #[.slice R rs.length cr, .func (.func 85) #[] #[.pointer (some ⟨g, 0, none⟩)]] w fun e w' => e = .returned (.bool (hasN M rs rs.length)) ∧ Below w.heap.size w w' := by
  have hl := szF_len hzr
  have hl' : (rs.length : Int) ≤ 1048576 := by omega
  have HI := Lib.hid h
  have HJ := Lib.hid h'
  have HG := Lib.hid hg
  clear h h' hg
  go_enter Try.func87, Try.ntmps87
  go_wp2
  go_loopw [6, 9] (fun _ i wr => ∃ k : Nat, k ≤ rs.length ∧ i = .int .i64 k ∧ hasN M rs k = true ∧ Hid (Below w.heap.size w wr)) (fun _ i _ => rs.length - (intOf i).toNat)
  case atStart => exact ⟨0, by omega, rfl, rfl, Lib.hid (Below.refl _ _)⟩
  case round =>
    obtain ⟨k, hk, rfl, ha, hb⟩ := hrel
    have HA := Lib.hid ha
    clear ha
    by_cases hlt : k < rs.length
    · generalize hf : rs.getD k (0, []) = f
      obtain ⟨r, xs⟩ := f
      have HF := Lib.hid (show hasB M (rs.getD k (0, [])).1 (rs.getD k (0, [])).2 = hasB M r xs by rw [hf])
      have hxl : xs.length ≤ 1048576 := by have := szF_elem hzr hlt; rw [hf] at this; exact this
      obtain ⟨b, off, B, c2, rfl, n1, e0, e1, hxc, hcm, hI⟩ := (HJ.out.step hb.out).at_ hlt hf
      have bv := below_alloc wr (.cells #[.int .i64 r, .slice B xs.length c2] 98)
      have XC := Lib.hid (isResponse1_any g A c M r xs B c2 hz hxl hxc hcm _ ((HI.out.step hb.out).step bv) (hI.step bv) ((HG.out.step hb.out).step bv))
      generalize hasB M r xs = res at XC HF
      clear hf hI bv
      have hk0 : (0 : Int) ≤ (k : Int) := by omega
      have hk1 : (k : Int) < (rs.length : Int) := by omega
      go_wp2_with fail
      refine XC.out.mono ?_
      rintro e u ⟨rfl, d⟩
      have hb2 := step hb.out (below_new d)
      clear d
      cases res
      · go_wp2
        go_ret
        exact ⟨ret_bool (hasN_not M rs k _ hlt HF.out).symm, hb2⟩
      · go_wp2
        go_roundw
        case rel => exact ⟨k + 1, by omega, by go_num, by rw [hasN_succ, HA.out, HF.out]; rfl, Lib.hid hb2⟩
        case measure => simp [intOf]; omega
    · obtain rfl : k = rs.length := by omega
      go_wp2
      go_ret
      exact ⟨ret_bool HA.out.symm, hb.out⟩

set_option maxHeartbeats 4000000 in
set_option maxRecDepth 100000 in
theorem impl_IsResponse (S : Option Addr) (cs : Nat) (s : List Int) (L : Option Addr) (cl : Nat) (l : ML) (D : Option Addr) (cd : Nat) (fs : FL) (m : Int) (vs : List Int) (V : Option Addr) (cv : Nat) (R : Option Addr) (cr : Nat) (rs : FL)
    (hls : s.length ≤ 1048576) (hz : szM l ≤ 1048576) (hzf : szF fs ≤ 1048576) (hlv : vs.length ≤ 1048576) (hzr : szF rs ≤ 1048576) (w : World) (h : RI w S s) (h' : RM w L l) (hd : RF w D fs) (hv : RI w V vs) (hr : RF w R rs) :
    Calls Try.prog 43 #[.slice S s.length cs, .slice L l.length cl, .slice D fs.length cd, .agg #[.int .i64 m, .slice V vs.length cv], .slice R rs.length cr] w fun e w' => e = .returned (.bool (rspB s l fs m vs rs)) ∧ Below w.heap.size w w' := by
  have hrl := szF_len hzr
  have hrl' : (rs.length : Int) ≤ 1048576 := by omega
  have bb := below_alloc w (.cells #[.int .i64 m, .slice V vs.length cv] 44)
  obtain ⟨W0, hW0⟩ : ∃ W0, W0 = w.alloc (.cells #[.int .i64 m, .slice V vs.length cv] 44) := ⟨_, rfl⟩
  have X0 := Box.new w #[.int .i64 m, .slice V vs.length cv] 44
  rw [← hW0] at X0 bb
  have HB0 := Lib.hid bb
  have HX0 := Lib.hid X0
  have HI := Lib.hid (h.step bb)
  have HL := Lib.hid (h'.step bb)
  have HD := Lib.hid (hd.step bb)
  have HV := Lib.hid (hv.step bb)
  have HR := Lib.hid (hr.step bb)
  have EW := Lib.hid hW0
  have x0 := X0.cell 0
  have x1 := X0.cell 1
  simp only [List.getElem?_toArray, List.getElem?_cons_zero, List.getElem?_cons_succ] at x0 x1
  have XA := Lib.hid (impl_IsAccess S cs s L cl l m vs V cv hls hz hlv W0 HI.out HL.out HV.out)
  have XF := Lib.hid fun (W : World) (hW : Below W0.heap.size W0 W) => impl_AreFacts S cs s D cd fs hls hzf W (HI.out.step hW) (HD.out.step hW)
  have XR := Lib.hid fun (W : World) (hW : Below W0.heap.size W0 W) => impl_AreFacts S cs s R cr rs hls hzr W (HI.out.step hW) (HR.out.step hW)
  clear h h' hd hv hr bb hW0 X0
  by_cases ca : accB s l m vs = true
  rotate_left
  · have CA := Lib.hid (show accB s l m vs = false by simpa using ca)
    have EH := Lib.hid (show rspB s l fs m vs rs = false by unfold rspB; rw [CA.out]; simp)
    rw [CA.out] at XA
    clear ca
    go_enter Try.func43, Try.ntmps43
    go_wp2_with fail
    rw [← EW.out]
    refine (XA.out).mono ?_
    rintro e u1 ⟨rfl, d1⟩
    have D1 := Lib.hid d1
    clear d1
    go_wp2
    go_ret
    exact ⟨ret_bool EH.out.symm, step HB0.out D1.out⟩
  have CA := Lib.hid ca
  rw [ca] at XA
  clear ca
  by_cases cf : areB s fs = true
  rotate_left
  · have CF := Lib.hid (show areB s fs = false by simpa using cf)
    have EH := Lib.hid (show rspB s l fs m vs rs = false by unfold rspB; rw [CF.out]; simp)
    rw [CF.out] at XF
    clear cf
    go_enter Try.func43, Try.ntmps43
    go_wp2_with fail
    rw [← EW.out]
    refine (XA.out).mono ?_
    rintro e u1 ⟨rfl, d1⟩
    have D1 := Lib.hid d1
    clear d1
    go_wp2_with fail
    refine (XF.out _ D1.out).mono ?_
    rintro e u2 ⟨rfl, d2⟩
    have D2 := Lib.hid (step D1.out d2)
    clear d2
    go_wp2
    go_ret
    exact ⟨ret_bool EH.out.symm, step HB0.out D2.out⟩
  have CF := Lib.hid cf
  rw [cf] at XF
  clear cf
  by_cases cr' : areB s rs = true
  rotate_left
  · have CR := Lib.hid (show areB s rs = false by simpa using cr')
    have EH := Lib.hid (show rspB s l fs m vs rs = false by unfold rspB; rw [CR.out]; simp)
    rw [CR.out] at XR
    clear cr'
    go_enter Try.func43, Try.ntmps43
    go_wp2_with fail
    rw [← EW.out]
    refine (XA.out).mono ?_
    rintro e u1 ⟨rfl, d1⟩
    have D1 := Lib.hid d1
    clear d1
    go_wp2_with fail
    refine (XF.out _ D1.out).mono ?_
    rintro e u2 ⟨rfl, d2⟩
    have D2 := Lib.hid (step D1.out d2)
    clear d2
    go_wp2_with fail
    refine (XR.out _ D2.out).mono ?_
    rintro e u3 ⟨rfl, d3⟩
    have D3 := Lib.hid (step D2.out d3)
    clear d3
    go_wp2
    go_ret
    exact ⟨ret_bool EH.out.symm, step HB0.out D3.out⟩
  have CR := Lib.hid cr'
  rw [cr'] at XR
  clear cr'
  have hm0 := (acc_of CA.out).2.1
  have hml := (acc_of CA.out).2.2.1
  obtain ⟨k, rfl⟩ := Int.eq_ofNat_of_zero_le hm0
  rw [Int.toNat_natCast] at hml
  have hmt := (acc_of CA.out).2.2.2.2
  rw [Int.toNat_natCast] at hmt
  generalize hf : l.getD k noM = f at hmt
  obtain ⟨r, xs, li, co, qu⟩ := f
  have hli := met_lim (show methB s r xs li co qu = true from hmt)
  have hli0 := hli.1
  have hli9 := hli.2
  have FO := Lib.hid (fit_of CA.out CF.out (show l.getD ((k : Int)).toNat noM = (r, xs, li, co, qu) by rw [Int.toNat_natCast]; exact hf))
  have EM := Lib.hid (show rspM l fs (k : Int) vs = matF r xs vs fs by unfold rspM; rw [Int.toNat_natCast, hf])
  have hzm : szF (matF r xs vs fs) ≤ 1048576 := szF_matF hzf
  obtain ⟨M, hM⟩ : ∃ M, M = matF r xs vs fs := ⟨_, rfl⟩
  rw [← hM] at hzm EM
  have HM := Lib.hid hM
  have hmlen := szF_len hzm
  have hmlen' : (M.length : Int) ≤ 1048576 := by omega
  have EH := Lib.hid (show rspB s l fs (k : Int) vs rs = (hasN M rs rs.length && decide ((rs.length : Int) = sizR li M.length)) by unfold rspB; rw [CA.out, CF.out, CR.out, EM.out, Int.toNat_natCast, hf]; rfl)
  have hxl : xs.length ≤ 1048576 := by have := szM_elem hz hml; rw [hf] at this; exact this
  have hk0 : (0 : Int) ≤ (k : Int) := by omega
  have hk1 : (k : Int) < (l.length : Int) := by omega
  have HF := Lib.hid hf
  clear hf hm0 hmt hM hli
  go_enter Try.func43, Try.ntmps43
  go_wp2_with fail
  rw [← EW.out]
  refine (XA.out).mono ?_
  rintro e u1 ⟨rfl, d1⟩
  have D1 := Lib.hid d1
  clear d1
  go_wp2_with fail
  refine (XF.out _ D1.out).mono ?_
  rintro e u2 ⟨rfl, d2⟩
  have D2 := Lib.hid (step D1.out d2)
  clear d2
  go_wp2_with fail
  refine (XR.out _ D2.out).mono ?_
  rintro e u3 ⟨rfl, d3⟩
  have D3 := Lib.hid (step D2.out d3)
  clear d3
  clear x0 x1
  have Z := HX0.out.step D3.out
  have x0 := Z.cell 0
  have x1 := Z.cell 1
  simp only [List.getElem?_toArray, List.getElem?_cons_zero, List.getElem?_cons_succ] at x0 x1
  have zn := Z.lt
  clear Z
  go_wp2_with fail
  refine (callOf_any L cl l k vs V cv hml hz r li co qu xs HF.out u3 (HL.out.step D3.out)).mono ?_
  rintro e u4 ⟨B, c2, rfl, hX, d4⟩
  have D4 := Lib.hid (step D3.out d4)
  obtain ⟨w4, hw4⟩ : ∃ w4, w4 = u4.alloc (.cells #[.int .i64 r, .slice B xs.length c2, .int .i64 li, .int .i64 co, .int .i64 qu, .slice V vs.length cv] 101) := ⟨_, rfl⟩
  have bw4 := below_alloc u4 (.cells #[.int .i64 r, .slice B xs.length c2, .int .i64 li, .int .i64 co, .int .i64 qu, .slice V vs.length cv] 101)
  have Z4 := Box.new u4 #[.int .i64 r, .slice B xs.length c2, .int .i64 li, .int .i64 co, .int .i64 qu, .slice V vs.length cv] 101
  rw [← hw4] at bw4 Z4
  have EW4 := Lib.hid hw4
  have HX := Lib.hid (hX.step bw4)
  have HZ4 := Lib.hid Z4
  have DW4 := Lib.hid (step D4.out bw4)
  have z0 := Z4.cell 0
  have z1 := Z4.cell 1
  have z2 := Z4.cell 2
  have z3 := Z4.cell 3
  have z4 := Z4.cell 4
  have z5 := Z4.cell 5
  simp only [List.getElem?_toArray, List.getElem?_cons_zero, List.getElem?_cons_succ] at z0 z1 z2 z3 z4 z5
  have zn4 := Z4.lt
  clear hX d4 hw4 bw4 Z4 x0 x1 zn
  go_wp2_with fail
  rw [← EW4.out]
  refine (matchesAmong_any r xs li co qu B c2 vs V cv D cd fs hxl FO.out.1 hzf FO.out.2 _ HX.out (HV.out.step DW4.out) (HD.out.step DW4.out)).mono ?_
  rintro e u5 ⟨A5, c5, cs5, bs5, rfl, ho5, d5⟩
  have hO5 : RF u5 A5 M := by rw [HM.out]; exact (show OwnC u5 w4.heap.size u5.heap.size _ _ _ _ from ho5).rf
  rw [← HM.out]
  obtain ⟨w5, hw5⟩ : ∃ w5, w5 = u5.alloc (.cells #[.slice A5 M.length c5] 50) := ⟨_, rfl⟩
  have bw5 := below_alloc u5 (.cells #[.slice A5 M.length c5] 50)
  have Z5 := Box.new u5 #[.slice A5 M.length c5] 50
  rw [← hw5] at bw5 Z5
  have EW5 := Lib.hid hw5
  have O5 := Lib.hid (hO5.step bw5)
  have DW5 := Lib.hid (step DW4.out (step d5 bw5))
  have HZ5 := Lib.hid Z5
  have Z45 := Lib.hid (HZ4.out.step (step d5 bw5))
  clear ho5 hO5 d5 hw5 bw5 Z5 z0 z1 z2 z3 z4 z5 zn4 HZ4
  have XN := Lib.hid (areAllR_any u5.heap.size A5 c5 M R cr rs hzm hzr w5 O5.out (HR.out.step DW5.out) HZ5.out)
  go_wp2_with fail
  rw [← EW5.out]
  by_cases cn : hasN M rs rs.length = true
  · have EJ := Lib.hid (show rspB s l fs (k : Int) vs rs = decide ((rs.length : Int) = sizR li M.length) by rw [EH.out, cn]; rfl)
    rw [cn] at XN
    clear cn
    refine XN.out.mono ?_
    rintro e u6 ⟨rfl, d6⟩
    have D6 := Lib.hid (step DW5.out d6)
    have Y4 := Z45.out.step d6
    have z0 := Y4.cell 0
    have z1 := Y4.cell 1
    have z2 := Y4.cell 2
    have z3 := Y4.cell 3
    have z4 := Y4.cell 4
    have z5 := Y4.cell 5
    have Y5 := HZ5.out.step d6
    have y0 := Y5.cell 0
    simp only [List.getElem?_toArray, List.getElem?_cons_zero, List.getElem?_cons_succ] at z0 z1 z2 z3 z4 z5 y0
    have zn4 := Y4.lt
    have yn := Y5.lt
    have XS := Lib.hid fun W => sizeOfResponse_any r B xs.length c2 li co qu V vs.length cv M.length hmlen hli0 hli9 W
    generalize sizR li M.length = sz at EJ XS
    clear d6 Y4 Y5
    go_wp2_with fail
    refine (XS.out _).mono ?_
    rintro e u7 ⟨rfl, d7⟩
    have D7 := Lib.hid (step D6.out d7)
    clear d7
    go_wp2
    go_ret
    exact ⟨ret_bool (by rw [EJ.out]; rfl), step HB0.out D7.out⟩
  · have EJ := Lib.hid (show rspB s l fs (k : Int) vs rs = false by rw [EH.out, show hasN M rs rs.length = false by simpa using cn]; rfl)
    rw [show hasN M rs rs.length = false by simpa using cn] at XN
    clear cn
    refine XN.out.mono ?_
    rintro e u6 ⟨rfl, d6⟩
    have D6 := Lib.hid (step DW5.out d6)
    clear d6
    go_wp2
    go_ret
    exact ⟨ret_bool EJ.out.symm, step HB0.out D6.out⟩
end Go.Proofs.Ytenondgjipmhnaa
