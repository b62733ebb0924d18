/- What the program's RespondTo answers. Conditions: none beyond each theorem's own. -/
import Derived.Test.YtenondgjipmhnaaRs2
import Derived.Test.YtenondgjipmhnaaRs8
namespace Go.Proofs.Ytenondgjipmhnaa
open Go.ChangeShapes Go.WideShapes Go.ChangeAt Go.RowKit Go.Sort
set_option linter.unusedVariables false
set_option linter.unusedSimpArgs false

def sizF (li : Int) (n : Nat) : Int := if li = 0 then (n : Int) else min (n : Int) li
set_option maxHeartbeats 1000000 in
set_option maxRecDepth 100000 in
theorem sizeF_any (r : Int) (A : Option Addr) (n c : Nat) (li co qu : Int) (V : Option Addr) (nv cv : Nat) (k : Nat) (hk : k ≤ 1048576) (h0 : 0 ≤ li) (h9 : li ≤ 9) (w : World) :
    Calls Try.prog 83 #[.agg #[.int .i64 r, .slice A n c, .int .i64 li, .int .i64 co, .int .i64 qu, .slice V nv cv], .int .i64 k] w fun e w' => e = .returned (.int .i64 (sizF li k)) ∧ Below w.heap.size w w' := by
  have hk' : (k : Int) ≤ 1048576 := by omega
  by_cases hz : li = 0
  · have ES := Lib.hid (show sizF li k = (k : Int) by unfold sizF; rw [if_pos hz])
    have d0 : (li == 0) = true := by simpa using hz
    clear hz
    go_enter Try.func83, Try.ntmps83
    go_wp2
    go_ret
    exact ⟨ret_int ES.out.symm, below_alloc _ _⟩
  · have d0 : (li == 0) = false := by simpa using hz
    have ES := Lib.hid (show sizF li k = min (k : Int) li by unfold sizF; rw [if_neg hz])
    clear hz
    by_cases hc : (k : Int) ≤ li
    · have ET := Lib.hid (show sizF li k = (k : Int) by rw [ES.out]; omega)
      have d1 : min (k : Int) li = (k : Int) := by omega
      go_enter Try.func83, Try.ntmps83
      go_wp2
      go_ret
      exact ⟨ret_int ET.out.symm, below_alloc _ _⟩
    · have ET := Lib.hid (show sizF li k = li by rw [ES.out]; omega)
      have d1 : min (k : Int) li = li := by omega
      go_enter Try.func83, Try.ntmps83
      go_wp2
      go_ret
      exact ⟨ret_int ET.out.symm, below_alloc _ _⟩

theorem szF_rsO (s : List Int) (l : ML) (fs : FL) (m : Int) (vs : List Int) (ch : Int) (hz : szF fs ≤ 1048576) : szF (rsO s l fs m vs ch) ≤ 1048576 := by
  have h := szF_matO' s l fs m vs hz
  unfold rsO rspF
  split
  · exact h
  · have h1 := szF_addAll (rotF (matO s l fs m vs) (begF (matO s l fs m vs) ch) (l.getD m.toNat noM).2.2.1.toNat) []
    have h2 := szF_rot (matO s l fs m vs) (begF (matO s l fs m vs) ch) (l.getD m.toNat noM).2.2.1.toNat
    have h3 : szF ([] : FL) = 0 := rfl
    omega
theorem sizF_nat {li : Int} (h0 : 0 ≤ li) (M : FL) (ch : Int) (ha : AscF M) (hM : 0 < M.length) : ∃ n : Nat, sizF li M.length = (n : Int) ∧ 0 < n ∧ n ≤ M.length ∧ rspF M li ch = addAll (rotF M (begF M ch) n) [] := by
  by_cases h : li = 0 ∨ (M.length : Int) ≤ li
  · refine ⟨M.length, ?_, hM, Nat.le_refl _, ?_⟩
    · unfold sizF
      split
      · rfl
      · omega
    · rw [rspF_all (.inr h)]
      exact (addAll_sorts (rotF_nodup ha.nodup _ _) ha (rotF_all M _).symm).symm
  · have h1 : ¬ li = 0 := fun e => h (.inl e)
    have h2 : ¬ (M.length : Int) ≤ li := fun e => h (.inr e)
    refine ⟨li.toNat, ?_, by omega, by omega, rspF_some (by rintro (e | e | e); omega; exact h1 e; exact h2 e)⟩
    unfold sizF
    rw [if_neg h1]
    omega

set_option maxHeartbeats 4000000 in
set_option maxRecDepth 100000 in
theorem impl_RespondTo (S : Option Addr) (cs : Nat) (s : List Int) (L : Option Addr) (cl : Nat) (l : ML) (D : Option Addr) (cd : Nat) (fs : FL) (m : Int) (vs : List Int) (V : Option Addr) (cv : Nat) (ch : Int) (hc1 : -9223372036854775808 ≤ ch) (hc2 : ch ≤ 9223372036854775807) (hls : s.length ≤ 1048576) (hz : szM l ≤ 1048576) (hzf : szF fs ≤ 1048576) (hlv : vs.length ≤ 1048576) (w : World) (h : RI w S s) (h' : RM w L l) (hd : RF w D fs) (hv : RI w V vs) :
    Calls Try.prog 41 #[.slice S s.length cs, .slice L l.length cl, .slice D fs.length cd, .agg #[.int .i64 m, .slice V vs.length cv], .int .i64 ch] w (AddOut w (rsO s l fs m vs ch)) := by
  have bb := below_alloc w (.cells #[.int .i64 m, .slice V vs.length cv] 44)
  obtain ⟨W0, hW0⟩ : ∃ W0, W0 = w.alloc (.cells #[.int .i64 m, .slice V vs.length cv] 44) := ⟨_, rfl⟩
  have X0 := Box.new w #[.int .i64 m, .slice V vs.length cv] 44
  rw [← hW0] at X0 bb
  have HB0 := Lib.hid bb
  have HX0 := Lib.hid X0
  have HI := Lib.hid (h.step bb)
  have HL := Lib.hid (h'.step bb)
  have HD := Lib.hid (hd.step bb)
  have HV := Lib.hid (hv.step bb)
  have EW := Lib.hid hW0
  have x0 := X0.cell 0
  have x1 := X0.cell 1
  simp only [List.getElem?_toArray, List.getElem?_cons_zero, List.getElem?_cons_succ] at x0 x1
  have XA := Lib.hid (impl_IsAccess S cs s L cl l m vs V cv hls hz hlv W0 HI.out HL.out HV.out)
  clear h h' hd hv bb hW0 X0
  by_cases ca : accB s l m vs = true
  · have CA := Lib.hid ca
    rw [ca] at XA
    clear ca
    by_cases cf : areB s fs = true
    · have CF := Lib.hid cf
      clear cf
      have hm0 := (acc_of CA.out).2.1
      have hml := (acc_of CA.out).2.2.1
      obtain ⟨k, rfl⟩ := Int.eq_ofNat_of_zero_le hm0
      rw [Int.toNat_natCast] at hml
      generalize hf : l.getD k noM = f
      obtain ⟨r, xs, li, co, qu⟩ := f
      have FO := Lib.hid (fit_of CA.out CF.out (show l.getD ((k : Int)).toNat noM = (r, xs, li, co, qu) by rw [Int.toNat_natCast]; exact hf))
      have EQ : matO s l fs (k : Int) vs = matF r xs vs fs := by unfold matO; rw [CA.out, CF.out, Int.toNat_natCast, hf]; rfl
      have EH0 : rsO s l fs (k : Int) vs ch = rspF (matF r xs vs fs) li ch := by unfold rsO; rw [EQ, Int.toNat_natCast, hf]
      have HASC := matO_asc s l fs (k : Int) vs
      rw [EQ] at HASC
      have hzm : szF (matF r xs vs fs) ≤ 1048576 := by have := szF_matO' s l fs (k : Int) vs hzf; rw [EQ] at this; exact this
      have hli := limit_of CA.out (show l.getD ((k : Int)).toNat noM = (r, xs, li, co, qu) by rw [Int.toNat_natCast]; exact hf)
      have hli0 := hli.1
      have hli9 := hli.2
      obtain ⟨M, hM⟩ : ∃ M, M = matF r xs vs fs := ⟨_, rfl⟩
      rw [← hM] at hzm EH0 HASC
      have HM := Lib.hid hM
      have HA := Lib.hid HASC
      have EH := Lib.hid EH0
      have hmlen := szF_len hzm
      have hmlen' : (M.length : Int) ≤ 1048576 := by omega
      clear EQ EH0 HASC hM hli
      have hxl : xs.length ≤ 1048576 := by have := szM_elem hz hml; rw [hf] at this; exact this
      have hk0 : (0 : Int) ≤ (k : Int) := by omega
      have hk1 : (k : Int) < (l.length : Int) := by omega
      have HF := Lib.hid hf
      have XF := Lib.hid fun (W : World) (hW : Below W0.heap.size W0 W) => (show Calls Try.prog 77 #[.slice S s.length cs, .slice D fs.length cd] W fun e w' => e = .returned (.bool true) ∧ Below W.heap.size W w' by have := impl_AreFacts S cs s D cd fs hls hzf W (HI.out.step hW) (HD.out.step hW); rw [CF.out] at this; exact this)
      clear hf hm0
      go_enter Try.func41, Try.ntmps41
      go_wp2_with fail
      rw [← EW.out]
      refine XA.out.mono ?_
      rintro e u1 ⟨rfl, d1⟩
      have D1 := Lib.hid d1
      clear d1
      go_wp2_with fail
      refine (XF.out _ D1.out).mono ?_
      rintro e u2 ⟨rfl, d2⟩
      have D2 := Lib.hid (step D1.out d2)
      clear d2 x0 x1
      have Z := HX0.out.step D2.out
      have x0 := Z.cell 0
      have x1 := Z.cell 1
      simp only [List.getElem?_toArray, List.getElem?_cons_zero, List.getElem?_cons_succ] at x0 x1
      have zn := Z.lt
      go_wp2_with fail
      refine (callOf_any L cl l k vs V cv hml hz r li co qu xs HF.out u2 (HL.out.step D2.out)).mono ?_
      rintro e u4 ⟨B, c2, rfl, hX, d4⟩
      have D4 := Lib.hid (step D2.out d4)
      obtain ⟨w4, hw4⟩ : ∃ w4, w4 = u4.alloc (.cells #[.int .i64 r, .slice B xs.length c2, .int .i64 li, .int .i64 co, .int .i64 qu, .slice V vs.length cv] 101) := ⟨_, rfl⟩
      have bw4 := below_alloc u4 (.cells #[.int .i64 r, .slice B xs.length c2, .int .i64 li, .int .i64 co, .int .i64 qu, .slice V vs.length cv] 101)
      have Z4 := Box.new u4 #[.int .i64 r, .slice B xs.length c2, .int .i64 li, .int .i64 co, .int .i64 qu, .slice V vs.length cv] 101
      rw [← hw4] at bw4 Z4
      have EW4 := Lib.hid hw4
      have HX := Lib.hid (hX.step bw4)
      have HZ4 := Lib.hid Z4
      have DW4 := Lib.hid (step D4.out bw4)
      have z0 := Z4.cell 0
      have z1 := Z4.cell 1
      have z2 := Z4.cell 2
      have z3 := Z4.cell 3
      have z4 := Z4.cell 4
      have z5 := Z4.cell 5
      simp only [List.getElem?_toArray, List.getElem?_cons_zero, List.getElem?_cons_succ] at z0 z1 z2 z3 z4 z5
      have zn4 := Z4.lt
      clear hX d4 hw4 bw4 Z4 x0 x1 zn
      go_wp2_with fail
      rw [← EW4.out]
      refine (matchesAmong_any r xs li co qu B c2 vs V cv D cd fs hxl FO.out.1 hzf FO.out.2 _ HX.out (HV.out.step DW4.out) (HD.out.step DW4.out)).mono ?_
      rintro e u5 ⟨A5, c5, cs5, bs5, rfl, ho5, d5⟩
      rw [← HM.out] at ho5 ⊢
      have O5 := Lib.hid ho5
      have D5 := Lib.hid d5
      have Z5 := HZ4.out.step d5
      clear z0 z1 z2 z3 z4 z5 zn4 ho5 d5
      have z0 := Z5.cell 0
      have z1 := Z5.cell 1
      have z2 := Z5.cell 2
      have z3 := Z5.cell 3
      have z4 := Z5.cell 4
      have z5 := Z5.cell 5
      simp only [List.getElem?_toArray, List.getElem?_cons_zero, List.getElem?_cons_succ] at z0 z1 z2 z3 z4 z5
      have zn5 := Z5.lt
      clear Z5
      have XS := Lib.hid fun W => sizeF_any r B xs.length c2 li co qu V vs.length cv M.length hmlen hli0 hli9 W
      by_cases hMp : 0 < M.length
      · obtain ⟨n, en, hn0, hn1, er⟩ := sizF_nat hli0 M ch HA.out hMp
        obtain ⟨b, cap, hv5, hb1, hb2, hb3, hb4⟩ := ownsRow_some O5.out.1 hMp
        injection hv5 with hv5 hv6 hv7
        subst hv5 hv7
        rw [en] at XS
        have ER := Lib.hid er
        clear er en
        go_wp2_with fail
        refine (XS.out _).mono ?_
        rintro e u6 ⟨rfl, d6⟩
        have D6 := Lib.hid d6
        clear d6 z0 z1 z2 z3 z4 z5 zn5
        go_wp2_with fail
        refine (chooseFrom_any b c5 w4.heap.size M cs5 bs5 n ch hc1 hc2 HA.out.nodup hmlen hn0 hn1 hzm u6 (Nat.le_trans D5.out.size D6.out.size) (O5.out.step D6.out) (Nat.lt_of_lt_of_le hb2 D6.out.size) hb3 hb4).mono ?_
        rintro e u7 ⟨A7, c7, cs7, bs7, rfl, ho7, d7⟩
        have O7 := Lib.hid ho7
        have D7 := Lib.hid (step (step (step HB0.out DW4.out) (step D5.out D6.out)) d7)
        have LO := Lib.hid (show w.heap.size ≤ w4.heap.size from (step HB0.out DW4.out).size)
        clear ho7 d7
        go_wp2
        go_ret
        rw [EH.out, ER.out]
        exact ⟨A7, c7, cs7, bs7, rfl, O7.out.lo LO.out, D7.out⟩
      · have hMe : M = [] := List.eq_nil_of_length_eq_zero (by omega)
        have en : sizF li M.length = 0 := by
          unfold sizF
          split <;> omega
        rw [en] at XS
        have ER := Lib.hid (show rspF M li ch = [] by rw [hMe]; exact rspF_all (.inl rfl))
        clear en hMe
        go_wp2_with fail
        refine (XS.out _).mono ?_
        rintro e u6 ⟨rfl, d6⟩
        have D6 := Lib.hid d6
        clear d6 z0 z1 z2 z3 z4 z5 zn5
        go_wp2_with fail
        refine (chooseFrom_zero _ ch u6).mono ?_
        rintro e u7 ⟨rfl, rfl⟩
        have D7 := Lib.hid (step (step HB0.out DW4.out) (step D5.out D6.out))
        go_wp2
        go_ret
        rw [EH.out, ER.out]
        exact addOut_nil w _ D7.out
    · have CF := Lib.hid (show areB s fs = false by simpa using cf)
      have EH := Lib.hid (show rsO s l fs m vs ch = [] by unfold rsO; rw [show matO s l fs m vs = [] by unfold matO; rw [CF.out]; simp]; exact rspF_all (.inl rfl))
      have XF := Lib.hid fun (W : World) (hW : Below W0.heap.size W0 W) => (show Calls Try.prog 77 #[.slice S s.length cs, .slice D fs.length cd] W fun e w' => e = .returned (.bool false) ∧ Below W.heap.size W w' by have := impl_AreFacts S cs s D cd fs hls hzf W (HI.out.step hW) (HD.out.step hW); rw [CF.out] at this; exact this)
      clear cf
      go_enter Try.func41, Try.ntmps41
      go_wp2_with fail
      rw [← EW.out]
      refine XA.out.mono ?_
      rintro e u1 ⟨rfl, d1⟩
      have D1 := Lib.hid d1
      clear d1
      go_wp2_with fail
      refine (XF.out _ D1.out).mono ?_
      rintro e u2 ⟨rfl, d2⟩
      have D2 := Lib.hid (step HB0.out (step D1.out d2))
      clear d2
      go_wp2
      go_ret
      rw [EH.out]
      exact addOut_nil w u2 D2.out
  · have CA := Lib.hid (show accB s l m vs = false by simpa using ca)
    have EH := Lib.hid (show rsO s l fs m vs ch = [] by unfold rsO; rw [show matO s l fs m vs = [] by unfold matO; rw [CA.out]; simp]; exact rspF_all (.inl rfl))
    rw [CA.out] at XA
    clear ca
    go_enter Try.func41, Try.ntmps41
    go_wp2_with fail
    rw [← EW.out]
    refine XA.out.mono ?_
    rintro e u1 ⟨rfl, d1⟩
    have D1 := Lib.hid (step HB0.out d1)
    clear d1
    go_wp2
    go_ret
    rw [EH.out]
    exact addOut_nil w u1 D1.out
end Go.Proofs.Ytenondgjipmhnaa
