/- What the model's RespondTo answers. Conditions: none beyond each theorem's own. -/
import Derived.Test.YtenondgjipmhnaaRs1
namespace Go.Proofs.Ytenondgjipmhnaa
open Go.ChangeShapes Go.WideShapes Go.ChangeAt Go.RowKit Go.Sort
set_option linter.unusedVariables false
set_option linter.unusedSimpArgs false

def rsO (s : List Int) (l : ML) (fs : FL) (m : Int) (vs : List Int) (ch : Int) : FL := rspF (matO s l fs m vs) (l.getD m.toNat noM).2.2.1 ch
theorem rspF_all {M : FL} {lim ch : Int} (h : M.length = 0 ∨ lim = 0 ∨ (M.length : Int) ≤ lim) : rspF M lim ch = M := if_pos h
theorem rspF_some {M : FL} {lim ch : Int} (h : ¬ (M.length = 0 ∨ lim = 0 ∨ (M.length : Int) ≤ lim)) : rspF M lim ch = addAll (rotF M (begF M ch) lim.toNat) [] := if_neg h
theorem matO_some {s : List Int} {l : ML} {fs : FL} {m : Int} {vs : List Int} (h : matO s l fs m vs ≠ []) : accB s l m vs = true ∧ areB s fs = true ∧ matO s l fs m vs = matF (l.getD m.toNat noM).1 (l.getD m.toNat noM).2.1 vs fs := by
  unfold matO at h ⊢
  split at h
  · rename_i hb
    rw [Bool.and_eq_true] at hb
    exact ⟨hb.1, hb.2, by rw [if_pos (by rw [Bool.and_eq_true]; exact hb)]⟩
  · exact absurd rfl h
theorem matO_asc (s : List Int) (l : ML) (fs : FL) (m : Int) (vs : List Int) : AscF (matO s l fs m vs) := by
  by_cases h : matO s l fs m vs = []
  · rw [h]; exact List.Pairwise.nil
  · obtain ⟨_, h2, h3⟩ := matO_some h
    rw [h3]
    exact matF_asc (areB_asc h2)
theorem szF_append (l l' : FL) : szF (l ++ l') = szF l + szF l' := by
  unfold szF
  rw [sumN_append, List.length_append]
  omega
theorem szF_rot (M : FL) (k n : Nat) : szF (rotF M k n) ≤ szF M := by
  have h1 := szF_take (M.drop k ++ M.take k) n
  have h2 := szF_append (M.drop k) (M.take k)
  have h3 := szF_append (M.take k) (M.drop k)
  rw [List.take_append_drop] at h3
  unfold rotF
  omega
theorem addAll_snoc (c l : FL) (f : Int × List Int) : addAll (c ++ [f]) l = addF (addAll c l) f.1 f.2 := by simp [addAll]
theorem szF_addAll : ∀ c l : FL, szF (addAll c l) ≤ szF c + szF l
  | [], l => by simp [addAll, szF, sumN]
  | f :: c, l => by
    have h1 := szF_addAll c (addF l f.1 f.2)
    have h2 := szF_addF l f.1 f.2
    have h3 : szF (f :: c) = 1 + f.2.length + szF c := by simp [szF, sumN]; omega
    show szF (addAll c (addF l f.1 f.2)) ≤ _
    omega
theorem szF_flt (P : Int × List Int → Bool) : ∀ l : FL, szF (l.filter P) ≤ szF l
  | [] => Int.le_refl _
  | f :: l => by
    have h := szF_flt P l
    have h3 : szF (f :: l) = 1 + f.2.length + szF l := by simp [szF, sumN]; omega
    by_cases hp : P f = true
    · have h4 : szF ((f :: l).filter P) = 1 + f.2.length + szF (l.filter P) := by rw [List.filter_cons, if_pos hp]; simp [szF, sumN]; omega
      omega
    · rw [List.filter_cons, if_neg hp]; omega
theorem szF_matO' (s : List Int) (l : ML) (fs : FL) (m : Int) (vs : List Int) (hz : szF fs ≤ 1048576) : szF (matO s l fs m vs) ≤ 1048576 := by
  unfold matO
  split
  · have := szF_flt (fun f => fitB (l.getD m.toNat noM).1 (l.getD m.toNat noM).2.1 vs f.1 f.2) fs
    unfold matF
    omega
  · simp [szF, sumN]
theorem matO_len (s : List Int) (l : ML) (fs : FL) (m : Int) (vs : List Int) : matO s l fs m vs ≠ [] → (matO s l fs m vs).length ≤ 24 := fun h => by
  obtain ⟨_, h2, h3⟩ := matO_some h
  rw [h3]
  have h4 := matF_len (l.getD m.toNat noM).1 (l.getD m.toNat noM).2.1 vs fs
  unfold areB at h2
  simp only [Bool.and_eq_true, decide_eq_true_eq] at h2
  omega
theorem limit_of {s : List Int} {l : ML} {m : Int} {vs : List Int} (h : accB s l m vs = true) {r li co qu : Int} {xs : List Int} (he : l.getD m.toNat noM = (r, xs, li, co, qu)) : 0 ≤ li ∧ li ≤ 9 := by
  obtain ⟨_, _, _, _, h2⟩ := acc_of h
  rw [he] at h2
  have h2' : methB s r xs li co qu = true := h2
  unfold methB at h2'
  simp only [Bool.and_eq_true] at h2'
  have h3 := h2'.1.2
  unfold numB at h3
  simp only [Bool.and_eq_true] at h3
  have h4 : inB li 0 9 = true := by first | exact h3.1.1 | exact h3.1 | exact h3.1.2
  simpa [inB] using h4

set_option maxHeartbeats 4000000 in
set_option maxRecDepth 100000 in
theorem spec_RespondTo (S : Option Addr) (cs : Nat) (s : List Int) (L : Option Addr) (cl : Nat) (l : ML) (D : Option Addr) (cd : Nat) (fs : FL) (m : Int) (vs : List Int) (V : Option Addr) (cv : Nat) (ch : Int) (hc1 : -9223372036854775808 ≤ ch) (hc2 : ch ≤ 9223372036854775807) (hls : s.length ≤ 1048576) (hz : szM l ≤ 1048576) (hzf : szF fs ≤ 1048576) (hlv : vs.length ≤ 1048576) (w : World) (h : RI w S s) (h' : RM w L l) (hd : RF w D fs) (hv : RI w V vs) :
    Calls Try.prog 40 #[.slice S s.length cs, .slice L l.length cl, .slice D fs.length cd, .agg #[.int .i64 m, .slice V vs.length cv], .int .i64 ch] w (AddOut w (rsO s l fs m vs ch)) := by
  have B0 := Lib.hid (below_alloc w (.cells #[.int .i64 m, .slice V vs.length cv] 44))
  have X0 := Lib.hid (Box.new w #[.int .i64 m, .slice V vs.length cv] 44)
  have HL := Lib.hid h'
  have XM := Lib.hid (spec_MatchesOf S cs s L cl l D cd fs m vs V cv hls hz hzf hlv _ (h.step B0.out) (h'.step B0.out) (hd.step B0.out) (hv.step B0.out))
  have x0 := X0.out.cell 0
  have x1 := X0.out.cell 1
  simp only [List.getElem?_toArray, List.getElem?_cons_zero, List.getElem?_cons_succ] at x0 x1
  have MS := Lib.hid fun (hn : matO s l fs m vs ≠ []) => matO_some hn
  have SZ := szF_matO' s l fs m vs hzf
  have ML24 := Lib.hid (matO_len s l fs m vs)
  unfold rsO
  generalize matO s l fs m vs = M at XM MS SZ ML24 ⊢
  clear h h' hd hv
  by_cases hM : M = []
  · subst hM
    rw [rspF_all (.inl rfl)]
    go_enter Try.func40, Try.ntmps40
    go_wp2_with fail
    refine XM.out.mono ?_
    rintro e u ho
    obtain ⟨A, c, cs', bs, rfl, hO, d⟩ := ho
    have R := Lib.hid (AddOut.from ⟨A, c, cs', bs, rfl, hO, d⟩ B0.out)
    clear hO d x0 x1
    go_wp2
    go_ret
    exact R.out
  · have ca := (MS.out hM).1
    have hm0 := (acc_of ca).2.1
    have hml := (acc_of ca).2.2.1
    obtain ⟨k, rfl⟩ := Int.eq_ofNat_of_zero_le hm0
    rw [Int.toNat_natCast] at hml
    generalize hf : l.getD k noM = f
    obtain ⟨r, xs, li, co, qu⟩ := f
    obtain ⟨li0, li9⟩ := limit_of ca (show l.getD ((k : Int)).toNat noM = (r, xs, li, co, qu) by rw [Int.toNat_natCast]; exact hf)
    have HF := Lib.hid hf
    have ME : l.getD ((k : Int)).toNat noM = (r, xs, li, co, qu) := by rw [Int.toNat_natCast]; exact hf
    rw [ME]
    have hMp : 0 < M.length := List.length_pos_iff.2 hM
    have hMl := ML24.out hM
    have hMl' : (M.length : Int) ≤ 24 := by omega
    have hk0 : (0 : Int) ≤ (k : Int) := by omega
    have hk1 : (k : Int) < (l.length : Int) := by omega
    have hl1 := szM_len hz
    have hl1' : (l.length : Int) ≤ 1048576 := by omega
    have d0 : ((M.length : Int) == 0) = false := by rw [beq_eq_false_iff_ne]; omega
    have d0' : (M.length == 0) = false := by rw [beq_eq_false_iff_ne]; omega
    clear hf ca hm0 ME
    by_cases hall : li = 0 ∨ (M.length : Int) ≤ li
    · rw [show rspF M (r, xs, li, co, qu).2.2.1 ch = M from rspF_all (.inr hall)]
      by_cases hz0 : li = 0
      · subst hz0
        go_enter Try.func40, Try.ntmps40
        go_wp2_with fail
        refine XM.out.mono ?_
        rintro e u ho
        obtain ⟨A, c, cs', bs, rfl, hO, d⟩ := ho
        have X1 := Lib.hid (X0.out.step d)
        obtain ⟨b, off, B, c2, rfl, nb, g0, g1, g2, g3, g4, _, _, _⟩ := (HL.out.step (step B0.out d)).at_ hml HF.out
        have R := Lib.hid (AddOut.from ⟨A, c, cs', bs, rfl, hO, d⟩ B0.out)
        have x0 := X1.out.cell 0
        simp only [List.getElem?_toArray, List.getElem?_cons_zero, List.getElem?_cons_succ] at x0
        clear hO d
        go_wp2
        go_ret
        exact R.out
      · have hle : (M.length : Int) ≤ li := by rcases hall with h | h; exact absurd h hz0; exact h
        have d1 : (li == 0) = false := by rw [beq_eq_false_iff_ne]; exact hz0
        have d2 : decide ((M.length : Int) ≤ li) = true := by simpa using hle
        go_enter Try.func40, Try.ntmps40
        go_wp2_with fail
        refine XM.out.mono ?_
        rintro e u ho
        obtain ⟨A, c, cs', bs, rfl, hO, d⟩ := ho
        have X1 := Lib.hid (X0.out.step d)
        obtain ⟨b, off, B, c2, rfl, nb, g0, g1, g2, g3, g4, _, _, _⟩ := (HL.out.step (step B0.out d)).at_ hml HF.out
        have R := Lib.hid (AddOut.from ⟨A, c, cs', bs, rfl, hO, d⟩ B0.out)
        have x0 := X1.out.cell 0
        simp only [List.getElem?_toArray, List.getElem?_cons_zero, List.getElem?_cons_succ] at x0
        clear hO d
        go_wp2
        go_ret
        exact R.out
    · have hz0 : ¬ li = 0 := fun e => hall (.inl e)
      have hgt : ¬ (M.length : Int) ≤ li := fun e => hall (.inr e)
      have d1 : (li == 0) = false := by rw [beq_eq_false_iff_ne]; exact hz0
      have d2 : decide ((M.length : Int) ≤ li) = false := by simpa using hgt
      rw [show rspF M (r, xs, li, co, qu).2.2.1 ch = addAll (rotF M (begF M ch) li.toNat) [] from rspF_some (by rintro (e | e | e); omega; exact hz0 e; exact hgt e)]
      obtain ⟨n, rfl⟩ := Int.eq_ofNat_of_zero_le li0
      rw [Int.toNat_natCast]
      have hkM : begF M ch < M.length := by unfold begF; exact Nat.mod_lt _ hMp
      have EB : (max ch 0).tmod (M.length : Int) = (begF M ch : Int) := by
        unfold begF
        obtain ⟨c', hc'⟩ := Int.eq_ofNat_of_zero_le (show 0 ≤ max ch 0 by omega)
        rw [hc', Int.toNat_natCast, Int.tmod_eq_emod_of_nonneg (by omega)]
        first | exact (Int.natCast_mod c' M.length).symm | exact (Int.natCast_emod c' M.length).symm | exact (Int.ofNat_emod c' M.length).symm | simp
      generalize begF M ch = k0 at hkM EB ⊢
      have hnM : n < M.length := by omega
      have hn9 : (n : Int) ≤ 9 := li9
      have hkM' : (k0 : Int) < (M.length : Int) := by omega
      have hk00 : (0 : Int) ≤ (k0 : Int) := by omega
      have ROT := Lib.hid fun (i : Nat) (hi : i < n) => rotF_at M hkM hi (by omega : n ≤ M.length)
      have RLEN := Lib.hid (rotF_len M hkM (by omega : n ≤ M.length))
      have RSZ := Lib.hid (szF_rot M k0 n)
      have HMD := Lib.hid fun (i : Nat) (hi : i < n) => (show ((k0 : Int) + (i : Int)).tmod (M.length : Int) = (((k0 + i) % M.length : Nat) : Int) ∧ (k0 + i) % M.length < M.length from ⟨by
        rw [show (k0 : Int) + (i : Int) = ((k0 + i : Nat) : Int) by omega, Int.tmod_eq_emod_of_nonneg (by omega)]
        first | exact (Int.natCast_mod _ M.length).symm | exact (Int.natCast_emod _ M.length).symm | exact (Int.ofNat_emod _ M.length).symm | simp, Nat.mod_lt _ hMp⟩)
      generalize rotF M k0 n = R at ROT RLEN RSZ ⊢
      have d3 : ¬ M.length ≤ n := by omega
      have d4 : decide (M.length ≤ n) = false := by simpa using hnM
      have dz : ¬ (M.length : Int) = 0 := by omega
      go_enter Try.func40, Try.ntmps40
      go_wp2_with fail
      refine XM.out.mono ?_
      rintro e u ho
      obtain ⟨A, c, cs', bs, rfl, hO, d⟩ := ho
      have X1 := Lib.hid (X0.out.step d)
      have BU := Lib.hid (step B0.out d)
      obtain ⟨b, off, B, c2, rfl, nb, g0, g1, g2, g3, g4, _, _, _⟩ := (HL.out.step BU.out).at_ hml HF.out
      have G2 := Lib.hid g2
      have HM := Lib.hid (hO.rf)
      have x0 := X1.out.cell 0
      simp only [List.getElem?_toArray, List.getElem?_cons_zero, List.getElem?_cons_succ] at x0
      clear hO d g0 g1 g3 g4 x1
      go_wp2
      try rw [EB]
      obtain ⟨W0, hW0⟩ : ∃ W0, W0 = u.alloc (.cells #[] 98) := ⟨_, rfl⟩
      have BW := Lib.hid (show Below w.heap.size w W0 by rw [hW0]; exact step BU.out (below_alloc _ _))
      have BW0 := Lib.hid (show Below u.heap.size u W0 by rw [hW0]; exact below_alloc _ _)
      have OE := Lib.hid (show OwnC W0 w.heap.size W0.heap.size (.slice (some ⟨u.heap.size, 0, none⟩) 0 0) [] [] (fun _ => 0) by
        rw [hW0]
        exact ⟨by have := World.ownsRow_lit (base := w.heap.size) (e := 98) (size := 2) u #[] 0 BU.out.size (by unfold maxLen; omega) rfl; exact this, Items.nil _ _ _⟩)
      rw [← hW0]
      clear hW0
      go_loopw [12, 14] (fun v i wr => ∃ (j : Nat) (res : FL) (cs2 : List Value) (bs2 : Nat → Nat) (A2 : Option Addr) (c3 : Nat), j ≤ n ∧ i = .int .i64 j ∧ v = .slice A2 res.length c3 ∧ Hid (OwnC wr w.heap.size wr.heap.size (.slice A2 res.length c3) res cs2 bs2) ∧ Hid (res = addAll (R.take j) []) ∧ Hid (Below W0.heap.size W0 wr)) (fun _ i _ => n - (intOf i).toNat)
      case atStart => exact ⟨0, [], [], _, _, 0, by omega, rfl, rfl, OE, Lib.hid rfl, Lib.hid (Below.refl _ _)⟩
      obtain ⟨j, res, cs2, bs2, A2, c3, hj, rfl, rfl, HO, HOUT, hb⟩ := hrel
      have TW := Lib.hid (step BW0.out hb.out)
      have TWW := Lib.hid (step BW.out hb.out)
      have x0 := (X1.out.step TW.out).cell 0
      simp only [List.getElem?_toArray, List.getElem?_cons_zero, List.getElem?_cons_succ] at x0
      have g2 := (TW.out.cell (p := ⟨b, off + k * 5 + 2, none⟩) nb).trans G2.out
      have gn := TW.out.size
      have nbw : b < wr.heap.size := by omega
      have hj0 : (0 : Int) ≤ (j : Int) := by omega
      by_cases hlt : j < n
      · obtain ⟨EM, hq⟩ := HMD.out j hlt
        have RT := ROT.out j hlt
        generalize (k0 + j) % M.length = q at EM hq RT
        generalize hf2 : M.getD q (0, []) = f2 at RT
        obtain ⟨r2, ys⟩ := f2
        have HF2 := Lib.hid hf2
        have hyl : ys.length ≤ 1048576 := by have := szF_elem SZ hq; rw [hf2] at this; exact this
        obtain ⟨b2, off2, B2, c5, rfl, n2, E0, E1, hxc, hcm, hX⟩ := (HM.out.step TW.out).at_ hq hf2
        have hq0 : (0 : Int) ≤ (q : Int) := by omega
        have hq1 : (q : Int) < (M.length : Int) := by omega
        have hadd : wrap64 ((k0 : Int) + (j : Int)) = (k0 : Int) + (j : Int) := by unfold wrap64; omega
        have hlt' : (j : Int) < (n : Int) := by omega
        have ME := Lib.hid (show addF res r2 ys = addAll (R.take (j + 1)) [] by
          rw [List.take_add_one, RT, HOUT.out]
          exact (addAll_snoc (R.take j) [] (r2, ys)).symm)
        have hzr : szF res ≤ 1048576 := by
          rw [HOUT.out]
          have h1 := szF_addAll (R.take j) []
          have h2 := szF_take R j
          have h3 := RSZ.out
          have h4 : szF ([] : FL) = 0 := rfl
          omega
        have XA := Lib.hid (spec_AddFact A2 c3 res r2 ys B2 c5 hzr hyl wr HO.out.rf hX)
        clear hf2 RT
        go_wp2_with fail
        refine XA.out.mono ?_
        rintro e u4 ⟨A4, c4, cs4, bs4, rfl, hO4, d4⟩
        have O4 := Lib.hid (hO4.lo TWW.out.size)
        have D4 := Lib.hid (step hb.out d4)
        rw [ME.out] at O4
        rw [ME.out]
        clear hO4 d4
        go_wp2
        go_roundw
        case rel => exact ⟨j + 1, addAll (R.take (j + 1)) [], _, _, _, _, by omega, by go_num, rfl, O4, Lib.hid rfl, D4⟩
        case measure => simp [intOf]; omega
      · obtain rfl : j = n := by omega
        have ME := Lib.hid (show res = addAll R [] by rw [HOUT.out, List.take_of_length_le (by rw [RLEN.out]; exact Nat.le_refl _)])
        go_wp2
        go_ret
        rw [← ME.out]
        exact ⟨_, _, _, _, rfl, HO.out, TWW.out⟩
end Go.Proofs.Ytenondgjipmhnaa
