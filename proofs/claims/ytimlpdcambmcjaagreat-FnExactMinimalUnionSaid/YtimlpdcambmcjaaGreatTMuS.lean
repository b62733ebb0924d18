/- What the model's copies of unions and its MinimalUnion answer. Conditions: none beyond each theorem's own. -/
import Derived.Test.YtimlpdcambmcjaaGreatT1

namespace Go.Proofs.YtimlpdcambmcjaaGreat
open Go.ChangeShapes Go.WideShapes Go.ChangeAt Go.RowKit Go.Sort
set_option linter.unusedVariables false
set_option linter.unusedSimpArgs false

def lenOf : Value → Nat | .slice _ n _ => n | _ => 0
theorem sumU_erase : ∀ (l : UL) (k : Nat), sumU (l.eraseIdx k) ≤ sumU l
  | [], k => Nat.le_refl _
  | a :: l, 0 => by simp [sumU]
  | a :: l, k + 1 => by
    have := sumU_erase l k
    simp only [sumU, List.eraseIdx_cons_succ, List.map_cons, List.sum_cons] at this ⊢
    omega
theorem szU_erase {l : UL} (h : szU l ≤ 1048576) (k : Nat) : szU (l.eraseIdx k) ≤ 1048576 := by
  have h1 := sumU_erase l k
  have h2 : (l.eraseIdx k).length ≤ l.length := List.length_eraseIdx_le l k
  unfold szU at h ⊢
  omega
theorem ownC_facts {w : World} {lo n c : Nat} {A : Option Addr} {fs : FL} {cs : List Value} {bs : Nat → Nat} (h : atom.OwnC w lo w.heap.size (.slice A n c) fs cs bs) : Facts w lo w.heap.size A fs := by
  rcases A with _ | ⟨g, off, spot⟩
  · intro hne
    rcases h.1.2 with ⟨_, h0⟩ | ⟨g, cap, _, hv, _⟩
    · exact absurd (List.eq_nil_of_length_eq_zero h0) hne
    · cases hv
  · have hg : off = 0 ∧ spot = none := by
      rcases h.1.2 with ⟨hv, _⟩ | ⟨g', cap, _, hv, _⟩
      · cases hv
      · injection hv with e1
        injection e1 with e1
        injection e1 with _ e2 e3
        exact ⟨e2, e3⟩
    obtain ⟨rfl, rfl⟩ := hg
    obtain ⟨e, hc, hp⟩ := h.to_P
    exact hp.facts (by omega)
/-- A copied query's parts, apart from an older row. -/
theorem qsw_parts {w w' : World} {hs : List Int} {l : FL} {e : Ending} (h : QSw w hs l e w') : ∃ H A ch c, e = .returned (.agg #[.slice H hs.length ch, .slice A l.length c]) ∧ Ints w' w.heap.size w'.heap.size H hs ∧ Facts w' w.heap.size w'.heap.size A l ∧ (hs.length ≤ ch ∧ ch ≤ maxLen ∧ l.length ≤ c ∧ c ≤ maxLen) ∧ Below w.heap.size w w' := by
  obtain ⟨H, A, ch, c, lo, cs, bs, e1, e2, ⟨e3, e4⟩, e5, e6, e7, e8⟩ := h
  have h9 := ownsRow_cap e5.1
  exact ⟨H, A, ch, c, e1, e2.mono (Nat.le_refl _) e7, (ownC_facts e5).mono e6 (Nat.le_refl _), ⟨e3, e4, h9.1, h9.2⟩, e8⟩

set_option maxRecDepth 100000 in
set_option maxHeartbeats 2000000 in
theorem l11Copy_any (A : Option Addr) (c : Nat) (us : UL) (hz : szU us ≤ 1048576) (w : World) (hU : RU w A us) :
    Calls Tryz.prog 67 #[.slice A us.length c] w (UOut w us) := by
  obtain ⟨i0, hi, hz0, hz1, hz2⟩ := info_parts query_info
  have hul := szU_len hz
  have hul' : (us.length : Int) ≤ 1048576 := by omega
  have HU := Lib.hid hU
  have UN := Lib.hid (UB.nil w)
  have B0 := Lib.hid (below_alloc w (.cells #[] 29))
  clear hU
  go_enter Tryz.func67, Tryz.ntmps67
  go_wp2
  go_loopw [3, 4, 5] (fun o i _ wr => ∃ (k : Nat) (A2 : Option Addr) (c2 : Nat) (ou : UL), k ≤ us.length ∧ i = .int .i64 k ∧ o = .slice A2 ou.length c2 ∧ Hid (ou = (us.take k)) ∧ ou.length ≤ k ∧ Hid (UB wr w.heap.size (.slice A2 ou.length c2) ou) ∧ Hid (Below w.heap.size w wr)) (fun _ i _ _ => us.length - (intOf i).toNat)
  case atStart => exact ⟨0, _, 0, [], by omega, rfl, rfl, Lib.hid (by simp), Nat.le_refl _, UN, B0⟩
  case round =>
    clear UN B0
    obtain ⟨k, A2, c2, ou, hk, rfl, rfl, hO, hle, hC, hB⟩ := hrel
    have hkk : (0 : Int) ≤ (k : Int) := by omega
    by_cases hlt : k < us.length
    · have hk1 : (k : Int) < (us.length : Int) := by omega
      generalize hf : us.getD k noU = f
      obtain ⟨hs, l⟩ := f
      have EG := Lib.hid (show us[k] = (hs, l) by rw [← hf]; simp [List.getD_eq_getElem?_getD, hlt])
      obtain ⟨_, hhl, hll⟩ := szU_elem hz hlt hf
      obtain ⟨b, off, H, ch, B, cb, rfl, nb, e0, e1, _, _, _, _, hI, hJ⟩ := (HU.out.step hB.out).at_ hlt hf
      have XL := Lib.hid (l3Copy_own H B ch cb hs l hhl hll wr hI hJ)
      have hsz := hB.out.size
      have UL := Lib.hid (show ∀ g, (Value.slice A2 ou.length c2).ownBlock = some g → g < wr.heap.size from fun g e => by
        obtain ⟨cs, h1, _⟩ := hC.out
        exact (h1.lt g e).2)
      clear hf hI hJ
      go_wp2_with fail
      refine XL.out.mono ?_
      rintro e u hq
      obtain ⟨H5, A5, h5, c5, rfl, r1, r2, rc, d⟩ := qsw_parts hq
      have R1 := Lib.hid r1
      have R2 := Lib.hid r2
      have RC := Lib.hid rc
      have zu := d.size
      have bx := below_alloc u (.cells #[.slice H5 hs.length h5, .slice A5 l.length c5] 29)
      have y0 := (Box.new u #[.slice H5 hs.length h5, .slice A5 l.length c5] 29).cell 0
      have y1 := (Box.new u #[.slice H5 hs.length h5, .slice A5 l.length c5] 29).cell 1
      simp only [List.getElem?_toArray, List.getElem?_cons_zero, List.getElem?_cons_succ] at y0 y1
      have C5 := Lib.hid (hC.out.step (step d bx))
      have D5 := Lib.hid (step hB.out (step d bx))
      have I5 := Lib.hid (R1.out.keep fun b _ hb => bx.block b hb)
      have J5 := Lib.hid (R2.out.keep fun b _ hb => bx.block b hb)
      clear hq r1 r2 rc d e0 e1
      go_wp2_with (at_builtin; refine wpList_pushU (v := .slice A2 ou.length c2) (us := ou) (base := w.heap.size) (W := u.alloc (.cells #[.slice H5 hs.length h5, .slice A5 l.length c5] 29)) (lo := wr.heap.size) (hi' := u.heap.size) rfl _ _ 44 rfl i0 _ Tryz.underlying44 hi hz0 hz1 hz2 rfl rfl (by first | rfl | (rw [al_size]; rfl)) C5.out RC.out I5.out J5.out (by rw [al_size]; omega) (fun g e => .inl (UL.out g e)) (by rw [al_size]; omega) (by omega) ?_; intro v' w' hc' hb')
      obtain ⟨A6, c6, rfl⟩ := hc'.form
      have C6 := Lib.hid hc'
      have D6 := Lib.hid hb'
      clear hc' hb' y0 y1 bx
      go_roundw
      case rel => exact ⟨k + 1, A6, c6, ou ++ [(hs, l)], by omega, by go_num, rfl, Lib.hid (by rw [take_snocU us hlt, EG.out, hO.out]), by rw [List.length_append]; simp; omega, C6, Lib.hid (D5.out.trans D6.out)⟩
      case measure => simp [intOf]; omega
    · obtain rfl : k = us.length := by omega
      have OE := Lib.hid (show ou = us by rw [hO.out, List.take_length])
      go_wp2
      go_ret
      rw [← OE.out]
      exact ⟨A2, c2, rfl, hC.out, hB.out⟩

set_option maxRecDepth 100000 in
set_option maxHeartbeats 2000000 in
theorem l11Without_any (A : Option Addr) (c : Nat) (us : UL) (k0 : Nat) (hk0 : k0 ≤ 1048576) (hz : szU us ≤ 1048576) (w : World) (hU : RU w A us) :
    Calls Tryz.prog 68 #[.slice A us.length c, .int .i64 (k0 : Int)] w (UOut w (us.eraseIdx k0)) := by
  obtain ⟨i0, hi, hz0, hz1, hz2⟩ := info_parts query_info
  have hul := szU_len hz
  have hul' : (us.length : Int) ≤ 1048576 := by omega
  have HU := Lib.hid hU
  have UN := Lib.hid (UB.nil w)
  have B0 := Lib.hid (below_alloc w (.cells #[] 29))
  clear hU
  go_enter Tryz.func68, Tryz.ntmps68
  go_wp2
  go_loopw [5, 6, 7] (fun o i _ wr => ∃ (k : Nat) (A2 : Option Addr) (c2 : Nat) (ou : UL), k ≤ us.length ∧ i = .int .i64 k ∧ o = .slice A2 ou.length c2 ∧ Hid (ou = ((us.take k).eraseIdx k0)) ∧ ou.length ≤ k ∧ Hid (UB wr w.heap.size (.slice A2 ou.length c2) ou) ∧ Hid (Below w.heap.size w wr)) (fun _ i _ _ => us.length - (intOf i).toNat)
  case atStart => exact ⟨0, _, 0, [], by omega, rfl, rfl, Lib.hid (by simp), Nat.le_refl _, UN, B0⟩
  case round =>
    clear UN B0
    obtain ⟨k, A2, c2, ou, hk, rfl, rfl, hO, hle, hC, hB⟩ := hrel
    have hkk : (0 : Int) ≤ (k : Int) := by omega
    by_cases hlt : k < us.length
    · have hk1 : (k : Int) < (us.length : Int) := by omega
      generalize hf : us.getD k noU = f
      obtain ⟨hs, l⟩ := f
      have EG := Lib.hid (show us[k] = (hs, l) by rw [← hf]; simp [List.getD_eq_getElem?_getD, hlt])
      obtain ⟨_, hhl, hll⟩ := szU_elem hz hlt hf
      obtain ⟨b, off, H, ch, B, cb, rfl, nb, e0, e1, _, _, _, _, hI, hJ⟩ := (HU.out.step hB.out).at_ hlt hf
      have XL := Lib.hid (l3Copy_own H B ch cb hs l hhl hll wr hI hJ)
      have hsz := hB.out.size
      have UL := Lib.hid (show ∀ g, (Value.slice A2 ou.length c2).ownBlock = some g → g < wr.heap.size from fun g e => by
        obtain ⟨cs, h1, _⟩ := hC.out
        exact (h1.lt g e).2)
      by_cases hke : k = k0
      · have hki : (k : Int) = (k0 : Int) := by omega
        have hkb : ((k : Int) == (k0 : Int)) = true := beq_iff_eq.2 hki
        have TE := Lib.hid (show ou = (us.take (k + 1)).eraseIdx k0 by rw [hO.out, ← hke]; exact (erase_here us hlt).symm)
        clear hf hI hJ hke
        go_wp2
        go_roundw
        case rel => exact ⟨k + 1, A2, c2, ou, by omega, by go_num, rfl, TE, by omega, hC, hB⟩
        case measure => simp [intOf]; omega
      · have hki : ¬ (k : Int) = (k0 : Int) := by omega
        have hkb : ((k : Int) == (k0 : Int)) = false := beq_eq_false_iff_ne.2 hki
        have TE := Lib.hid (show ou ++ [(hs, l)] = (us.take (k + 1)).eraseIdx k0 by rw [erase_more us hlt hke, EG.out, hO.out])
        clear hke
        clear hf hI hJ
        go_wp2_with fail
        refine XL.out.mono ?_
        rintro e u hq
        obtain ⟨H5, A5, h5, c5, rfl, r1, r2, rc, d⟩ := qsw_parts hq
        have R1 := Lib.hid r1
        have R2 := Lib.hid r2
        have RC := Lib.hid rc
        have zu := d.size
        have bx := below_alloc u (.cells #[.slice H5 hs.length h5, .slice A5 l.length c5] 29)
        have y0 := (Box.new u #[.slice H5 hs.length h5, .slice A5 l.length c5] 29).cell 0
        have y1 := (Box.new u #[.slice H5 hs.length h5, .slice A5 l.length c5] 29).cell 1
        simp only [List.getElem?_toArray, List.getElem?_cons_zero, List.getElem?_cons_succ] at y0 y1
        have C5 := Lib.hid (hC.out.step (step d bx))
        have D5 := Lib.hid (step hB.out (step d bx))
        have I5 := Lib.hid (R1.out.keep fun b _ hb => bx.block b hb)
        have J5 := Lib.hid (R2.out.keep fun b _ hb => bx.block b hb)
        clear hq r1 r2 rc d e0 e1
        go_wp2_with (at_builtin; refine wpList_pushU (v := .slice A2 ou.length c2) (us := ou) (base := w.heap.size) (W := u.alloc (.cells #[.slice H5 hs.length h5, .slice A5 l.length c5] 29)) (lo := wr.heap.size) (hi' := u.heap.size) rfl _ _ 44 rfl i0 _ Tryz.underlying44 hi hz0 hz1 hz2 rfl rfl (by first | rfl | (rw [al_size]; rfl)) C5.out RC.out I5.out J5.out (by rw [al_size]; omega) (fun g e => .inl (UL.out g e)) (by rw [al_size]; omega) (by omega) ?_; intro v' w' hc' hb')
        obtain ⟨A6, c6, rfl⟩ := hc'.form
        have C6 := Lib.hid hc'
        have D6 := Lib.hid hb'
        clear hc' hb' y0 y1 bx
        go_roundw
        case rel => exact ⟨k + 1, A6, c6, ou ++ [(hs, l)], by omega, by go_num, rfl, Lib.hid (TE.out), by rw [List.length_append]; simp; omega, C6, Lib.hid (D5.out.trans D6.out)⟩
        case measure => simp [intOf]; omega
    · obtain rfl : k = us.length := by omega
      have OE := Lib.hid (show ou = (us.eraseIdx k0) by rw [hO.out, List.take_length])
      go_wp2
      go_ret
      rw [← OE.out]
      exact ⟨A2, c2, rfl, hC.out, hB.out⟩

/-- What a list of queries that is read is. -/
def ROut (w : World) (us : UL) (e : Ending) (w' : World) : Prop := ∃ A c, e = .returned (.slice A us.length c) ∧ RU w' A us ∧ Below w.heap.size w w'
set_option maxRecDepth 100000 in
set_option maxHeartbeats 2000000 in
theorem spec_MinimalUnion_yes (S : Option Addr) (cs : Nat) (s : List Int) (A : Option Addr) (c : Nat) (us : UL) (hls : s.length ≤ 1048576) (hz : szU us ≤ 1048576) (hun : unionB s us = true) (w : World) (hS : RI w S s) (hU : RU w A us) :
    Calls Tryz.prog 32 #[.slice S s.length cs, .slice A us.length c] w (ROut w (minU s us)) := by
  have hul := szU_len hz
  have HS := Lib.hid hS
  have HU := Lib.hid hU
  have XC := Lib.hid (l11Copy_any A c us hz w hU)
  have XI := Lib.hid fun (W : World) (b : Below w.heap.size w W) => spec_IsUnion S cs s A c us hls hz W (hS.step b) (hU.step b)
  clear hS hU
  have EM := Lib.hid (show minU s us = (minI s (atU us) [] 0 us.length).map (atU us) from if_pos hun)
  have hn3 : us.length ≤ 3 := by
    have := hun
    unfold unionB at this
    simp only [Bool.and_eq_true, inB, decide_eq_true_eq] at this
    omega
  rw [hun] at XI
  clear hun
  go_enter Tryz.func32, Tryz.ntmps32
  go_wp2_with fail
  refine XC.out.mono ?_
  rintro e u1 ⟨A1, c1, rfl, hc1, d1⟩
  have R1 := Lib.hid hc1.ru
  have D1 := Lib.hid d1
  clear hc1 d1
  go_wp2
  go_loopw [5, 6, 7] (fun x i _ wr => ∃ (kept : List Nat) (r m : Nat) (xl : UL) (A2 : Option Addr) (c2 : Nat), r + m = us.length ∧ Hid (xl = (kept ++ List.range' r m).map (atU us)) ∧ kept.length ≤ r ∧ i = .int .i64 (kept.length : Nat) ∧ x = .slice A2 xl.length c2 ∧ Hid (minI s (atU us) kept r m = minI s (atU us) [] 0 us.length) ∧ Hid (RU wr A2 xl) ∧ Hid (szU xl ≤ 1048576) ∧ Hid (Below w.heap.size w wr)) (fun x i _ _ => lenOf x - (intOf i).toNat)
  case atStart => exact ⟨[], 0, us.length, us, A1, c1, by omega, Lib.hid (by rw [List.nil_append, ← List.range_eq_range', range_atU]), Nat.le_refl _, rfl, rfl, Lib.hid rfl, R1, Lib.hid hz, D1⟩
  case round =>
    clear R1 D1
    obtain ⟨kept, r, m, xl, A2, c2, hrm, hX, hkr, rfl, rfl, hM, hR, hZ, hB⟩ := hrel
    have hxl : xl.length = kept.length + m := by rw [hX.out, List.length_map, left_len]
    have HXL := Lib.hid hxl
    have hk0 : (0 : Int) ≤ (kept.length : Int) := by omega
    cases m with
    | zero =>
      have c9 : ¬ ((kept.length : Int) < (xl.length : Int)) := by omega
      have c8 : ¬ (kept.length < xl.length) := by omega
      have EX := Lib.hid (show xl = minU s us by rw [EM.out, ← hM.out, hX.out]; rw [minI]; simp)
      clear hxl
      go_wp2
      go_ret
      rw [← EX.out]
      exact ⟨A2, c2, rfl, hR.out, hB.out⟩
    | succ m =>
      have c9 : ((kept.length : Int) < (xl.length : Int)) := by omega
      have c8 : (kept.length < xl.length) := by omega
      have hxg : xl.getD kept.length noU = atU us r := by
        rw [hX.out, List.getD_eq_getElem?_getD, List.getElem?_map, left_at]
        rfl
      generalize hf : atU us r = f at hxg
      obtain ⟨hs, l⟩ := f
      have HF := Lib.hid hf
      obtain ⟨_, hhl, hll⟩ := szU_elem hZ.out c8 hxg
      have ER := Lib.hid (show xl.eraseIdx kept.length = (kept ++ List.range' (r + 1) m).map (atU us) by rw [hX.out, eraseIdx_mapN, left_erase])
      have HZ2 := Lib.hid (szU_erase hZ.out kept.length)
      have XW := Lib.hid fun (W : World) (b : Below wr.heap.size wr W) => l11Without_any A2 c2 xl kept.length (by omega) hZ.out W (hR.out.step b)
      obtain ⟨b0, off, H, ch, B, cb, rfl, nb, e0, e1, _, _, _, _, hI, hJ⟩ := hR.out.at_ c8 hxg
      have HI := Lib.hid hI
      have HJ := Lib.hid hJ
      have E0 := Lib.hid e0
      have E1 := Lib.hid e1
      generalize hre : xl.eraseIdx kept.length = rest at ER HZ2 XW
      have HC := Lib.hid (show cinB s hs l rest = cinB s (atU us r).1 (atU us r).2 ((kept ++ List.range' (r + 1) m).map (atU us)) by rw [hf, ER.out])
      clear hxg hf hI hJ e0 e1 hxl hre
      go_wp2_with fail
      refine (XI.out _ hB.out).mono ?_
      rintro e u2 ⟨rfl, d2⟩
      have D2 := Lib.hid d2
      clear d2
      go_wp2_with fail
      refine (XW.out _ D2.out).mono ?_
      rintro e u3 ⟨A3, c3, rfl, hc3, d3⟩
      have D3 := Lib.hid (step D2.out d3)
      have R3 := Lib.hid hc3.ru
      have e0 := (D3.out.cell (p := ⟨b0, off + kept.length * 2, none⟩) nb).trans E0.out
      have e1 := (D3.out.cell (p := ⟨b0, off + kept.length * 2 + 1, none⟩) nb).trans E1.out
      have XI2 := Lib.hid (spec_ContainedIn S cs s H B ch cb hs l A3 c3 rest hls hhl hll HZ2.out u3 (HS.out.step (step hB.out D3.out)) (HI.out.step D3.out) (HJ.out.step D3.out) R3.out)
      clear hc3 d3
      go_wp2_with fail
      refine XI2.out.mono ?_
      rintro e u4 ⟨he, d4⟩
      rw [HC.out] at he
      have D4 := Lib.hid (step D3.out d4)
      have R4 := Lib.hid (R3.out.step d4)
      have hB4 := Lib.hid (step hB.out D4.out)
      clear d4 e0 e1
      by_cases hc : cinB s (atU us r).1 (atU us r).2 ((kept ++ List.range' (r + 1) m).map (atU us)) = true
      · rw [hc] at he
        subst he
        have M4 := Lib.hid (show minI s (atU us) kept (r + 1) m = minI s (atU us) [] 0 us.length by rw [← hM.out, minI_yes hc])
        clear hc
        go_wp2
        go_roundw
        case rel => exact ⟨kept, r + 1, m, rest, A3, c3, by omega, ER, by omega, rfl, rfl, M4, R4, HZ2, hB4⟩
        case measure =>
          have h7 : rest.length = kept.length + m := by rw [ER.out, List.length_map, left_len]
          simp [intOf, lenOf]; have := HXL.out; omega
      · have hc' : cinB s (atU us r).1 (atU us r).2 ((kept ++ List.range' (r + 1) m).map (atU us)) = false := by simpa using hc
        rw [hc'] at he
        subst he
        have M4 := Lib.hid (show minI s (atU us) (kept ++ [r]) (r + 1) m = minI s (atU us) [] 0 us.length by rw [← hM.out, minI_no hc'])
        have X4 := Lib.hid (show xl = ((kept ++ [r]) ++ List.range' (r + 1) m).map (atU us) by rw [hX.out, left_more])
        have R5 := Lib.hid (hR.out.step D4.out)
        clear hc hc'
        go_wp2
        go_roundw
        case rel => exact ⟨kept ++ [r], r + 1, m, xl, _, c2, by omega, X4, by rw [List.length_append]; simp; omega, by rw [List.length_append]; go_num, rfl, M4, R5, hZ, hB4⟩
        case measure => simp [intOf, lenOf]; omega

set_option maxRecDepth 100000 in
set_option maxHeartbeats 2000000 in
theorem spec_MinimalUnion_no0 (S : Option Addr) (cs : Nat) (s : List Int) (A : Option Addr) (c : Nat) (us : UL) (hls : s.length ≤ 1048576) (hz : szU us ≤ 1048576) (hun : ¬ unionB s us = true) (h0 : us.length = 0) (w : World) (hS : RI w S s) (hU : RU w A us) :
    Calls Tryz.prog 32 #[.slice S s.length cs, .slice A us.length c] w (ROut w (minU s us)) := by
  obtain rfl : us = [] := List.eq_nil_of_length_eq_zero h0
  have XC := Lib.hid (show Calls Tryz.prog 67 #[.slice A 0 c] w (fun e w' => ∃ A1 c1, e = .returned (.slice A1 0 c1) ∧ Hid (Below w.heap.size w w')) from (l11Copy_any A c [] hz w hU).mono fun e w' ⟨A1, c1, e1, _, d1⟩ => ⟨A1, c1, e1, Lib.hid d1⟩)
  have EM := Lib.hid (show minU s [] = [] from if_neg hun)
  rw [EM.out]
  clear hS hU hun h0 hz EM
  show Calls Tryz.prog 32 #[.slice S s.length cs, .slice A 0 c] w (ROut w [])
  go_enter Tryz.func32, Tryz.ntmps32
  go_wp2_with fail
  refine XC.out.mono ?_
  rintro e u1 ⟨A1, c1, rfl, D1⟩
  go_wp2
  refine wp_loop_rounds 1 ?_
  rw [rounds_succ]
  go_wp2
  go_ret
  exact ⟨A1, c1, rfl, fun h => absurd rfl h, D1.out⟩

set_option maxRecDepth 100000 in
set_option maxHeartbeats 2000000 in
theorem spec_MinimalUnion_no1 (S : Option Addr) (cs : Nat) (s : List Int) (A : Option Addr) (c : Nat) (us : UL) (hls : s.length ≤ 1048576) (hz : szU us ≤ 1048576) (hun : ¬ unionB s us = true) (h0 : ¬ us.length = 0) (w : World) (hS : RI w S s) (hU : RU w A us) :
    Calls Tryz.prog 32 #[.slice S s.length cs, .slice A us.length c] w (ROut w (minU s us)) := by
  have hul := szU_len hz
  have HS := Lib.hid hS
  have HU := Lib.hid hU
  have XC := Lib.hid (l11Copy_any A c us hz w hU)
  have XI := Lib.hid fun (W : World) (b : Below w.heap.size w W) => spec_IsUnion S cs s A c us hls hz W (hS.step b) (hU.step b)
  clear hS hU
  have EM := Lib.hid (show minU s us = us from if_neg hun)
  have hun' : unionB s us = false := by simpa using hun
  rw [hun'] at XI
  clear hun hun'
  rw [EM.out]
  have c9 : ((0 : Int) < (us.length : Int)) := by omega
  have c8 : (0 < us.length) := by omega
  go_enter Tryz.func32, Tryz.ntmps32
  go_wp2_with fail
  refine XC.out.mono ?_
  rintro e u1 ⟨A1, c1, rfl, hc1, d1⟩
  have R1 := Lib.hid hc1.ru
  have D1 := Lib.hid d1
  clear hc1 d1 h0
  go_wp2
  refine wp_loop_rounds 1 ?_
  rw [rounds_succ]
  go_wp2_with fail
  refine (XI.out _ D1.out).mono ?_
  rintro e u2 ⟨rfl, d2⟩
  have D2 := Lib.hid (step D1.out d2)
  have R2 := Lib.hid (R1.out.step d2)
  clear d2
  go_wp2
  go_ret
  exact ⟨A1, c1, rfl, R2.out, D2.out⟩

theorem spec_MinimalUnion (S : Option Addr) (cs : Nat) (s : List Int) (A : Option Addr) (c : Nat) (us : UL) (hls : s.length ≤ 1048576) (hz : szU us ≤ 1048576) (w : World) (hS : RI w S s) (hU : RU w A us) :
    Calls Tryz.prog 32 #[.slice S s.length cs, .slice A us.length c] w (ROut w (minU s us)) := by
  by_cases hun : unionB s us = true
  · exact spec_MinimalUnion_yes S cs s A c us hls hz hun w hS hU
  · by_cases h0 : us.length = 0
    · exact spec_MinimalUnion_no0 S cs s A c us hls hz hun h0 w hS hU
    · exact spec_MinimalUnion_no1 S cs s A c us hls hz hun h0 w hS hU
end Go.Proofs.YtimlpdcambmcjaaGreat
