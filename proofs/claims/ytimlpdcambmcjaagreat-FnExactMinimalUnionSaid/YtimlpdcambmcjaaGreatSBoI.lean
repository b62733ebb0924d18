/- What bindingOf answers. Conditions: none beyond each theorem's own. -/
import Derived.Test.YtimlpdcambmcjaaGreatS23
import Derived.Test.YtimlpdcambmcjaaGreatS9
import Derived.Test.YtimlpdcambmcjaaGreatS21
import Derived.Test.YtimlpdcambmcjaaGreatS22

namespace Go.Proofs.YtimlpdcambmcjaaGreat
open Go.ChangeShapes Go.WideShapes Go.ChangeAt Go.RowKit Go.Sort
open Go.Maps (Keyed int_keyed keyOf_int_mk)
set_option linter.unusedVariables false
set_option linter.unusedSimpArgs false

/-- A variable is taken once. -/
def addV (us : List Int) (x : Int) : List Int := if inB x 10 17 = true ∧ x ∉ us then us ++ [x] else us
/-- The variables in the order in which they come. -/
def dv (l : List Int) : List Int := l.foldl addV []
theorem dv_snoc (l : List Int) (x : Int) : dv (l ++ [x]) = addV (dv l) x := by simp [dv]
theorem dv_no {l : List Int} {x : Int} (h : inB x 10 17 = false) : dv (l ++ [x]) = dv l := by rw [dv_snoc, addV, if_neg (by simp [h])]
theorem dv_has {l : List Int} {x : Int} (h : x ∈ dv l) : dv (l ++ [x]) = dv l := by rw [dv_snoc, addV, if_neg (by simp [h])]
theorem dv_new {l : List Int} {x : Int} (hb : inB x 10 17 = true) (h : x ∉ dv l) : dv (l ++ [x]) = dv l ++ [x] := by rw [dv_snoc, addV, if_pos ⟨hb, h⟩]
theorem addV_len (us : List Int) (x : Int) : (addV us x).length ≤ us.length + 1 := by
  unfold addV
  split
  · simp
  · omega
theorem dvl (l : List Int) : ∀ us : List Int, (l.foldl addV us).length ≤ us.length + l.length := by
  induction l with
  | nil => intro us; simp
  | cons x l ih => intro us; rw [List.foldl_cons, List.length_cons]; have := ih (addV us x); have := addV_len us x; omega
theorem dv_len (l : List Int) : (dv l).length ≤ l.length := by have := dvl l []; simpa [dv] using this
theorem dvm (l : List Int) : ∀ us : List Int, ∀ x, x ∈ l.foldl addV us ↔ x ∈ us ∨ (x ∈ l ∧ inB x 10 17 = true) := by
  induction l with
  | nil => intro us x; simp
  | cons y l ih =>
    intro us x
    rw [List.foldl_cons, ih]
    unfold addV
    by_cases h : inB y 10 17 = true ∧ y ∉ us
    · rw [if_pos h]
      simp only [List.mem_append, List.mem_cons, List.not_mem_nil, or_false]
      constructor
      · rintro ((h1 | rfl) | h1)
        · exact .inl h1
        · exact .inr ⟨.inl rfl, h.1⟩
        · exact .inr ⟨.inr h1.1, h1.2⟩
      · rintro (h1 | ⟨rfl | h1, h2⟩)
        · exact .inl (.inl h1)
        · exact .inl (.inr rfl)
        · exact .inr ⟨h1, h2⟩
    · rw [if_neg h]
      simp only [List.mem_cons]
      constructor
      · rintro (h1 | h1)
        · exact .inl h1
        · exact .inr ⟨.inr h1.1, h1.2⟩
      · rintro (h1 | ⟨rfl | h1, h2⟩)
        · exact .inl h1
        · refine .inl (Classical.byContradiction fun hn => h ⟨h2, hn⟩)
        · exact .inr ⟨h1, h2⟩
theorem dv_mem (l : List Int) (x : Int) : x ∈ dv l ↔ x ∈ l ∧ inB x 10 17 = true := by rw [dv, dvm]; simp
theorem terms_len_take (l : FL) (k : Nat) : (terms (l.take k)).length ≤ (terms l).length := by
  conv => rhs; rw [← List.take_append_drop k l]
  unfold terms
  rw [List.flatMap_append, List.length_append]
  exact Nat.le_add_right _ _
theorem rowV_nil (w : World) (base : Nat) : RowV w base (.slice none 0 0) [] := ⟨by simp, .inl ⟨rfl, rfl⟩⟩

set_option maxRecDepth 100000 in
set_option maxHeartbeats 4000000 in
theorem bindingOf_any (base g : Nat) (H Q : Option Addr) (ch c : Nat) (hs : List Int) (ats : FL) (q : PL) (ads : List Int) (p0 : PL) (hz : szF ats ≤ 1048576) (hzt : (terms ats).length ≤ 1048576) (hwf : ∀ x ∈ terms ats, wf x) (hv : ∀ x ∈ terms ats, inB x 10 17 = true → x ∈ q.1)
    (w : World) (hbw : base ≤ w.heap.size) (hQ : RF w Q ats) (h : MS w base g p0 q ads) :
    Calls Tryz.prog 132 #[.pointer (some ⟨g, 0, none⟩), .agg #[.slice H hs.length ch, .slice Q ats.length c]] w fun e w' => ∃ X cx Y cy, e = .returned (.agg #[.slice X (dv (terms ats)).length cx, .slice Y ((dv (terms ats)).map (pval q)).length cy]) ∧ RI w' X (dv (terms ats)) ∧ RI w' Y ((dv (terms ats)).map (pval q)) ∧ Below w.heap.size w w' := by
  have hl := szF_len hz
  have hl' : (ats.length : Int) ≤ 1048576 := by omega
  have B0 := Lib.hid (step (below_alloc w (.cells #[.slice H hs.length ch, .slice Q ats.length c] 29)) (below_alloc _ (.cells #[.slice none 0 0, .slice none 0 0] 100)))
  have X0 := Lib.hid ((Box.new w #[.slice H hs.length ch, .slice Q ats.length c] 29).step (below_alloc _ (.cells #[.slice none 0 0, .slice none 0 0] 100)))
  have Y0 := Lib.hid (Box.new (w.alloc (.cells #[.slice H hs.length ch, .slice Q ats.length c] 29)) #[.slice none 0 0, .slice none 0 0] 100)
  rw [al_size] at Y0
  have HQ := Lib.hid (hQ.step B0.out)
  have H0 := Lib.hid (MS.below hbw h B0.out)
  have HW := Lib.hid hwf
  have HV := Lib.hid hv
  have HZ := Lib.hid hzt
  obtain ⟨w0, hw0⟩ : ∃ W, W = (w.alloc (.cells #[.slice H hs.length ch, .slice Q ats.length c] 29)).alloc (.cells #[.slice none 0 0, .slice none 0 0] 100) := ⟨_, rfl⟩
  have E0 := Lib.hid hw0
  rw [← hw0] at B0 X0 Y0 HQ H0
  have hsz : w.heap.size + 2 = w0.heap.size := by rw [hw0, al_size, al_size]
  have BG := below_alloc w0 (.cells #[.slice none 0 0, .slice none 0 0] 100)
  have Z0 := Box.new w0 #[.slice none 0 0, .slice none 0 0] 100
  obtain ⟨w1, hw1⟩ : ∃ W, W = w0.alloc (.cells #[.slice none 0 0, .slice none 0 0] 100) := ⟨_, rfl⟩
  have E1 := Lib.hid hw1
  rw [← hw1] at BG Z0
  have B1 := Lib.hid BG
  have HE := Lib.hid (show EBd w1 w0.heap.size w0.heap.size none 0 none 0 [] [] from ⟨Z0, rowV_nil _ _, rowV_nil _ _, .inl rfl, Nat.le_refl _⟩)
  clear hQ h hwf hv hzt hw0 hw1 BG Z0
  have x0 := (X0.out.step B1.out).cell 1
  simp only [List.getElem?_toArray, List.getElem?_cons_zero, List.getElem?_cons_succ] at x0
  go_enter Tryz.func132, Tryz.ntmps132
  go_upto_region 2 with fail
  rw [← E0.out, ← E1.out]
  go_wp2
  go_loopw [7, 9, 13] (fun _ _ i wr => ∃ (k : Nat) (X : Option Addr) (cx : Nat) (Y : Option Addr) (cy : Nat) (us : List Int), k ≤ ats.length ∧ i = .int .i64 k ∧ Hid (us = dv (terms (ats.take k))) ∧ Hid (EBd wr w0.heap.size w0.heap.size X cx Y cy us (us.map (pval q))) ∧ Hid (Below w0.heap.size w0 wr)) (fun _ _ i _ => ats.length - (intOf i).toNat)
  case atStart => exact ⟨0, none, 0, none, 0, [], by omega, rfl, Lib.hid rfl, HE, B1⟩
  case round =>
    clear HE B1 E1 E0
    obtain ⟨k, X, cx, Y, cy, us, hk, rfl, hU, hE, hB⟩ := hrel
    have hk0 : (0 : Int) ≤ (k : Int) := by omega
    by_cases hlt : k < ats.length
    · generalize hf : ats.getD k (0, []) = f
      obtain ⟨r, xs⟩ := f
      have hxl : xs.length ≤ 1048576 := by have := szF_elem hz hlt; rw [hf] at this; exact this
      have hxl' : (xs.length : Int) ≤ 1048576 := by omega
      have TT := Lib.hid (terms_take ats hlt hf)
      have TS := Lib.hid (show ∀ j, (terms (ats.take k) ++ xs.take j).length ≤ 1048576 by
        intro j
        have h1 := terms_len_take ats (k + 1)
        have h2 := HZ.out
        rw [TT.out, List.length_append] at h1
        rw [List.length_append, List.length_take]
        omega)
      have TM := Lib.hid (show ∀ x ∈ xs, x ∈ terms ats by
        intro x hx
        have e : ats[k] = (r, xs) := by rw [← hf]; simp [List.getD_eq_getElem?_getD, hlt]
        exact List.mem_flatMap.2 ⟨(r, xs), e ▸ List.getElem_mem hlt, hx⟩)
      have hk1 : (k : Int) < (ats.length : Int) := by omega
      obtain ⟨b, off, B, c3, rfl, hb, e0, e1, _, hcm, hJ⟩ := HQ.out.at_ hlt hf
      have q0 := (hB.out.cell (p := ⟨b, off + k * 2, none⟩) hb).trans e0
      have q1 := (hB.out.cell (p := ⟨b, off + k * 2 + 1, none⟩) hb).trans e1
      have HJ := Lib.hid hJ
      have BA := below_alloc wr (.cells #[.int .i64 r, .slice B xs.length c3] 67)
      have hE1 := Lib.hid (show EBd (wr.alloc (.cells #[.int .i64 r, .slice B xs.length c3] 67)) w0.heap.size w0.heap.size X cx Y cy us (us.map (pval q)) from ⟨hE.out.1.step BA, hE.out.2.1.below BA, hE.out.2.2.1.below BA, hE.out.2.2.2⟩)
      have hB1 := Lib.hid (step hB.out BA)
      generalize terms (ats.take k) = T at hU TT TS
      clear hf e0 e1 hJ BA
      go_wp2
      generalize wr.heap.size = ga
      go_loopw [9, 20] (fun _ i wr2 => ∃ (j : Nat) (X : Option Addr) (cx : Nat) (Y : Option Addr) (cy : Nat) (us : List Int), j ≤ xs.length ∧ i = .int .i64 j ∧ Hid (us = dv (T ++ xs.take j)) ∧ Hid (EBd wr2 w0.heap.size w0.heap.size X cx Y cy us (us.map (pval q))) ∧ Hid (Below w0.heap.size w0 wr2)) (fun _ i _ => xs.length - (intOf i).toNat)
      case atStart => exact ⟨0, X, cx, Y, cy, us, by omega, rfl, Lib.hid (by rw [hU.out]; simp), hE1, hB1⟩
      case round =>
        clear q0 q1 hU hE hB hE1 hB1 X cx Y cy us
        obtain ⟨j, X, cx, Y, cy, us, hj, rfl, hU, hE, hB⟩ := hrel
        have hj0 : (0 : Int) ≤ (j : Int) := by omega
        by_cases hjt : j < xs.length
        · have hj1 : (j : Int) < (xs.length : Int) := by omega
          obtain ⟨b2, off2, rfl, hb2, hc0⟩ := HJ.out.at_ hjt
          have hc := (hB.out.cell (p := ⟨b2, off2 + j, none⟩) hb2).trans hc0
          generalize hx : xs.getD j 0 = x at hc
          have TX := Lib.hid (takeI xs hjt hx)
          have MX := Lib.hid (TM.out x (by rw [← hx]; exact getD_mem xs hjt))
          clear hx hc0
          by_cases hin : inB x 10 17 = true
          · have HN := Lib.hid hin
            have ul : us.length ≤ 1048576 := by rw [hU.out]; exact Nat.le_trans (dv_len _) (TS.out j)
            have z0 := hE.out.1.cell 0
            simp only [List.getElem?_toArray, List.getElem?_cons_zero, List.getElem?_cons_succ] at z0
            by_cases hm : x ∈ us
            · have HM := Lib.hid hm
              have O2 := Lib.hid (show us = dv (T ++ xs.take (j + 1)) by rw [TX.out, ← List.append_assoc, dv_has (by rw [← hU.out]; exact hm)]; exact hU.out)
              clear hin hm
              go_wp2_with fail
              refine (impl_IsVar x _).mono ?_
              rintro e w' ⟨rfl, rfl⟩
              rw [HN.out]
              go_wp2_with fail
              refine (contains_any _ _ X cx us x ul _ (ri_of_row hE.out.2.1)).mono ?_
              rintro e w' ⟨rfl, rfl⟩
              rw [decide_eq_true HM.out]
              go_wp2
              go_roundw
              case rel => exact ⟨j + 1, X, cx, Y, cy, us, by omega, by go_num, O2, hE, hB⟩
              case measure => simp [intOf]; omega
            · -- NEW
              have HM := Lib.hid hm
              have O2 := Lib.hid (show us ++ [x] = dv (T ++ xs.take (j + 1)) by rw [TX.out, ← List.append_assoc, dv_new hin (by rw [← hU.out]; exact hm), ← hU.out])
              have PM := Lib.hid (HV.out x MX.out hin)
              have WX := Lib.hid (HW.out x MX.out)
              obtain ⟨hAD, mb, n, vv, D, hMB, hM, hR, hL, hn, hmb, hgb⟩ := H0.out
              have HMB := Lib.hid hMB
              have HMM := Lib.hid hM
              have HL := Lib.hid hL
              clear hin hm hMB hM hL hR hAD hn hmb hgb
              have NS := hB.out.size
              have hbx := hE.out.1
              generalize hys : us.map (pval q) = ys at hE hbx
              have HYS := Lib.hid hys
              have hly : ys.length ≤ 2097152 := by rw [← hys, List.length_map]; omega
              have hlx : us.length ≤ 2097152 := by omega
              clear hys
              have q0 := hbx.cell 0
              have q1 := hbx.cell 1
              have q2 := hbx.frozen 0
              have q3 := hbx.frozen 1
              simp only [List.getElem?_toArray, List.getElem?_cons_zero, List.getElem?_cons_succ] at q0 q1
              clear hbx
              obtain ⟨i0, hi, hz0, hz1, hz2⟩ := info_parts int_info
              obtain ⟨xs5, h5⟩ : ∃ l, l = us ++ [x] := ⟨_, rfl⟩
              have H5 := Lib.hid h5
              clear h5
              have HI := Lib.hid (show RI (wr.alloc (.cells #[.int .i64 x] 3)) (some ⟨wr.heap.size, 0, none⟩) [x] from ri_one wr x)
              go_wp2_with fail
              refine (impl_IsVar x _).mono ?_
              rintro e w' ⟨rfl, rfl⟩
              rw [HN.out]
              go_wp2_with fail
              refine (contains_any _ _ X cx us x ul _ (ri_of_row hE.out.2.1)).mono ?_
              rintro e w' ⟨rfl, rfl⟩
              rw [decide_eq_false HM.out]
              go_wp2_with (at_builtin; refine wpList_append_nums rfl _ _ 22 rfl w0.heap.size 3 i0 Tryz.underlying22 hi hz0 hz1 hz2 (.slice X us.length cx) us.length _ rfl (RowV.below hE.out.2.1 (below_alloc wr _)) _ _ (some ⟨wr.heap.size, 0, none⟩) 1 [x] rfl HI.out (by simp; omega) (by rw [al_size]; omega) ?_; intro v' w' hown hg hat
                           have hv' : RowV w' w0.heap.size v' xs5 := by rw [H5.out]; simpa [RowV] using hown
                           obtain ⟨X', c', rfl⟩ := hv'.form
                           have hp := hE.out.push1 (below_alloc wr _) hv' hg hat
                           have K1 := Lib.hid hp.1
                           have E5 := Lib.hid hp.2
                           have z0 := K1.out.cell 0
                           have z1 := K1.out.cell 1
                           have z2 := K1.out.frozen 0
                           have z3 := K1.out.frozen 1
                           simp only [List.getElem?_toArray, List.getElem?_cons_zero, List.getElem?_cons_succ] at z0 z1
                           have hb5 : Below w0.heap.size w0 (w'.setCell ⟨w0.heap.size, 0, none⟩ (.slice X' xs5.length c')) := Below.setCell ((step hB.out (below_alloc wr _)).grown hg (by rw [al_size]; omega) (fun j hj => (World.ownsRow.lt hE.out.2.1 j hj).1)) hE.out.2.2.2.2 _
                           have B5 := Lib.hid hb5
                           clear hown hv' hg hat hp hb5)
              obtain ⟨w5, hw5⟩ : ∃ W, W = w'.setCell ⟨w0.heap.size, 0, none⟩ (.slice X' xs5.length c') := ⟨_, rfl⟩
              have F5 := Lib.hid hw5
              rw [← hw5] at E5 B5 ⊢
              clear z0 z1 z2 z3 K1 hw5
              obtain ⟨pv, hpv⟩ : ∃ pv, pv = pval q x := ⟨_, rfl⟩
              have PQ := Lib.hid hpv
              have PV := Lib.hid (show D.atKey (kt x) (.lit (.int .i64 0)) = .lit (.int .i64 pv) by rw [hpv]; exact (HL.out.2 x).2 PM.out)
              obtain ⟨ys5, h6⟩ : ∃ l, l = ys ++ [pv] := ⟨_, rfl⟩
              have H6 := Lib.hid h6
              clear h6 hpv
              refine wp_region_inv rfl (by kernel_rfl) (fun listed a u => ∃ R : Nat → Value, a = (⟨#[Value.pointer (some ⟨g, 0, none⟩), Value.agg #[Value.slice H hs.length ch, Value.slice (some ⟨b, off, none⟩) ats.length c], undef, Value.pointer (some ⟨w.heap.size, 0, none⟩), Value.pointer (some ⟨w.heap.size + 1, 0, none⟩), Value.pointer (some ⟨w0.heap.size, 0, none⟩), undef, Value.pointer (some ⟨ga, 0, none⟩), undef, Value.int .i64 x, Value.pointer (some ⟨w.heap.size, 1, none⟩), Value.slice (some ⟨b, off, none⟩) ats.length c, Value.int .i64 (ats.length : Int), Value.int .i64 (k : Int), Value.bool true, Value.pointer (some ⟨b, off + k * 2, none⟩), Value.agg #[Value.int .i64 r, Value.slice (some ⟨b2, off2, none⟩) xs.length c3], Value.pointer (some ⟨ga, 1, none⟩), Value.slice (some ⟨b2, off2, none⟩) xs.length c3, Value.int .i64 (xs.length : Int), Value.int .i64 (j : Int), Value.bool true, Value.pointer (some ⟨b2, off2 + j, none⟩), Value.int .i64 x, Value.int .i64 x, Value.bool true, Value.bool true, Value.pointer (some ⟨w0.heap.size, 0, none⟩), Value.slice X us.length cx, Value.int .i64 x, Value.bool false, Value.bool true, Value.bool true, Value.pointer (some ⟨w0.heap.size, 0, none⟩), Value.slice X us.length cx, Value.int .i64 x, Value.slice (some ⟨wr.heap.size, 0, none⟩) 1 1, Value.slice X' xs5.length c', Value.pointer (some ⟨w0.heap.size, 0, none⟩), R 0, R 1, R 2, R 3, R 4, R 5, R 6, R 7, R 8, R 9, R 10, u50, u51, undef], []⟩ : Act) ∧
          (listed.getD 11 false = false → FV (x6Vals w0.heap.size g (.slice Y ys.length cy) mb x pv) listed R ∧ (listed.getD 9 false = false → Below w5.heap.size w5 u ∧ (listed.getD 8 false = true → ∃ kb, R 8 = .slice (some ⟨kb, 0, none⟩) 1 1 ∧ RI u (some ⟨kb, 0, none⟩) [pv])) ∧
            (listed.getD 9 false = true → ∃ Y' d', R 9 = .slice Y' ys5.length d' ∧ Box u w0.heap.size #[.slice X' xs5.length c', .slice Y ys.length cy] 100 ∧ EBd (u.setCell ⟨w0.heap.size, 1, none⟩ (.slice Y' ys5.length d')) w0.heap.size w0.heap.size X' c' Y' d' xs5 ys5 ∧ Below w0.heap.size w0 u)) ∧
          (listed.getD 11 false = true → ∃ Y' d', EBd u w0.heap.size w0.heap.size X' c' Y' d' xs5 ys5 ∧ Below w0.heap.size w0 u)) ?_ ?_ ?_
              · refine ⟨fun k => #[u39, u40, u41, u42, u43, u44, u45, u46, u47, u48, u49].getD k undef, rfl, fun _ => ⟨FV.none _, fun _ => ⟨below_drew w5, fun h => ?_⟩, fun h => ?_⟩, fun h => ?_⟩ <;> exact absurd h (by decide)
              · rintro listed a u i hi hz hc ⟨R, rfl, h1, h2⟩
                have hlt : i < 12 := ready_lt hi
                have hsI : i < listed.size := by rw [hz]; exact ready_lt hi
                have hn := ready_new hi hz
                have n11 : listed.getD 11 false = false := by
                  obtain rfl | rfl | rfl | rfl | rfl | rfl | rfl | rfl | rfl | rfl | rfl | rfl : i = 0 ∨ i = 1 ∨ i = 2 ∨ i = 3 ∨ i = 4 ∨ i = 5 ∨ i = 6 ∨ i = 7 ∨ i = 8 ∨ i = 9 ∨ i = 10 ∨ i = 11 := by omega
                  all_goals first | exact hn | exact not_yet hc hn 0 11 (by kernel_rfl)
                obtain ⟨hF, hA9, hB9⟩ := h1 n11
                clear h1 h2
                by_cases hlt9 : i < 9
                · have n9 : listed.getD 9 false = false := by
                    obtain rfl | rfl | rfl | rfl | rfl | rfl | rfl | rfl | rfl : i = 0 ∨ i = 1 ∨ i = 2 ∨ i = 3 ∨ i = 4 ∨ i = 5 ∨ i = 6 ∨ i = 7 ∨ i = 8 := by omega
                    all_goals exact not_yet hc hn 8 9 (by kernel_rfl)
                  obtain ⟨hbu, h8⟩ := hA9 n9
                  by_cases hlt8 : i < 8
                  · have key : ∀ (v : Value), (∀ o, x6Vals w0.heap.size g (.slice Y ys.length cy) mb x pv i = some o → v = o) → ∀ a', a' = (⟨#[Value.pointer (some ⟨g, 0, none⟩), Value.agg #[Value.slice H hs.length ch, Value.slice (some ⟨b, off, none⟩) ats.length c], undef, Value.pointer (some ⟨w.heap.size, 0, none⟩), Value.pointer (some ⟨w.heap.size + 1, 0, none⟩), Value.pointer (some ⟨w0.heap.size, 0, none⟩), undef, Value.pointer (some ⟨ga, 0, none⟩), undef, Value.int .i64 x, Value.pointer (some ⟨w.heap.size, 1, none⟩), Value.slice (some ⟨b, off, none⟩) ats.length c, Value.int .i64 (ats.length : Int), Value.int .i64 (k : Int), Value.bool true, Value.pointer (some ⟨b, off + k * 2, none⟩), Value.agg #[Value.int .i64 r, Value.slice (some ⟨b2, off2, none⟩) xs.length c3], Value.pointer (some ⟨ga, 1, none⟩), Value.slice (some ⟨b2, off2, none⟩) xs.length c3, Value.int .i64 (xs.length : Int), Value.int .i64 (j : Int), Value.bool true, Value.pointer (some ⟨b2, off2 + j, none⟩), Value.int .i64 x, Value.int .i64 x, Value.bool true, Value.bool true, Value.pointer (some ⟨w0.heap.size, 0, none⟩), Value.slice X us.length cx, Value.int .i64 x, Value.bool false, Value.bool true, Value.bool true, Value.pointer (some ⟨w0.heap.size, 0, none⟩), Value.slice X us.length cx, Value.int .i64 x, Value.slice (some ⟨wr.heap.size, 0, none⟩) 1 1, Value.slice X' xs5.length c', Value.pointer (some ⟨w0.heap.size, 0, none⟩), upd R i v 0, upd R i v 1, upd R i v 2, upd R i v 3, upd R i v 4, upd R i v 5, upd R i v 6, upd R i v 7, upd R i v 8, upd R i v 9, upd R i v 10, u50, u51, undef], []⟩ : Act) → _ :=
                      fun v hv a' ha => (⟨upd R i v, ha, fun _ => ⟨hF.set hsI hv, fun _ => ⟨hbu, fun h => by
                        rw [getD_set hsI, if_neg (by omega)] at h
                        obtain ⟨kb, k1, k2⟩ := h8 h
                        exact ⟨kb, by rw [upd_ne (by omega)]; exact k1, k2⟩⟩, fun h => absurd h (by rw [getD_set hsI, if_neg (by omega), n9]; decide)⟩, fun h => absurd h (by rw [getD_set hsI, if_neg (by omega), n11]; decide)⟩ : (fun listed a u => ∃ R : Nat → Value, a = (⟨#[Value.pointer (some ⟨g, 0, none⟩), Value.agg #[Value.slice H hs.length ch, Value.slice (some ⟨b, off, none⟩) ats.length c], undef, Value.pointer (some ⟨w.heap.size, 0, none⟩), Value.pointer (some ⟨w.heap.size + 1, 0, none⟩), Value.pointer (some ⟨w0.heap.size, 0, none⟩), undef, Value.pointer (some ⟨ga, 0, none⟩), undef, Value.int .i64 x, Value.pointer (some ⟨w.heap.size, 1, none⟩), Value.slice (some ⟨b, off, none⟩) ats.length c, Value.int .i64 (ats.length : Int), Value.int .i64 (k : Int), Value.bool true, Value.pointer (some ⟨b, off + k * 2, none⟩), Value.agg #[Value.int .i64 r, Value.slice (some ⟨b2, off2, none⟩) xs.length c3], Value.pointer (some ⟨ga, 1, none⟩), Value.slice (some ⟨b2, off2, none⟩) xs.length c3, Value.int .i64 (xs.length : Int), Value.int .i64 (j : Int), Value.bool true, Value.pointer (some ⟨b2, off2 + j, none⟩), Value.int .i64 x, Value.int .i64 x, Value.bool true, Value.bool true, Value.pointer (some ⟨w0.heap.size, 0, none⟩), Value.slice X us.length cx, Value.int .i64 x, Value.bool false, Value.bool true, Value.bool true, Value.pointer (some ⟨w0.heap.size, 0, none⟩), Value.slice X us.length cx, Value.int .i64 x, Value.slice (some ⟨wr.heap.size, 0, none⟩) 1 1, Value.slice X' xs5.length c', Value.pointer (some ⟨w0.heap.size, 0, none⟩), R 0, R 1, R 2, R 3, R 4, R 5, R 6, R 7, R 8, R 9, R 10, u50, u51, undef], []⟩ : Act) ∧
          (listed.getD 11 false = false → FV (x6Vals w0.heap.size g (.slice Y ys.length cy) mb x pv) listed R ∧ (listed.getD 9 false = false → Below w5.heap.size w5 u ∧ (listed.getD 8 false = true → ∃ kb, R 8 = .slice (some ⟨kb, 0, none⟩) 1 1 ∧ RI u (some ⟨kb, 0, none⟩) [pv])) ∧
            (listed.getD 9 false = true → ∃ Y' d', R 9 = .slice Y' ys5.length d' ∧ Box u w0.heap.size #[.slice X' xs5.length c', .slice Y ys.length cy] 100 ∧ EBd (u.setCell ⟨w0.heap.size, 1, none⟩ (.slice Y' ys5.length d')) w0.heap.size w0.heap.size X' c' Y' d' xs5 ys5 ∧ Below w0.heap.size w0 u)) ∧
          (listed.getD 11 false = true → ∃ Y' d', EBd u w0.heap.size w0.heap.size X' c' Y' d' xs5 ys5 ∧ Below w0.heap.size w0 u)) (listed.setIfInBounds i true) a' u)
                    obtain rfl | rfl | rfl | rfl | rfl | rfl | rfl | rfl : i = 0 ∨ i = 1 ∨ i = 2 ∨ i = 3 ∨ i = 4 ∨ i = 5 ∨ i = 6 ∨ i = 7 := by omega
                    · refine wpOp_plain rfl rfl (fun K' hK => ?_)
                      go_simp
                      exact hK _ _ (key _ (by rintro o ⟨⟩; rfl) _ rfl)
                    · refine wpOp_plain rfl rfl (fun K' hK => ?_)
                      have e1 := hF 0 _ rfl (ready_dep hi (j := 0) (by kernel_rfl))
                      have hx := (E5.out.1.step hbu).cell 1
                      simp only [List.getElem?_toArray, List.getElem?_cons_zero, List.getElem?_cons_succ] at hx
                      go_simp
                      exact hK _ _ (key (.slice Y ys.length cy) (by rintro o ⟨⟩; rfl) _ (by simp [upd, e1]))
                    · refine wpOp_plain rfl rfl (fun K' hK => ?_)
                      go_simp
                      exact hK _ _ (key _ (by rintro o ⟨⟩; rfl) _ rfl)
                    · refine wpOp_plain rfl rfl (fun K' hK => ?_)
                      have e1 := hF 2 _ rfl (ready_dep hi (j := 2) (by kernel_rfl))
                      rw [e1]
                      go_simp
                      exact hK _ _ (key (.pointer (some ⟨g, 0, none⟩)) (by rintro o ⟨⟩; rfl) _ (by simp [upd, e1]))
                    · refine wpOp_plain rfl rfl (fun K' hK => ?_)
                      have e1 := hF 3 _ rfl (ready_dep hi (j := 3) (by kernel_rfl))
                      rw [e1]
                      go_simp
                      exact hK _ _ (key (.pointer (some ⟨g, 0, none⟩)) (by rintro o ⟨⟩; rfl) _ (by simp [upd, e1]))
                    · refine wpOp_plain rfl rfl (fun K' hK => ?_)
                      have e1 := hF 4 _ rfl (ready_dep hi (j := 4) (by kernel_rfl))
                      have hx := ((HMB.out.step B5.out).step hbu).cell 0
                      simp only [List.getElem?_toArray, List.getElem?_cons_zero, List.getElem?_cons_succ] at hx
                      go_simp
                      exact hK _ _ (key (.map (some mb)) (by rintro o ⟨⟩; rfl) _ (by simp [upd, e1]))
                    · refine wpOp_plain rfl rfl (fun K' hK => ?_)
                      go_simp
                      exact hK _ _ (key _ (by rintro o ⟨⟩; rfl) _ rfl)
                    · refine wpOp_plain rfl rfl (fun K' hK => ?_)
                      have e5 := hF 5 _ rfl (ready_dep hi (j := 5) (by kernel_rfl))
                      have e6 := hF 6 _ rfl (ready_dep hi (j := 6) (by kernel_rfl))
                      obtain ⟨c0, hrun, hat, hwc⟩ := (ownsMap_trn HMM.out (fun es ck e => (B5.out.trans (hbu.mono B5.out.size)).block mb (Array.getElem?_eq_some_iff.1 e).1)).lookup_int lawM Tryz.underlying152 Tryz.underlying3 (zeroM u) (keyOf_int_mk Tryz.underlying3 WX.out)
                      rw [PV.out] at hat
                      obtain rfl : pv = c0 := by injection hat with hat; injection hat
                      unfold Oper.wp
                      rw [e5, e6]
                      simp [execOp, Act.eval, hrun, Result.andThen, Oper.upon]
                      exact hK _ _ (key (.int .i64 pv) (by rintro o ⟨⟩; rfl) _ (by simp [upd, e5, e6, Act.put]))
                  · obtain rfl : i = 8 := by omega
                    refine wpOp_plain rfl rfl (fun K' hK => ?_)
                    have e1 := hF 7 _ rfl (ready_dep hi (j := 7) (by kernel_rfl))
                    rw [e1]
                    go_simp
                    refine hK _ _ ⟨upd R 8 (.slice (some ⟨u.heap.size, 0, none⟩) 1 1), by simp [upd, e1], fun _ => ⟨hF.set hsI (by rintro o ⟨⟩), fun _ => ⟨step hbu (below_alloc _ _), fun _ => ⟨u.heap.size, rfl, ri_one u pv⟩⟩, fun h => absurd h (by rw [getD_set hsI, if_neg (by omega), n9]; decide)⟩, fun h => absurd h (by rw [getD_set hsI, if_neg (by omega), n11]; decide)⟩
                · obtain rfl | rfl | rfl : i = 9 ∨ i = 10 ∨ i = 11 := by omega
                  · refine wpOp_plain rfl rfl (fun K' hK => ?_)
                    obtain ⟨hbu, h8⟩ := hA9 hn
                    obtain ⟨kb, e8, r8⟩ := h8 (ready_dep hi (j := 8) (by kernel_rfl))
                    have e1 := hF 1 _ rfl (ready_dep hi (j := 1) (by kernel_rfl))
                    refine opwp_append_row (.tmp 40) (.tmp 47) rfl w0.heap.size (.slice Y ys.length cy) ys e1 (RowV.below E5.out.2.2.1 hbu) (some ⟨kb, 0, none⟩) 1 [pv] e8 r8 (by simp; omega) (Nat.le_trans B5.out.size hbu.size) ?_
                    intro v' w' r1 r2 r3
                    have r1' : RowV w' w0.heap.size v' ys5 := by rw [H6.out]; exact r1
                    obtain ⟨Y', d', rfl⟩ := r1'.form
                    have hp := E5.out.push2 hbu r1' r2 r3
                    refine hK _ _ ⟨upd R 9 (.slice Y' ys5.length d'), rfl, fun _ => ⟨hF.set hsI (by rintro o ⟨⟩), fun h => absurd h (by rw [getD_set hsI, if_pos rfl]; decide), fun _ => ⟨Y', d', rfl, hp.1, hp.2, ?_⟩⟩, fun h => absurd h (by rw [getD_set hsI, if_neg (by omega), n11]; decide)⟩
                    exact (B5.out.trans (hbu.mono B5.out.size)).grown r2 (Nat.le_trans B5.out.size hbu.size) (fun j hj => (World.ownsRow.lt E5.out.2.2.1 j hj).1)
                  · refine wpOp_plain rfl rfl (fun K' hK => ?_)
                    have d9 := ready_dep hi (j := 9) (by kernel_rfl)
                    obtain ⟨Y', d', e9, hp⟩ := hB9 d9
                    go_simp
                    refine hK _ _ ⟨upd R 10 (.pointer (some ⟨w0.heap.size, 1, none⟩)), by simp [upd, e9], fun _ => ⟨hF.set hsI (by rintro o ⟨⟩; rfl), fun h => absurd h (by rw [getD_set hsI, if_neg (by omega), d9]; decide), fun _ => ⟨Y', d', e9, hp⟩⟩, fun h => absurd h (by rw [getD_set hsI, if_neg (by omega), n11]; decide)⟩
                  · refine wpOp_plain rfl rfl (fun K' hK => ?_)
                    have d9 := ready_dep hi (j := 9) (by kernel_rfl)
                    obtain ⟨Y', d', e9, hp1, hp2, hp3⟩ := hB9 d9
                    have e10 := hF 10 _ rfl (ready_dep hi (j := 10) (by kernel_rfl))
                    have y1 := hp1.cell 1
                    have y3 := hp1.frozen 1
                    simp only [List.getElem?_toArray, List.getElem?_cons_zero, List.getElem?_cons_succ] at y1
                    go_simp
                    refine hK _ _ ⟨R, by rw [e9, e10], fun h => absurd h (by rw [getD_set hsI, if_pos rfl]; decide), fun _ => ⟨Y', d', hp2, Below.setCell hp3 E5.out.2.2.2.2 _⟩⟩
              · rintro listed a u hz hall ⟨R, rfl, h1, h2⟩
                obtain ⟨Y', d', hE6, hB6⟩ := h2 (hall 11 (by decide))
                have E6 := Lib.hid hE6
                have B6 := Lib.hid hB6
                clear h1 h2 hE6 hB6 E5 B5
                dsimp only
                go_wp2
                go_roundw
                case rel =>
                  refine ⟨j + 1, X', c', Y', d', us ++ [x], by omega, by go_num, O2, Lib.hid ?_, B6⟩
                  have e := E6.out
                  rwa [H5.out, H6.out, ← HYS.out, PQ.out, show [pval q x] = List.map (pval q) [x] from rfl, ← List.map_append] at e
                case measure => simp [intOf]; omega
          · have hin' : inB x 10 17 = false := by simpa using hin
            have HN := Lib.hid hin'
            have O2 := Lib.hid (show us = dv (T ++ xs.take (j + 1)) by rw [TX.out, ← List.append_assoc, dv_no hin']; exact hU.out)
            clear hin hin'
            go_wp2_with fail
            refine (impl_IsVar x _).mono ?_
            rintro e w' ⟨rfl, rfl⟩
            rw [HN.out]
            go_wp2
            go_roundw
            case rel => exact ⟨j + 1, X, cx, Y, cy, us, by omega, by go_num, O2, hE, hB⟩
            case measure => simp [intOf]; omega
        · obtain rfl : j = xs.length := by omega
          have O2 := Lib.hid (show us = dv (terms (ats.take (k + 1))) by rw [TT.out, hU.out, List.take_length])
          go_wp2
          go_roundw
          case rel => exact ⟨k + 1, X, cx, Y, cy, us, by omega, by go_num, O2, hE, hB⟩
          case measure => simp [intOf]; omega
    · obtain rfl : k = ats.length := by omega
      have U9 := Lib.hid (show us = dv (terms ats) by rw [hU.out, List.take_length])
      have hX9 := hE.out
      have hy := Y0.out.step hB.out
      have HY9 := Lib.hid hy
      have q0 := hX9.1.cell 0
      have q1 := hX9.1.cell 1
      have y0 := hy.cell 0
      have y1 := hy.cell 1
      have y2 := hy.frozen 0
      have y3 := hy.frozen 1
      simp only [List.getElem?_toArray, List.getElem?_cons_zero, List.getElem?_cons_succ] at q0 q1 y0 y1
      have HX9 := Lib.hid hX9
      clear hX9 hy hE
      go_wp2
      have s1 := HY9.out.set 0 (.slice X us.length cx)
      have z := s1.set 1 (.slice Y us.length cy)
      have z0 := z.cell 0
      have z1 := z.cell 1
      simp only [List.setIfInBounds_toArray, List.set_cons_zero, List.set_cons_succ, List.getElem?_toArray, List.getElem?_cons_zero, List.getElem?_cons_succ] at z0 z1
      refine bodyPost_ret (v := .agg #[.slice X us.length cx, .slice Y us.length cy]) (by simp [results, Tryz.results132, go_sem, z0, z1]) rfl ?_
      rw [← U9.out]
      exact ⟨X, cx, Y, cy, by rw [List.length_map], ri_of_row ((HX9.out.2.1.set HY9.out (by decide)).set s1 (by decide)), ri_of_row ((HX9.out.2.2.1.set HY9.out (by decide)).set s1 (by decide)), Below.setCell (Below.setCell (B0.out.trans (hB.out.mono B0.out.size)) (by (try simp) <;> omega) _) (by (try simp) <;> omega) _⟩
end Go.Proofs.YtimlpdcambmcjaaGreat
