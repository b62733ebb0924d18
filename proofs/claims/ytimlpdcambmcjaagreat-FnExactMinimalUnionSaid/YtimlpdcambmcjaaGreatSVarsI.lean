/- What the functions on a query's variables and constants answer. Conditions: none beyond each theorem's own. -/
import Derived.Test.YtimlpdcambmcjaaGreatS9

namespace Go.Proofs.YtimlpdcambmcjaaGreat
open Go.ChangeShapes Go.WideShapes Go.ChangeAt Go.RowKit Go.Sort
open Go.Deep (BT)
set_option linter.unusedVariables false
set_option linter.unusedSimpArgs false

set_option maxRecDepth 100000 in
set_option maxHeartbeats 1000000 in
theorem termsOf_var (H A : Option Addr) (ch c : Nat) (hs : List Int) (l : FL) (hz : szF l ≤ 1048576) (w : World) (h : RF w A l) :
    Calls Tryz.prog 130 #[.agg #[.slice H hs.length ch, .slice A l.length c], .func (.func 151) #[] #[]] w (ListT w (wl 10 17 (terms l))) := by
  have hl := szF_len hz
  have hl' : (l.length : Int) ≤ 1048576 := by omega
  have HI := Lib.hid h
  have B0 := Lib.hid (below_alloc w (.cells #[.slice H hs.length ch, .slice A l.length c] 29))
  clear h
  go_enter Tryz.func130, Tryz.ntmps130
  go_wp2
  go_loopw [5, 7, 9, 13] (fun p _ _ i wr => ∃ (k : Nat) (t : BT Int) (q : Option Addr), k ≤ l.length ∧ i = .int .i64 k ∧ p = .pointer q ∧ Hid (t.ptr = .pointer q) ∧ Hid (tl t = wl 10 17 (terms (l.take k))) ∧ Hid (At wr (w.heap.size + 1) t) ∧ Hid (tb t).Nodup ∧ Hid (Below w.heap.size w wr) ∧ Hid (w.heap.size + 1 ≤ wr.heap.size)) (fun _ _ _ i _ => l.length - (intOf i).toNat)
  case atStart => exact ⟨0, .nil, none, by omega, rfl, rfl, Lib.hid rfl, Lib.hid rfl, Lib.hid trivial, Lib.hid List.Pairwise.nil, B0, Lib.hid (by simp)⟩
  case round =>
    obtain ⟨k, t, q, hk, rfl, rfl, hP, hO, hT, hN, hB, hS⟩ := hrel
    have hk0 : (0 : Int) ≤ (k : Int) := by omega
    by_cases hlt : k < l.length
    · generalize hf : l.getD k (0, []) = f
      obtain ⟨r, xs⟩ := f
      have hxl : xs.length ≤ 1048576 := by have := szF_elem hz hlt; rw [hf] at this; exact this
      have hxl' : (xs.length : Int) ≤ 1048576 := by omega
      have TT := Lib.hid (terms_take l hlt hf)
      have hk1 : (k : Int) < (l.length : Int) := by omega
      obtain ⟨b, off, B, c3, rfl, hb, e0, e1, _, hcm, hJ⟩ := HI.out.at_ hlt hf
      have q0 := (hB.out.cell (p := ⟨b, off + k * 2, none⟩) hb).trans e0
      have q1 := (hB.out.cell (p := ⟨b, off + k * 2 + 1, none⟩) hb).trans e1
      have HJ := Lib.hid hJ
      have BA := below_alloc wr (.cells #[.int .i64 r, .slice B xs.length c3] 67)
      have hT1 := Lib.hid (hT.out.step BA)
      have hB1 := Lib.hid (step hB.out BA)
      have hS1 := Lib.hid (show w.heap.size + 1 ≤ (wr.alloc (.cells #[.int .i64 r, .slice B xs.length c3] 67)).heap.size by have := hS.out; simp; omega)
      generalize terms (l.take k) = T at hO TT
      clear hf e0 e1 hJ BA
      go_wp2
      go_loopw [5, 9, 20] (fun p _ i wr2 => ∃ (j : Nat) (t : BT Int) (q : Option Addr), j ≤ xs.length ∧ i = .int .i64 j ∧ p = .pointer q ∧ Hid (t.ptr = .pointer q) ∧ Hid (tl t = wl 10 17 (T ++ xs.take j)) ∧ Hid (At wr2 (w.heap.size + 1) t) ∧ Hid (tb t).Nodup ∧ Hid (Below w.heap.size w wr2) ∧ Hid (w.heap.size + 1 ≤ wr2.heap.size)) (fun _ _ i _ => xs.length - (intOf i).toNat)
      case atStart => exact ⟨0, t, q, by omega, rfl, rfl, hP, Lib.hid (by rw [hO.out]; simp), hT1, hN, hB1, hS1⟩
      case round =>
        clear q0 q1 hP hO hT hN hB hS hT1 hB1 hS1
        obtain ⟨j, t, q, hj, rfl, rfl, hP, hO, hT, hN, hB, hS⟩ := hrel
        have hj0 : (0 : Int) ≤ (j : Int) := by omega
        by_cases hjt : j < xs.length
        · have hj1 : (j : Int) < (xs.length : Int) := by omega
          obtain ⟨b2, off2, rfl, hb2, hc0⟩ := HJ.out.at_ hjt
          have hc := (hB.out.cell (p := ⟨b2, off2 + j, none⟩) hb2).trans hc0
          generalize hx : xs.getD j 0 = x at hc
          have TX := Lib.hid (takeI xs hjt hx)
          clear hx hc0
          by_cases hin : inB x 10 17 = true
          · have HN := Lib.hid hin
            have O2 := Lib.hid (show putT t x = wl 10 17 (T ++ xs.take (j + 1)) by rw [TX.out, ← List.append_assoc, wl_yes _ hin, ← hO.out]; exact putT_eq t x (by rw [hO.out]; exact wl_asc _ _ _))
            have XP0 := addTerm_any (w.heap.size + 1) x t wr hS.out hT.out hN.out
            rw [hP.out] at XP0
            have XP := Lib.hid XP0
            clear hin XP0
            go_wp2_with fail
            refine (impl_IsVar x _).mono ?_
            rintro e w' ⟨rfl, rfl⟩
            rw [HN.out]
            go_wp2_with fail
            refine XP.out.mono ?_
            rintro e w1 ⟨t4, rfl, hA⟩
            obtain ⟨q4, hq4⟩ := ptr_form t4
            rw [hq4]
            have hP4 := Lib.hid hq4
            have HA := Lib.hid hA
            clear hA hq4
            go_wp2
            go_roundw
            case rel => exact ⟨j + 1, t4, q4, by omega, by go_num, rfl, hP4, Lib.hid (HA.out.list.trans O2.out), Lib.hid HA.out.at_, Lib.hid HA.out.nodup, Lib.hid (hB.out.trans (HA.out.below.mono (by omega))), Lib.hid (by have := hS.out; have := HA.out.below.size; omega)⟩
            case measure => simp [intOf]; omega
          · have hin' : inB x 10 17 = false := by simpa using hin
            have HN := Lib.hid hin'
            have O2 := Lib.hid (show tl t = wl 10 17 (T ++ xs.take (j + 1)) by rw [TX.out, ← List.append_assoc, wl_no _ hin', hO.out])
            clear hin hin'
            go_wp2_with fail
            refine (impl_IsVar x _).mono ?_
            rintro e w' ⟨rfl, rfl⟩
            rw [HN.out]
            go_wp2
            go_roundw
            case rel => exact ⟨j + 1, t, q, by omega, by go_num, rfl, hP, O2, hT, hN, hB, hS⟩
            case measure => simp [intOf]; omega
        · obtain rfl : j = xs.length := by omega
          have O2 := Lib.hid (show tl t = wl 10 17 (terms (l.take (k + 1))) by rw [TT.out, hO.out, take_all])
          go_wp2
          go_roundw
          case rel => exact ⟨k + 1, t, q, by omega, by go_num, rfl, hP, O2, hT, hN, hB, hS⟩
          case measure => simp [intOf]; omega
    · obtain rfl : k = l.length := by omega
      have O2 := Lib.hid (show tl t = wl 10 17 (terms l) by rw [hO.out, take_all])
      have XL0 := listTerms_any (w.heap.size + 1) t wr hT.out (by have := len_hid O2.out (by omega); omega)
      rw [hP.out, O2.out] at XL0
      have XL := Lib.hid XL0
      clear XL0
      go_wp2_with fail
      refine XL.out.mono ?_
      rintro e w1 ⟨v, rfl, hown, d⟩
      have HO := Lib.hid (ownsRow_lo hown hB.out.size)
      have HD := Lib.hid (step hB.out d)
      clear hown d
      go_wp2
      go_ret
      exact ⟨v, rfl, HO.out, HD.out⟩

set_option maxRecDepth 100000 in
theorem impl_VarsOf (H A : Option Addr) (ch c : Nat) (hs : List Int) (l : FL) (hz : szF l ≤ 1048576) (w : World) (h : RF w A l) :
    Calls Tryz.prog 123 #[.agg #[.slice H hs.length ch, .slice A l.length c]] w (ListT w (wl 10 17 (terms l))) := by
  have HI := Lib.hid (h.step (below_alloc w (.cells #[.slice H hs.length ch, .slice A l.length c] 29)))
  clear h
  go_enter Tryz.func123, Tryz.ntmps123
  go_wp2_with fail
  refine (termsOf_var H A ch c hs l hz _ HI.out).mono ?_
  rintro e w1 ⟨v, rfl, hown, d⟩
  have HO := Lib.hid (ownsRow_lo hown (below_alloc w _).size)
  have HD := Lib.hid (below_new d)
  clear hown d
  go_wp2
  go_ret
  exact ⟨v, rfl, HO.out, HD.out⟩

set_option maxRecDepth 100000 in
set_option maxHeartbeats 1000000 in
theorem termsOf_con (H A : Option Addr) (ch c : Nat) (hs : List Int) (l : FL) (hz : szF l ≤ 1048576) (w : World) (h : RF w A l) :
    Calls Tryz.prog 130 #[.agg #[.slice H hs.length ch, .slice A l.length c], .func (.func 131) #[] #[]] w (ListT w (wl 0 9 (terms l))) := by
  have hl := szF_len hz
  have hl' : (l.length : Int) ≤ 1048576 := by omega
  have HI := Lib.hid h
  have B0 := Lib.hid (below_alloc w (.cells #[.slice H hs.length ch, .slice A l.length c] 29))
  clear h
  go_enter Tryz.func130, Tryz.ntmps130
  go_wp2
  go_loopw [5, 7, 9, 13] (fun p _ _ i wr => ∃ (k : Nat) (t : BT Int) (q : Option Addr), k ≤ l.length ∧ i = .int .i64 k ∧ p = .pointer q ∧ Hid (t.ptr = .pointer q) ∧ Hid (tl t = wl 0 9 (terms (l.take k))) ∧ Hid (At wr (w.heap.size + 1) t) ∧ Hid (tb t).Nodup ∧ Hid (Below w.heap.size w wr) ∧ Hid (w.heap.size + 1 ≤ wr.heap.size)) (fun _ _ _ i _ => l.length - (intOf i).toNat)
  case atStart => exact ⟨0, .nil, none, by omega, rfl, rfl, Lib.hid rfl, Lib.hid rfl, Lib.hid trivial, Lib.hid List.Pairwise.nil, B0, Lib.hid (by simp)⟩
  case round =>
    obtain ⟨k, t, q, hk, rfl, rfl, hP, hO, hT, hN, hB, hS⟩ := hrel
    have hk0 : (0 : Int) ≤ (k : Int) := by omega
    by_cases hlt : k < l.length
    · generalize hf : l.getD k (0, []) = f
      obtain ⟨r, xs⟩ := f
      have hxl : xs.length ≤ 1048576 := by have := szF_elem hz hlt; rw [hf] at this; exact this
      have hxl' : (xs.length : Int) ≤ 1048576 := by omega
      have TT := Lib.hid (terms_take l hlt hf)
      have hk1 : (k : Int) < (l.length : Int) := by omega
      obtain ⟨b, off, B, c3, rfl, hb, e0, e1, _, hcm, hJ⟩ := HI.out.at_ hlt hf
      have q0 := (hB.out.cell (p := ⟨b, off + k * 2, none⟩) hb).trans e0
      have q1 := (hB.out.cell (p := ⟨b, off + k * 2 + 1, none⟩) hb).trans e1
      have HJ := Lib.hid hJ
      have BA := below_alloc wr (.cells #[.int .i64 r, .slice B xs.length c3] 67)
      have hT1 := Lib.hid (hT.out.step BA)
      have hB1 := Lib.hid (step hB.out BA)
      have hS1 := Lib.hid (show w.heap.size + 1 ≤ (wr.alloc (.cells #[.int .i64 r, .slice B xs.length c3] 67)).heap.size by have := hS.out; simp; omega)
      generalize terms (l.take k) = T at hO TT
      clear hf e0 e1 hJ BA
      go_wp2
      go_loopw [5, 9, 20] (fun p _ i wr2 => ∃ (j : Nat) (t : BT Int) (q : Option Addr), j ≤ xs.length ∧ i = .int .i64 j ∧ p = .pointer q ∧ Hid (t.ptr = .pointer q) ∧ Hid (tl t = wl 0 9 (T ++ xs.take j)) ∧ Hid (At wr2 (w.heap.size + 1) t) ∧ Hid (tb t).Nodup ∧ Hid (Below w.heap.size w wr2) ∧ Hid (w.heap.size + 1 ≤ wr2.heap.size)) (fun _ _ i _ => xs.length - (intOf i).toNat)
      case atStart => exact ⟨0, t, q, by omega, rfl, rfl, hP, Lib.hid (by rw [hO.out]; simp), hT1, hN, hB1, hS1⟩
      case round =>
        clear q0 q1 hP hO hT hN hB hS hT1 hB1 hS1
        obtain ⟨j, t, q, hj, rfl, rfl, hP, hO, hT, hN, hB, hS⟩ := hrel
        have hj0 : (0 : Int) ≤ (j : Int) := by omega
        by_cases hjt : j < xs.length
        · have hj1 : (j : Int) < (xs.length : Int) := by omega
          obtain ⟨b2, off2, rfl, hb2, hc0⟩ := HJ.out.at_ hjt
          have hc := (hB.out.cell (p := ⟨b2, off2 + j, none⟩) hb2).trans hc0
          generalize hx : xs.getD j 0 = x at hc
          have TX := Lib.hid (takeI xs hjt hx)
          clear hx hc0
          by_cases hin : inB x 0 9 = true
          · have HN := Lib.hid hin
            have O2 := Lib.hid (show putT t x = wl 0 9 (T ++ xs.take (j + 1)) by rw [TX.out, ← List.append_assoc, wl_yes _ hin, ← hO.out]; exact putT_eq t x (by rw [hO.out]; exact wl_asc _ _ _))
            have XP0 := addTerm_any (w.heap.size + 1) x t wr hS.out hT.out hN.out
            rw [hP.out] at XP0
            have XP := Lib.hid XP0
            clear hin XP0
            go_wp2_with fail
            refine (isValue_any x _).mono ?_
            rintro e w' ⟨rfl, rfl⟩
            rw [HN.out]
            go_wp2_with fail
            refine XP.out.mono ?_
            rintro e w1 ⟨t4, rfl, hA⟩
            obtain ⟨q4, hq4⟩ := ptr_form t4
            rw [hq4]
            have hP4 := Lib.hid hq4
            have HA := Lib.hid hA
            clear hA hq4
            go_wp2
            go_roundw
            case rel => exact ⟨j + 1, t4, q4, by omega, by go_num, rfl, hP4, Lib.hid (HA.out.list.trans O2.out), Lib.hid HA.out.at_, Lib.hid HA.out.nodup, Lib.hid (hB.out.trans (HA.out.below.mono (by omega))), Lib.hid (by have := hS.out; have := HA.out.below.size; omega)⟩
            case measure => simp [intOf]; omega
          · have hin' : inB x 0 9 = false := by simpa using hin
            have HN := Lib.hid hin'
            have O2 := Lib.hid (show tl t = wl 0 9 (T ++ xs.take (j + 1)) by rw [TX.out, ← List.append_assoc, wl_no _ hin', hO.out])
            clear hin hin'
            go_wp2_with fail
            refine (isValue_any x _).mono ?_
            rintro e w' ⟨rfl, rfl⟩
            rw [HN.out]
            go_wp2
            go_roundw
            case rel => exact ⟨j + 1, t, q, by omega, by go_num, rfl, hP, O2, hT, hN, hB, hS⟩
            case measure => simp [intOf]; omega
        · obtain rfl : j = xs.length := by omega
          have O2 := Lib.hid (show tl t = wl 0 9 (terms (l.take (k + 1))) by rw [TT.out, hO.out, take_all])
          go_wp2
          go_roundw
          case rel => exact ⟨k + 1, t, q, by omega, by go_num, rfl, hP, O2, hT, hN, hB, hS⟩
          case measure => simp [intOf]; omega
    · obtain rfl : k = l.length := by omega
      have O2 := Lib.hid (show tl t = wl 0 9 (terms l) by rw [hO.out, take_all])
      have XL0 := listTerms_any (w.heap.size + 1) t wr hT.out (by have := len_hid O2.out (by omega); omega)
      rw [hP.out, O2.out] at XL0
      have XL := Lib.hid XL0
      clear XL0
      go_wp2_with fail
      refine XL.out.mono ?_
      rintro e w1 ⟨v, rfl, hown, d⟩
      have HO := Lib.hid (ownsRow_lo hown hB.out.size)
      have HD := Lib.hid (step hB.out d)
      clear hown d
      go_wp2
      go_ret
      exact ⟨v, rfl, HO.out, HD.out⟩

set_option maxRecDepth 100000 in
theorem impl_ConstantsOf (H A : Option Addr) (ch c : Nat) (hs : List Int) (l : FL) (hz : szF l ≤ 1048576) (w : World) (h : RF w A l) :
    Calls Tryz.prog 92 #[.agg #[.slice H hs.length ch, .slice A l.length c]] w (ListT w (wl 0 9 (terms l))) := by
  have HI := Lib.hid (h.step (below_alloc w (.cells #[.slice H hs.length ch, .slice A l.length c] 29)))
  clear h
  go_enter Tryz.func92, Tryz.ntmps92
  go_wp2_with fail
  refine (termsOf_con H A ch c hs l hz _ HI.out).mono ?_
  rintro e w1 ⟨v, rfl, hown, d⟩
  have HO := Lib.hid (ownsRow_lo hown (below_alloc w _).size)
  have HD := Lib.hid (below_new d)
  clear hown d
  go_wp2
  go_ret
  exact ⟨v, rfl, HO.out, HD.out⟩

end Go.Proofs.YtimlpdcambmcjaaGreat
