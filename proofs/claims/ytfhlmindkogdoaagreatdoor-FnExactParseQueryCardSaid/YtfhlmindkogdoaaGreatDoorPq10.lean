/- What the functions on a query's variables and constants answer. Conditions: none beyond each theorem's own. What the laws of functions on queries carry from call to call. Conditions: none beyond each theorem's own. What the functions on a query's head and on queries answer. Conditions: none beyond each theorem's own. The text of a query, and what impl.FormatQuery answers. Conditions: none beyond each theorem's own. -/
import Derived.Test.YtfhlmindkogdoaaGreatDoorPq9
import Derived.Test.YtfhlmindkogdoaaGreatDoorPq8
import Derived.Test.YtfhlmindkogdoaaGreatDoorPq5

namespace Go.Proofs.YtfhlmindkogdoaaGreatDoor
open Go.ChangeShapes Go.WideShapes Go.ChangeAt Go.RowKit Go.Sort
open Go.Deep (BT)
set_option linter.unusedVariables false
set_option linter.unusedSimpArgs false

set_option maxRecDepth 100000 in
set_option maxHeartbeats 1000000 in
theorem termsOf_var (H A : Option Addr) (ch c : Nat) (hs : List Int) (l : FL) (hz : szF l ≤ 1048576) (w : World) (h : RF w A l) :
    Calls Tryz.prog 51 #[.agg #[.slice H hs.length ch, .slice A l.length c], .func (.func 20) #[] #[]] w (ListT w (wl 10 17 (terms l))) := by
  have hl := szF_len hz
  have hl' : (l.length : Int) ≤ 1048576 := by omega
  have HI := Lib.hid h
  have B0 := Lib.hid (below_alloc w (.cells #[.slice H hs.length ch, .slice A l.length c] 27))
  clear h
  go_enter Tryz.func51, Tryz.ntmps51
  go_wp2
  go_loopw [5, 7, 9, 13] (fun p _ _ i wr => ∃ (k : Nat) (t : BT Int) (q : Option Addr), k ≤ l.length ∧ i = .int .i64 k ∧ p = .pointer q ∧ Hid (t.ptr = .pointer q) ∧ Hid (tl t = wl 10 17 (terms (l.take k))) ∧ Hid (At wr (w.heap.size + 1) t) ∧ Hid (tb t).Nodup ∧ Hid (Below w.heap.size w wr) ∧ Hid (w.heap.size + 1 ≤ wr.heap.size)) (fun _ _ _ i _ => l.length - (intOf i).toNat)
  case atStart => exact ⟨0, .nil, none, by omega, rfl, rfl, Lib.hid rfl, Lib.hid rfl, Lib.hid trivial, Lib.hid List.Pairwise.nil, B0, Lib.hid (by simp)⟩
  case round =>
    obtain ⟨k, t, q, hk, rfl, rfl, hP, hO, hT, hN, hB, hS⟩ := hrel
    have hk0 : (0 : Int) ≤ (k : Int) := by omega
    by_cases hlt : k < l.length
    · generalize hf : l.getD k (0, []) = f
      obtain ⟨r, xs⟩ := f
      have hxl : xs.length ≤ 1048576 := by have := szF_elem hz hlt; rw [hf] at this; exact this
      have hxl' : (xs.length : Int) ≤ 1048576 := by omega
      have TT := Lib.hid (terms_take l hlt hf)
      have hk1 : (k : Int) < (l.length : Int) := by omega
      obtain ⟨b, off, B, c3, rfl, hb, e0, e1, _, hcm, hJ⟩ := HI.out.at_ hlt hf
      have q0 := (hB.out.cell (p := ⟨b, off + k * 2, none⟩) hb).trans e0
      have q1 := (hB.out.cell (p := ⟨b, off + k * 2 + 1, none⟩) hb).trans e1
      have HJ := Lib.hid hJ
      have BA := below_alloc wr (.cells #[.int .i64 r, .slice B xs.length c3] 38)
      have hT1 := Lib.hid (hT.out.step BA)
      have hB1 := Lib.hid (step hB.out BA)
      have hS1 := Lib.hid (show w.heap.size + 1 ≤ (wr.alloc (.cells #[.int .i64 r, .slice B xs.length c3] 38)).heap.size by have := hS.out; simp; omega)
      generalize terms (l.take k) = T at hO TT
      clear hf e0 e1 hJ BA
      go_wp2
      go_loopw [5, 9, 20] (fun p _ i wr2 => ∃ (j : Nat) (t : BT Int) (q : Option Addr), j ≤ xs.length ∧ i = .int .i64 j ∧ p = .pointer q ∧ Hid (t.ptr = .pointer q) ∧ Hid (tl t = wl 10 17 (T ++ xs.take j)) ∧ Hid (At wr2 (w.heap.size + 1) t) ∧ Hid (tb t).Nodup ∧ Hid (Below w.heap.size w wr2) ∧ Hid (w.heap.size + 1 ≤ wr2.heap.size)) (fun _ _ i _ => xs.length - (intOf i).toNat)
      case atStart => exact ⟨0, t, q, by omega, rfl, rfl, hP, Lib.hid (by rw [hO.out]; simp), hT1, hN, hB1, hS1⟩
      case round =>
        clear q0 q1 hP hO hT hN hB hS hT1 hB1 hS1
        obtain ⟨j, t, q, hj, rfl, rfl, hP, hO, hT, hN, hB, hS⟩ := hrel
        have hj0 : (0 : Int) ≤ (j : Int) := by omega
        by_cases hjt : j < xs.length
        · have hj1 : (j : Int) < (xs.length : Int) := by omega
          obtain ⟨b2, off2, rfl, hb2, hc0⟩ := HJ.out.at_ hjt
          have hc := (hB.out.cell (p := ⟨b2, off2 + j, none⟩) hb2).trans hc0
          generalize hx : xs.getD j 0 = x at hc
          have TX := Lib.hid (takeI xs hjt hx)
          clear hx hc0
          by_cases hin : inB x 10 17 = true
          · have HN := Lib.hid hin
            have O2 := Lib.hid (show putT t x = wl 10 17 (T ++ xs.take (j + 1)) by rw [TX.out, ← List.append_assoc, wl_yes _ hin, ← hO.out]; exact putT_eq t x (by rw [hO.out]; exact wl_asc _ _ _))
            have XP0 := addTerm_any (w.heap.size + 1) x t wr hS.out hT.out hN.out
            rw [hP.out] at XP0
            have XP := Lib.hid XP0
            clear hin XP0
            go_wp2_with fail
            refine (impl_IsVar x _).mono ?_
            rintro e w' ⟨rfl, rfl⟩
            rw [HN.out]
            go_wp2_with fail
            refine XP.out.mono ?_
            rintro e w1 ⟨t4, rfl, hA⟩
            obtain ⟨q4, hq4⟩ := ptr_form t4
            rw [hq4]
            have hP4 := Lib.hid hq4
            have HA := Lib.hid hA
            clear hA hq4
            go_wp2
            go_roundw
            case rel => exact ⟨j + 1, t4, q4, by omega, by go_num, rfl, hP4, Lib.hid (HA.out.list.trans O2.out), Lib.hid HA.out.at_, Lib.hid HA.out.nodup, Lib.hid (hB.out.trans (HA.out.below.mono (by omega))), Lib.hid (by have := hS.out; have := HA.out.below.size; omega)⟩
            case measure => simp [intOf]; omega
          · have hin' : inB x 10 17 = false := by simpa using hin
            have HN := Lib.hid hin'
            have O2 := Lib.hid (show tl t = wl 10 17 (T ++ xs.take (j + 1)) by rw [TX.out, ← List.append_assoc, wl_no _ hin', hO.out])
            clear hin hin'
            go_wp2_with fail
            refine (impl_IsVar x _).mono ?_
            rintro e w' ⟨rfl, rfl⟩
            rw [HN.out]
            go_wp2
            go_roundw
            case rel => exact ⟨j + 1, t, q, by omega, by go_num, rfl, hP, O2, hT, hN, hB, hS⟩
            case measure => simp [intOf]; omega
        · obtain rfl : j = xs.length := by omega
          have O2 := Lib.hid (show tl t = wl 10 17 (terms (l.take (k + 1))) by rw [TT.out, hO.out, take_all])
          go_wp2
          go_roundw
          case rel => exact ⟨k + 1, t, q, by omega, by go_num, rfl, hP, O2, hT, hN, hB, hS⟩
          case measure => simp [intOf]; omega
    · obtain rfl : k = l.length := by omega
      have O2 := Lib.hid (show tl t = wl 10 17 (terms l) by rw [hO.out, take_all])
      have XL0 := listTerms_any (w.heap.size + 1) t wr hT.out (by have := len_hid O2.out (by omega); omega)
      rw [hP.out, O2.out] at XL0
      have XL := Lib.hid XL0
      clear XL0
      go_wp2_with fail
      refine XL.out.mono ?_
      rintro e w1 ⟨v, rfl, hown, d⟩
      have HO := Lib.hid (ownsRow_lo hown hB.out.size)
      have HD := Lib.hid (step hB.out d)
      clear hown d
      go_wp2
      go_ret
      exact ⟨v, rfl, HO.out, HD.out⟩

set_option maxRecDepth 100000 in
theorem impl_VarsOf (H A : Option Addr) (ch c : Nat) (hs : List Int) (l : FL) (hz : szF l ≤ 1048576) (w : World) (h : RF w A l) :
    Calls Tryz.prog 13 #[.agg #[.slice H hs.length ch, .slice A l.length c]] w (ListT w (wl 10 17 (terms l))) := by
  have HI := Lib.hid (h.step (below_alloc w (.cells #[.slice H hs.length ch, .slice A l.length c] 27)))
  clear h
  go_enter Tryz.func13, Tryz.ntmps13
  go_wp2_with fail
  refine (termsOf_var H A ch c hs l hz _ HI.out).mono ?_
  rintro e w1 ⟨v, rfl, hown, d⟩
  have HO := Lib.hid (ownsRow_lo hown (below_alloc w _).size)
  have HD := Lib.hid (below_new d)
  clear hown d
  go_wp2
  go_ret
  exact ⟨v, rfl, HO.out, HD.out⟩

set_option maxRecDepth 100000 in
set_option maxHeartbeats 1000000 in
theorem termsOf_con (H A : Option Addr) (ch c : Nat) (hs : List Int) (l : FL) (hz : szF l ≤ 1048576) (w : World) (h : RF w A l) :
    Calls Tryz.prog 51 #[.agg #[.slice H hs.length ch, .slice A l.length c], .func (.func 52) #[] #[]] w (ListT w (wl 0 9 (terms l))) := by
  have hl := szF_len hz
  have hl' : (l.length : Int) ≤ 1048576 := by omega
  have HI := Lib.hid h
  have B0 := Lib.hid (below_alloc w (.cells #[.slice H hs.length ch, .slice A l.length c] 27))
  clear h
  go_enter Tryz.func51, Tryz.ntmps51
  go_wp2
  go_loopw [5, 7, 9, 13] (fun p _ _ i wr => ∃ (k : Nat) (t : BT Int) (q : Option Addr), k ≤ l.length ∧ i = .int .i64 k ∧ p = .pointer q ∧ Hid (t.ptr = .pointer q) ∧ Hid (tl t = wl 0 9 (terms (l.take k))) ∧ Hid (At wr (w.heap.size + 1) t) ∧ Hid (tb t).Nodup ∧ Hid (Below w.heap.size w wr) ∧ Hid (w.heap.size + 1 ≤ wr.heap.size)) (fun _ _ _ i _ => l.length - (intOf i).toNat)
  case atStart => exact ⟨0, .nil, none, by omega, rfl, rfl, Lib.hid rfl, Lib.hid rfl, Lib.hid trivial, Lib.hid List.Pairwise.nil, B0, Lib.hid (by simp)⟩
  case round =>
    obtain ⟨k, t, q, hk, rfl, rfl, hP, hO, hT, hN, hB, hS⟩ := hrel
    have hk0 : (0 : Int) ≤ (k : Int) := by omega
    by_cases hlt : k < l.length
    · generalize hf : l.getD k (0, []) = f
      obtain ⟨r, xs⟩ := f
      have hxl : xs.length ≤ 1048576 := by have := szF_elem hz hlt; rw [hf] at this; exact this
      have hxl' : (xs.length : Int) ≤ 1048576 := by omega
      have TT := Lib.hid (terms_take l hlt hf)
      have hk1 : (k : Int) < (l.length : Int) := by omega
      obtain ⟨b, off, B, c3, rfl, hb, e0, e1, _, hcm, hJ⟩ := HI.out.at_ hlt hf
      have q0 := (hB.out.cell (p := ⟨b, off + k * 2, none⟩) hb).trans e0
      have q1 := (hB.out.cell (p := ⟨b, off + k * 2 + 1, none⟩) hb).trans e1
      have HJ := Lib.hid hJ
      have BA := below_alloc wr (.cells #[.int .i64 r, .slice B xs.length c3] 38)
      have hT1 := Lib.hid (hT.out.step BA)
      have hB1 := Lib.hid (step hB.out BA)
      have hS1 := Lib.hid (show w.heap.size + 1 ≤ (wr.alloc (.cells #[.int .i64 r, .slice B xs.length c3] 38)).heap.size by have := hS.out; simp; omega)
      generalize terms (l.take k) = T at hO TT
      clear hf e0 e1 hJ BA
      go_wp2
      go_loopw [5, 9, 20] (fun p _ i wr2 => ∃ (j : Nat) (t : BT Int) (q : Option Addr), j ≤ xs.length ∧ i = .int .i64 j ∧ p = .pointer q ∧ Hid (t.ptr = .pointer q) ∧ Hid (tl t = wl 0 9 (T ++ xs.take j)) ∧ Hid (At wr2 (w.heap.size + 1) t) ∧ Hid (tb t).Nodup ∧ Hid (Below w.heap.size w wr2) ∧ Hid (w.heap.size + 1 ≤ wr2.heap.size)) (fun _ _ i _ => xs.length - (intOf i).toNat)
      case atStart => exact ⟨0, t, q, by omega, rfl, rfl, hP, Lib.hid (by rw [hO.out]; simp), hT1, hN, hB1, hS1⟩
      case round =>
        clear q0 q1 hP hO hT hN hB hS hT1 hB1 hS1
        obtain ⟨j, t, q, hj, rfl, rfl, hP, hO, hT, hN, hB, hS⟩ := hrel
        have hj0 : (0 : Int) ≤ (j : Int) := by omega
        by_cases hjt : j < xs.length
        · have hj1 : (j : Int) < (xs.length : Int) := by omega
          obtain ⟨b2, off2, rfl, hb2, hc0⟩ := HJ.out.at_ hjt
          have hc := (hB.out.cell (p := ⟨b2, off2 + j, none⟩) hb2).trans hc0
          generalize hx : xs.getD j 0 = x at hc
          have TX := Lib.hid (takeI xs hjt hx)
          clear hx hc0
          by_cases hin : inB x 0 9 = true
          · have HN := Lib.hid hin
            have O2 := Lib.hid (show putT t x = wl 0 9 (T ++ xs.take (j + 1)) by rw [TX.out, ← List.append_assoc, wl_yes _ hin, ← hO.out]; exact putT_eq t x (by rw [hO.out]; exact wl_asc _ _ _))
            have XP0 := addTerm_any (w.heap.size + 1) x t wr hS.out hT.out hN.out
            rw [hP.out] at XP0
            have XP := Lib.hid XP0
            clear hin XP0
            go_wp2_with fail
            refine (isValue_any x _).mono ?_
            rintro e w' ⟨rfl, rfl⟩
            rw [HN.out]
            go_wp2_with fail
            refine XP.out.mono ?_
            rintro e w1 ⟨t4, rfl, hA⟩
            obtain ⟨q4, hq4⟩ := ptr_form t4
            rw [hq4]
            have hP4 := Lib.hid hq4
            have HA := Lib.hid hA
            clear hA hq4
            go_wp2
            go_roundw
            case rel => exact ⟨j + 1, t4, q4, by omega, by go_num, rfl, hP4, Lib.hid (HA.out.list.trans O2.out), Lib.hid HA.out.at_, Lib.hid HA.out.nodup, Lib.hid (hB.out.trans (HA.out.below.mono (by omega))), Lib.hid (by have := hS.out; have := HA.out.below.size; omega)⟩
            case measure => simp [intOf]; omega
          · have hin' : inB x 0 9 = false := by simpa using hin
            have HN := Lib.hid hin'
            have O2 := Lib.hid (show tl t = wl 0 9 (T ++ xs.take (j + 1)) by rw [TX.out, ← List.append_assoc, wl_no _ hin', hO.out])
            clear hin hin'
            go_wp2_with fail
            refine (isValue_any x _).mono ?_
            rintro e w' ⟨rfl, rfl⟩
            rw [HN.out]
            go_wp2
            go_roundw
            case rel => exact ⟨j + 1, t, q, by omega, by go_num, rfl, hP, O2, hT, hN, hB, hS⟩
            case measure => simp [intOf]; omega
        · obtain rfl : j = xs.length := by omega
          have O2 := Lib.hid (show tl t = wl 0 9 (terms (l.take (k + 1))) by rw [TT.out, hO.out, take_all])
          go_wp2
          go_roundw
          case rel => exact ⟨k + 1, t, q, by omega, by go_num, rfl, hP, O2, hT, hN, hB, hS⟩
          case measure => simp [intOf]; omega
    · obtain rfl : k = l.length := by omega
      have O2 := Lib.hid (show tl t = wl 0 9 (terms l) by rw [hO.out, take_all])
      have XL0 := listTerms_any (w.heap.size + 1) t wr hT.out (by have := len_hid O2.out (by omega); omega)
      rw [hP.out, O2.out] at XL0
      have XL := Lib.hid XL0
      clear XL0
      go_wp2_with fail
      refine XL.out.mono ?_
      rintro e w1 ⟨v, rfl, hown, d⟩
      have HO := Lib.hid (ownsRow_lo hown hB.out.size)
      have HD := Lib.hid (step hB.out d)
      clear hown d
      go_wp2
      go_ret
      exact ⟨v, rfl, HO.out, HD.out⟩

set_option maxRecDepth 100000 in
theorem impl_ConstantsOf (H A : Option Addr) (ch c : Nat) (hs : List Int) (l : FL) (hz : szF l ≤ 1048576) (w : World) (h : RF w A l) :
    Calls Tryz.prog 14 #[.agg #[.slice H hs.length ch, .slice A l.length c]] w (ListT w (wl 0 9 (terms l))) := by
  have HI := Lib.hid (h.step (below_alloc w (.cells #[.slice H hs.length ch, .slice A l.length c] 27)))
  clear h
  go_enter Tryz.func14, Tryz.ntmps14
  go_wp2_with fail
  refine (termsOf_con H A ch c hs l hz _ HI.out).mono ?_
  rintro e w1 ⟨v, rfl, hown, d⟩
  have HO := Lib.hid (ownsRow_lo hown (below_alloc w _).size)
  have HD := Lib.hid (below_new d)
  clear hown d
  go_wp2
  go_ret
  exact ⟨v, rfl, HO.out, HD.out⟩

end Go.Proofs.YtfhlmindkogdoaaGreatDoor

namespace Go.Proofs.YtfhlmindkogdoaaGreatDoor
open Go.ChangeShapes Go.WideShapes Go.ChangeAt Go.RowKit Go.Sort
open Go.Proofs.YtfhlmindkogdoaaGreatDoor.atom
set_option linter.unusedVariables false
set_option linter.unusedSimpArgs false

/-- Numbers in blocks from lo to below hi, whatever is made later. -/
def IV (w : World) (lo hi : Nat) (A : Option Addr) (xs : List Int) : Prop := Ints w lo hi A xs ∧ hi ≤ w.heap.size
theorem IV.step {w w' : World} {lo hi : Nat} {A : Option Addr} {xs : List Int} (h : IV w lo hi A xs) (d : Below w.heap.size w w') : IV w' lo hi A xs := ⟨h.1.below d h.2, Nat.le_trans h.2 d.size⟩
theorem IV.keep {w w' : World} {lo hi : Nat} {A : Option Addr} {xs : List Int} (h : IV w lo hi A xs) (hk : ∀ b, lo ≤ b → b < hi → w'.heap[b]? = w.heap[b]?) (hz : w.heap.size ≤ w'.heap.size) : IV w' lo hi A xs := ⟨h.1.keep hk, Nat.le_trans h.2 hz⟩
theorem IV.ri {w : World} {lo hi : Nat} {A : Option Addr} {xs : List Int} (h : IV w lo hi A xs) : RI w A xs := h.1.mono (Nat.zero_le _) h.2
/-- Numbers of the call's own, in blocks from lo to below hi, whatever is made later. -/
def GV (w : World) (lo hi : Nat) (A : Option Addr) (c : Nat) (xs : List Int) : Prop := (∃ q, OwnV w lo hi (.slice A xs.length c) q xs) ∧ hi ≤ w.heap.size ∧ lo ≤ hi
theorem GV.keep {w w' : World} {lo hi : Nat} {A : Option Addr} {c : Nat} {xs : List Int} (h : GV w lo hi A c xs) (hk : ∀ b, lo ≤ b → b < hi → w'.heap[b]? = w.heap[b]?) (hz : w.heap.size ≤ w'.heap.size) : GV w' lo hi A c xs := by
  obtain ⟨⟨q, h1⟩, h2, h3⟩ := h
  exact ⟨⟨q, h1.keep fun a b _ => hk _ a b⟩, Nat.le_trans h2 hz, h3⟩
theorem GV.step {w w' : World} {lo hi : Nat} {A : Option Addr} {c : Nat} {xs : List Int} (h : GV w lo hi A c xs) (d : Below w.heap.size w w') : GV w' lo hi A c xs :=
  h.keep (fun b _ hb => d.block b (by have := h.2.1; omega)) d.size
theorem GV.ri {w : World} {lo hi : Nat} {A : Option Addr} {c : Nat} {xs : List Int} (h : GV w lo hi A c xs) : RI w A xs := by
  obtain ⟨⟨q, h1⟩, h2, h3⟩ := h
  exact (h1.ints).2.2.2.mono (Nat.zero_le _) h2

/-- What a function that lists numbers returns, as its blocks. -/
def ListG (w : World) (xs : List Int) (e : Ending) (w' : World) : Prop := ∃ A c, e = .returned (.slice A xs.length c) ∧ GV w' w.heap.size w'.heap.size A c xs ∧ Below w.heap.size w w'
theorem ListT.toG {w : World} {xs : List Int} {e : Ending} {w' : World} (h : ListT w xs e w') : ListG w xs e w' := by
  obtain ⟨v, he, ho, hb⟩ := h
  obtain ⟨A, c, rfl⟩ := ownsRow_form ho
  obtain ⟨q, hv⟩ := ownV_of_row ho
  exact ⟨A, c, he, ⟨⟨q, hv⟩, Nat.le_refl _, hb.size⟩, hb⟩
theorem PutO.toV {w : World} {xs : List Int} {e : Ending} {w' : World} (h : PutO w w.heap.size xs e w') : ∃ A c, e = .returned (.slice A xs.length c) ∧ IV w' w.heap.size w'.heap.size A xs ∧ Below w.heap.size w w' := by
  obtain ⟨A, c, he, hi, hb⟩ := h
  exact ⟨A, c, he, ⟨hi, Nat.le_refl _⟩, hb⟩
theorem markIntS_g (lo hi : Nat) (A : Option Addr) (c : Nat) (xs : List Int) (hl : xs.length ≤ 1048576) (w : World) (h : GV w lo hi A c xs) :
    Calls Tryz.prog 31 #[.slice A xs.length c, .int .i64 1] w fun e w' => e = .returned (.int .i64 (1 + xs.length)) ∧ Within lo hi w w' ∧ IV w' lo hi A (marks 1 xs.length) := by
  obtain ⟨⟨q, h1⟩, h2, h3⟩ := h
  refine (markIntS_own lo hi q A c 1 xs hl (by omega) (by omega) w h2 h3 h1).mono ?_
  rintro e w' ⟨rfl, hw, hi'⟩
  exact ⟨rfl, hw, hi', by rw [hw.size]; exact h2⟩
theorem heldIntS_g (lo hi : Nat) (A : Option Addr) (c n : Nat) (hl : n ≤ 1048576) (w : World) (h : IV w lo hi A (marks 1 n)) :
    Calls Tryz.prog 71 #[.slice A n c, .int .i64 1] w fun e w' => e = .returned (.int .i64 (1 + n)) ∧ w = w' := heldIntS_any lo hi A c n 1 w hl (by omega) (by omega) h.1
end Go.Proofs.YtfhlmindkogdoaaGreatDoor

namespace Go.Proofs.YtfhlmindkogdoaaGreatDoor
open Go.ChangeShapes Go.WideShapes Go.ChangeAt Go.RowKit Go.Sort
open Go.Proofs.YtfhlmindkogdoaaGreatDoor.atom
set_option linter.unusedVariables false
set_option linter.unusedSimpArgs false

/-- Are all numbers of the head among vs? -/
def inAll (vs hs : List Int) : Bool := hs.all fun x => decide (x ∈ vs)
theorem inAll_take (vs hs : List Int) (k : Nat) (hk : k < hs.length) : inAll vs (hs.take (k + 1)) = (inAll vs (hs.take k) && decide (hs.getD k 0 ∈ vs)) := by
  unfold inAll
  rw [List.take_succ_eq_append_getElem hk, List.all_append]
  simp [List.getD_eq_getElem?_getD, hk]
theorem inAll_not (vs hs : List Int) (k : Nat) (hk : k < hs.length) (h : decide (hs.getD k 0 ∈ vs) = false) : inAll vs hs = false := by
  unfold inAll
  rw [List.all_eq_false]
  refine ⟨hs[k], List.getElem_mem _, ?_⟩
  have : hs.getD k 0 = hs[k] := by simp [List.getD_eq_getElem?_getD, hk]
  rw [this] at h
  simp [h]
/-- Is hs a head for the atoms l? -/
def headB (hs : List Int) (l : FL) : Bool := decide (hs.length ≤ 3) && inAll (wl 10 17 (terms l)) hs

/-- A place of x in v, or a negative number. -/
def IdxOut (w : World) (v : List Int) (x : Int) (e : Ending) (w' : World) : Prop := (∃ n : Int, e = .returned (.int .i64 n) ∧ decide (0 ≤ n) = decide (x ∈ v)) ∧ w = w'

set_option maxRecDepth 100000 in
set_option maxHeartbeats 400000 in
theorem index_any (lo hi : Nat) (A : Option Addr) (c : Nat) (v : List Int) (x : Int) (hl : v.length ≤ 1048576) (w : World) (h : Ints w lo hi A v) :
    Calls Tryz.prog 97 #[.slice A v.length c, .int .i64 x] w (IdxOut w v x) := by
  have HI := Lib.hid h
  clear h
  have hl' : (v.length : Int) ≤ 1048576 := by omega
  go_enter Tryz.func97, Tryz.ntmps97
  go_wp2
  go_loop [5, 8] (fun _ i => ∃ k : Nat, k ≤ v.length ∧ i = .int .i64 k ∧ Hid (x ∉ v.take k)) (fun _ i => v.length - (intOf i).toNat)
  case atStart => exact ⟨0, by omega, rfl, Lib.hid (by simp)⟩
  case round =>
    obtain ⟨k, hk, rfl, ha⟩ := hrel
    by_cases hlt : k < v.length
    · obtain ⟨b, off, rfl, _, _, hc⟩ := HI.out.at_ hlt
      generalize hz : v.getD k 0 = z at hc
      have HT := Lib.hid (takeI v hlt hz)
      have HM := Lib.hid (show z ∈ v by subst hz; rw [List.getD_eq_getElem?_getD, List.getElem?_eq_getElem hlt]; exact List.getElem_mem _)
      clear hz
      by_cases he : x = z
      · subst he
        go_wp2
        go_ret
        exact ⟨⟨_, rfl, by rw [decide_eq_true HM.out]; simp⟩, rfl⟩
      · have d1 : (x == z) = false := by simpa using he
        go_wp2
        go_round
        case rel => exact ⟨k + 1, by omega, by go_num, Lib.hid (by rw [HT.out]; simp only [List.mem_append, List.mem_singleton, not_or]; exact ⟨ha.out, he⟩)⟩
        case measure => simp [intOf]; omega
    · obtain rfl : k = v.length := by omega
      go_wp2
      go_ret
      exact ⟨⟨_, rfl, by have := ha.out; rw [take_all] at this; rw [decide_eq_false this]; rfl⟩, rfl⟩
set_option maxRecDepth 100000 in
theorem contains_any (lo hi : Nat) (A : Option Addr) (c : Nat) (v : List Int) (x : Int) (hl : v.length ≤ 1048576) (w : World) (h : Ints w lo hi A v) :
    Calls Tryz.prog 77 #[.slice A v.length c, .int .i64 x] w fun e w' => e = .returned (.bool (decide (x ∈ v))) ∧ w = w' := by
  have XI := Lib.hid (index_any lo hi A c v x hl w h)
  clear h
  go_enter Tryz.func77, Tryz.ntmps77
  go_wp2_with fail
  refine XI.out.mono ?_
  rintro e w1 ⟨⟨n, rfl, hn⟩, rfl⟩
  have HN := Lib.hid hn
  clear hn
  go_wp2
  go_ret
  exact ⟨ret_bool HN.out, rfl⟩

set_option maxRecDepth 100000 in
set_option maxHeartbeats 1000000 in
theorem isHead_any (H A : Option Addr) (ch c : Nat) (hs : List Int) (l : FL) (hh : hs.length ≤ 1048577) (hz : szF l ≤ 1048576) (w : World) (h : RI w H hs) (h' : RF w A l) :
    Calls Tryz.prog 38 #[.agg #[.slice H hs.length ch, .slice A l.length c]] w fun e w' => e = .returned (.bool (headB hs l)) ∧ Below w.heap.size w w' := by
  have hh' : (hs.length : Int) ≤ 1048577 := by omega
  have B0 := Lib.hid (below_alloc w (.cells #[.slice H hs.length ch, .slice A l.length c] 27))
  have HI := Lib.hid h
  have XV := Lib.hid ((impl_VarsOf H A ch c hs l hz _ (h'.step B0.out)).mono fun _ _ h => h.toG)
  have X0 := Lib.hid (Box.new w #[.slice H hs.length ch, .slice A l.length c] 27)
  have HV := Lib.hid (wl_len 10 17 (terms l))
  clear h h'
  by_cases h3 : hs.length ≤ 3
  · have h3' : (hs.length : Int) ≤ 3 := by omega
    have E := Lib.hid (show headB hs l = inAll (wl 10 17 (terms l)) hs by simp [headB, h3])
    rw [E.out]
    have hv : (wl 10 17 (terms l)).length ≤ 1048576 := by have := HV.out; omega
    generalize wl 10 17 (terms l) = vs at XV hv
    clear HV E
    go_enter Tryz.func38, Tryz.ntmps38
    go_wp2_with fail
    refine XV.out.mono ?_
    rintro e w1 ⟨A1, c1, rfl, hg, d⟩
    have B1 := Lib.hid (step B0.out d)
    have X1 := X0.out.step d
    have x0 := X1.cell 0
    simp only [List.getElem?_toArray, List.getElem?_cons_zero, List.getElem?_cons_succ] at x0
    have HG := Lib.hid hg.ri
    have HI1 := Lib.hid (HI.out.step B1.out)
    clear hg d X1
    go_wp2
    go_loop [5, 15] (fun _ i => ∃ k : Nat, k ≤ hs.length ∧ i = .int .i64 k ∧ Hid (inAll vs (hs.take k) = true)) (fun _ i => hs.length - (intOf i).toNat)
    case atStart => exact ⟨0, by omega, rfl, Lib.hid rfl⟩
    case round =>
      obtain ⟨k, hk, rfl, ha⟩ := hrel
      by_cases hlt : k < hs.length
      · obtain ⟨b, off, rfl, _, hc⟩ := HI1.out.at_ hlt
        generalize hx : hs.getD k 0 = x at hc
        have HX := Lib.hid hx
        have XC := Lib.hid (contains_any 0 _ A1 c1 vs x hv w1 HG.out)
        clear hx
        by_cases hm : decide (x ∈ vs) = true
        · have HM := Lib.hid hm
          clear hm
          go_wp2_with fail
          refine XC.out.mono ?_
          rintro e w2 ⟨he, rfl⟩
          rw [HM.out] at he
          subst he
          go_wp2
          go_round
          case rel => exact ⟨k + 1, by omega, by go_num, Lib.hid (by rw [inAll_take _ _ _ hlt, ha.out, HX.out, HM.out]; rfl)⟩
          case measure => simp [intOf]; omega
        · have HM := Lib.hid (show decide (x ∈ vs) = false by simpa using hm)
          clear hm
          go_wp2_with fail
          refine XC.out.mono ?_
          rintro e w2 ⟨he, rfl⟩
          rw [HM.out] at he
          subst he
          go_wp2
          go_ret
          exact ⟨ret_bool (inAll_not _ _ k hlt (by rw [HX.out]; exact HM.out)).symm, B1.out⟩
      · obtain rfl : k = hs.length := by omega
        go_wp2
        go_ret
        exact ⟨ret_bool (by have := ha.out; rw [take_all] at this; rw [this]), B1.out⟩
  · have h3' : 3 < (hs.length : Int) := by omega
    have E := Lib.hid (show headB hs l = false by simp [headB, h3])
    rw [E.out]
    go_enter Tryz.func38, Tryz.ntmps38
    go_wp2
    go_ret
    exact ⟨rfl, B0.out⟩
end Go.Proofs.YtfhlmindkogdoaaGreatDoor

namespace Go.Proofs.YtfhlmindkogdoaaGreatDoor
open Go.ChangeShapes Go.WideShapes Go.ChangeAt Go.RowKit Go.Sort
open Go.Proofs.YtfhlmindkogdoaaGreatDoor.atom
set_option linter.unusedVariables false
set_option linter.unusedSimpArgs false

/-- The text of an atom that has one. -/
def atL (f : Int × List Int) : List UInt8 := [114, dg f.1, 40] ++ commaT f.2 ++ [41]
/-- The atoms' texts, the word between them. -/
def andL : FL → List UInt8
  | [] => []
  | [f] => atL f
  | f :: g :: r => atL f ++ ([32, 97, 110, 100, 32] ++ andL (g :: r))
theorem andL_snoc : ∀ (l : FL) (f : Int × List Int), l ≠ [] → andL (l ++ [f]) = andL l ++ ([32, 97, 110, 100, 32] ++ atL f)
  | [], x, h => absurd rfl h
  | [y], x, _ => rfl
  | y :: z :: r, x, _ => by
    have ih := andL_snoc (z :: r) x (by simp)
    simp only [List.cons_append] at ih ⊢
    rw [andL, andL, ih]
    simp
theorem andL_take (l : FL) (k : Nat) (hk : k < l.length) {f : Int × List Int} (hf : l.getD k (0, []) = f) : andL (l.take (k + 1)) = if k = 0 then atL f else andL (l.take k) ++ ([32, 97, 110, 100, 32] ++ atL f) := by
  have e : l[k] = f := by rw [← hf]; simp [List.getD_eq_getElem?_getD, hk]
  rw [List.take_succ_eq_append_getElem hk, e]
  by_cases h0 : k = 0
  · subst h0; simp [andL]
  · rw [if_neg h0, andL_snoc]
    intro h
    have := congrArg List.length h
    rw [List.length_take, List.length_nil] at this
    omega
theorem and_join : ∀ l : FL, Lib.join (l.map atL) [32, 97, 110, 100, 32] = andL l
  | [] => rfl
  | [x] => by simp [Lib.join_one, andL]
  | x :: y :: r => by
    have ih := and_join (y :: r)
    simp only [List.map_cons] at ih ⊢
    rw [Lib.join_cons] at ih ⊢
    rw [andL, ← ih]
    simp [Lib.joinTail]
/-- Has every atom a text? -/
def okA (l : FL) : Bool := l.all fun f => fmtOkA f.1 f.2
theorem okA_take (l : FL) (k : Nat) (hk : k < l.length) {r : Int} {xs : List Int} (hf : l.getD k (0, []) = (r, xs)) : okA (l.take (k + 1)) = (okA (l.take k) && fmtOkA r xs) := by
  unfold okA
  rw [List.take_succ_eq_append_getElem hk, List.all_append]
  have : l[k] = l.getD k (0, []) := by simp [List.getD_eq_getElem?_getD, hk]
  rw [this, hf]
  simp
theorem okA_not (l : FL) (k : Nat) (hk : k < l.length) {r : Int} {xs : List Int} (hf : l.getD k (0, []) = (r, xs)) (h : fmtOkA r xs = false) : okA l = false := by
  unfold okA
  rw [List.all_eq_false]
  refine ⟨l[k], List.getElem_mem _, ?_⟩
  have : l.getD k (0, []) = l[k] := by simp [List.getD_eq_getElem?_getD, hk]
  rw [← this, hf]
  simp [h]
theorem atL_len {r : Int} {xs : List Int} (h : fmtOkA r xs = true) : 4 ≤ (atL (r, xs)).length ∧ (atL (r, xs)).length ≤ 70 := by
  simp only [fmtOkA, Bool.and_eq_true] at h
  have h3 : 1 ≤ (xs.length : Int) ∧ (xs.length : Int) ≤ 3 := by simpa [inB] using h.1.2
  have := commaT_len xs (allR_len (allR_of h.2))
  simp only [atL, List.length_append, List.length_cons, List.length_nil]
  omega
theorem andL_len : ∀ l : FL, okA l = true → (andL l).length ≤ 75 * l.length
  | [], _ => by simp [andL]
  | [(r0, xs0)], h => by
    have : fmtOkA r0 xs0 = true := by simpa [okA] using h
    have := atL_len this
    simp only [andL, List.length_cons, List.length_nil]
    omega
  | (r0, xs0) :: g :: r, h => by
    have h1 : fmtOkA r0 xs0 = true ∧ okA (g :: r) = true := by simpa [okA] using h
    have h2 := atL_len h1.1
    have h3 := andL_len (g :: r) h1.2
    simp only [andL, List.length_append, List.length_cons, List.length_nil] at *
    omega
theorem fmtA_at {r : Int} {xs : List Int} (h : fmtOkA r xs = true) : fmtA r xs = ⟨(atL (r, xs)).toArray⟩ := fmtA_yes h

/-- The text of a head. -/
def headL (hs : List Int) : List UInt8 := if hs.length = 0 then [121, 101, 115] else commaT hs
theorem head_allR {hs : List Int} {l : FL} (h : inAll (wl 10 17 (terms l)) hs = true) : allB 0 17 hs = true := by
  unfold inAll at h
  unfold allB
  rw [List.all_eq_true] at h ⊢
  intro x hx
  have h1 : x ∈ wl 10 17 (terms l) := by simpa using h x hx
  have := ((wl_mem 10 17 (terms l) x).1 h1).2
  simp [inB] at this ⊢
  omega
theorem headL_len {hs : List Int} (h3 : hs.length ≤ 3) (h : allR hs) : (headL hs).length ≤ 70 := by
  unfold headL
  split
  · simp
  · have := commaT_len hs (allR_len h); omega
/-- Has the query a text? -/
def qOk (hs : List Int) (l : FL) : Bool := inB (l.length : Int) 1 4 && headB hs l && okA l
/-- The text of a query. -/
def fmtQ (hs : List Int) (l : FL) : ByteArray := if qOk hs l = true then ⟨(headL hs ++ [32, 105, 102, 32] ++ andL l).toArray⟩ else ⟨#[]⟩
theorem fmtQ_yes {hs : List Int} {l : FL} (h : qOk hs l = true) : fmtQ hs l = ⟨(headL hs ++ [32, 105, 102, 32] ++ andL l).toArray⟩ := if_pos h
theorem fmtQ_no {hs : List Int} {l : FL} (h : qOk hs l = false) : fmtQ hs l = ⟨#[]⟩ := if_neg (by simp [h])

set_option maxRecDepth 100000 in
theorem formatHead_any (H : Option Addr) (ch : Nat) (hs : List Int) (hl : hs.length ≤ 3) (hd : allR hs) (w : World) (h : RI w H hs) (ht : Tab w) :
    Calls Tryz.prog 39 #[.slice H hs.length ch] w fun e w' => e = .returned (.string ⟨(headL hs).toArray⟩) ∧ Below w.heap.size w w' := by
  have XL := Lib.hid (formatList_term H ch hs hl hd w h ht)
  clear h ht hd
  by_cases h0 : hs.length = 0
  · have E := Lib.hid (show headL hs = [121, 101, 115] from if_pos h0)
    rw [E.out]
    have d0 : ((hs.length : Int) == 0) = true := by simp [h0]
    go_enter Tryz.func39, Tryz.ntmps39
    go_wp2
    go_ret
    exact ⟨rfl, Below.refl _ _⟩
  · have E := Lib.hid (show headL hs = commaT hs from if_neg h0)
    rw [E.out]
    have d0 : ((hs.length : Int) == 0) = false := beq_false_of_ne (by omega)
    go_enter Tryz.func39, Tryz.ntmps39
    go_wp2_with fail
    refine XL.out.mono ?_
    rintro e w1 ⟨rfl, d⟩
    have D := Lib.hid d
    clear d
    go_wp2
    go_ret
    exact ⟨rfl, D.out⟩

set_option maxRecDepth 100000 in
set_option maxHeartbeats 2000000 in
theorem impl_FormatQuery (H A : Option Addr) (ch c : Nat) (hs : List Int) (l : FL) (hh : hs.length ≤ 1048577) (hz : szF l ≤ 1048576) (w : World) (h : RI w H hs) (h' : RF w A l) (ht : Tab w) :
    Calls Tryz.prog 7 #[.agg #[.slice H hs.length ch, .slice A l.length c]] w fun e w' => e = .returned (.string (fmtQ hs l)) ∧ Below w.heap.size w w' := by
  have hl := szF_len hz
  have hl' : (l.length : Int) ≤ 1048576 := by omega
  have B0 := Lib.hid (below_alloc w (.cells #[.slice H hs.length ch, .slice A l.length c] 27))
  have X0 := Lib.hid (Box.new w #[.slice H hs.length ch, .slice A l.length c] 27)
  have XH := Lib.hid (isHead_any H A ch c hs l hh hz _ (h.step B0.out) (h'.step B0.out))
  have HH := Lib.hid h
  have HF := Lib.hid h'
  have HT := Lib.hid (Lib.tabBelow_of_tabIs ht)
  clear h h' ht
  by_cases c1 : inB (l.length : Int) 1 4 = true
  · have C1 := Lib.hid c1
    have hn : 1 ≤ (l.length : Int) ∧ (l.length : Int) ≤ 4 := by simpa [inB] using c1
    by_cases c2 : headB hs l = true
    · have C2 := Lib.hid c2
      have h3 : hs.length ≤ 3 ∧ inAll (wl 10 17 (terms l)) hs = true := by simpa [headB] using c2
      have hl3 := h3.1
      have HR := Lib.hid (allR_of (head_allR h3.2))
      have QY := Lib.hid fun (ho : okA l = true) => fmtQ_yes (show qOk hs l = true by unfold qOk; rw [c1, c2, ho]; rfl)
      have QN := Lib.hid fun (ho : okA l = false) => fmtQ_no (show qOk hs l = false by unfold qOk; rw [ho]; simp)
      obtain ⟨C, hC, hCs, hmk⟩ := makeStrs l.length (by omega)
      have HC := Lib.hid hC
      have HS := Lib.hid hCs
      clear c1 c2 h3 hC hCs
      go_enter Tryz.func7, Tryz.ntmps7
      go_wp2_with fail
      refine (isBetween_any (l.length : Int) 1 4 _).mono ?_
      rintro e w1 ⟨he, rfl⟩
      rw [C1.out] at he
      subst he
      go_wp2_with fail
      refine XH.out.mono ?_
      rintro e w1 ⟨he, d⟩
      rw [C2.out] at he
      subst he
      have B1 := Lib.hid (step B0.out d)
      have X1 := Lib.hid (X0.out.step d)
      have x1 := X1.out.cell 1
      simp only [List.getElem?_toArray, List.getElem?_cons_zero, List.getElem?_cons_succ] at x1
      have lx1 := X1.out.lt
      clear d
      go_wp2
      go_loopw [4, 5, 23] (fun _ _ i wr => ∃ k : Nat, k ≤ l.length ∧ i = .int .i64 k ∧ (∃ f, Hid (wr.rowIs w1.heap.size 9 l.length f) ∧ Hid (∀ j, j < k → f j = .string ⟨(atL (l.getD j (0, []))).toArray⟩)) ∧ Hid (okA (l.take k) = true) ∧ Hid (Below w1.heap.size w1 wr) ∧ Hid (w1.heap.size < wr.heap.size)) (fun _ _ i _ => l.length - (intOf i).toNat)
      case atStart => exact ⟨0, by omega, rfl, ⟨fun _ => .string ⟨#[]⟩, Lib.hid ⟨C, by rw [heap_alloc_new], HS.out, fun i hi => HC.out i hi⟩, Lib.hid fun j hj => by omega⟩, Lib.hid rfl, Lib.hid (below_alloc _ _), Lib.hid (by simp)⟩
      case round =>
        obtain ⟨k, hk, rfl, ⟨f, hr, hf⟩, ha, hb, hs2⟩ := hrel
        clear x1
        have hk0 : (0 : Int) ≤ (k : Int) := by omega
        by_cases hlt : k < l.length
        · generalize hg : l.getD k (0, []) = g
          obtain ⟨r, xs⟩ := g
          have hxl : xs.length ≤ 1048576 := by have := szF_elem hz hlt; rw [hg] at this; exact this
          have HG := Lib.hid hg
          have OT := Lib.hid (okA_take l k hlt hg)
          have ON := Lib.hid fun (h : fmtOkA r xs = false) => okA_not l k hlt hg h
          have hk1 : (k : Int) < (l.length : Int) := by omega
          have HBW := Lib.hid (step B1.out hb.out)
          obtain ⟨b, off, B, c3, rfl, hbl, e0, e1, _, hcm, hJ⟩ := HF.out.at_ hlt hg
          have q0 := (HBW.out.cell (p := ⟨b, off + k * 2, none⟩) hbl).trans e0
          have q1 := (HBW.out.cell (p := ⟨b, off + k * 2 + 1, none⟩) hbl).trans e1
          have BA := below_alloc wr (.cells #[.int .i64 r, .slice B xs.length c3] 38)
          have XA := Lib.hid (impl_FormatAtom r xs B c3 hxl _ (hJ.step (step HBW.out BA)) (HT.out _ (step HBW.out BA)))
          have HBA := Lib.hid BA
          clear hg e0 e1 hJ BA
          go_wp2_with fail
          refine XA.out.mono ?_
          rintro e w2 ⟨rfl, d⟩
          have HB2 := Lib.hid (step hb.out (step HBA.out d))
          have HR2 := Lib.hid (World.rowIs.of_block hr.out ((step HBA.out d).block _ hs2.out))
          have hz1 := HR2.out.cell hlt
          have hz2 := HR2.out.frozen k
          have HS2 := Lib.hid (show w1.heap.size < w2.heap.size by have := hs2.out; have := (step HBA.out d).size; omega)
          clear d q0 q1
          by_cases c3 : fmtOkA r xs = true
          · have C3 := Lib.hid c3
            have HL := Lib.hid (atL_len c3)
            rw [fmtA_at c3]
            generalize hX : atL (r, xs) = X at HL
            have EX := Lib.hid hX
            have n2 : ¬ X = [] := fun e => by have := HL.out.1; rw [e] at this; simp at this
            have n1 : (X == []) = false := by simpa using n2
            clear c3 hX
            go_wp2
            go_roundw
            case rel =>
              refine ⟨k + 1, by omega, by go_num, ⟨_, Lib.hid (HR2.out.set k _), Lib.hid fun j hj => ?_⟩, Lib.hid (by rw [OT.out, ha.out, C3.out]; rfl), Lib.hid (HB2.out.setCell (Nat.le_refl _) _), Lib.hid (by rw [set_size]; exact HS2.out)⟩
              by_cases e : j = k
              · subst e; rw [if_pos rfl, HG.out, EX.out]
              · rw [if_neg e]; exact hf.out j (by omega)
            case measure => simp [intOf]; omega
          · have C3 := Lib.hid (show fmtOkA r xs = false by simpa using c3)
            rw [fmtA_no C3.out]
            clear c3
            go_wp2
            go_ret
            exact ⟨ret_str (QN.out (ON.out C3.out)).symm, Below.setCell (step B1.out HB2.out) (by have := B1.out.size; (try simp); omega) _⟩
        · obtain rfl : k = l.length := by omega
          have HA := Lib.hid (show okA l = true by have := ha.out; rwa [take_all] at this)
          have HBW := Lib.hid (step B1.out hb.out)
          have X2 := X1.out.step hb.out
          have x0 := X2.cell 0
          simp only [List.getElem?_toArray, List.getElem?_cons_zero, List.getElem?_cons_succ] at x0
          have XF := Lib.hid (formatHead_any H ch hs hl3 HR.out wr (HH.out.step HBW.out) (HT.out _ HBW.out))
          have hlen : (l.map fun g => (⟨(atL g).toArray⟩ : ByteArray)).length = l.length := by simp
          have hmap : (l.map fun g => (⟨(atL g).toArray⟩ : ByteArray)).map (·.data.toList) = l.map atL := by simp
          have hal := andL_len l HA.out
          have XJ := Lib.hid fun (W : World) (hW : Below wr.heap.size wr W) => (show Calls Tryz.prog 40 #[.slice (some ⟨w1.heap.size, 0, none⟩) l.length l.length, .string ⟨#[32, 97, 110, 100, 32]⟩] W fun e w' => e = .returned (.string ⟨(andL l).toArray⟩) ∧ Below W.heap.size W w' by
            have hj := Tryz.strings_Join w1.heap.size 0 l.length (l.map fun g => ⟨(atL g).toArray⟩) ⟨#[32, 97, 110, 100, 32]⟩ W (fun j x hx => by
              have hj : j < l.length := by rw [← hlen]; exact (List.getElem?_eq_some_iff.1 hx).1
              rw [Nat.zero_add, hW.cell (p := ⟨w1.heap.size, j, none⟩) hs2.out, hr.out.cell hj, hf.out j hj]
              rw [List.getElem?_map, List.getElem?_eq_getElem hj] at hx
              injection hx with hx
              subst hx
              simp [List.getD_eq_getElem?_getD, hj]) (by have := hs2.out; have := hW.size; omega) (by rw [hlen]; omega) (by rw [hlen]; exact Nat.le_refl _) (by rw [hmap, show (⟨#[32, 97, 110, 100, 32]⟩ : ByteArray).data.toList = [32, 97, 110, 100, 32] from rfl, and_join]; omega)
            rw [hmap, hlen, show (⟨#[32, 97, 110, 100, 32]⟩ : ByteArray).data.toList = [32, 97, 110, 100, 32] from rfl, and_join] at hj
            exact hj)
          have HLen := Lib.hid (headL_len hl3 HR.out)
          have EQ := Lib.hid (QY.out HA.out)
          have hal2 : (andL l).length ≤ 300 := by omega
          have hhl : (headL hs).length ≤ 70 := HLen.out
          generalize andL l = M at XJ EQ hal2
          generalize headL hs = P at XF EQ hhl
          clear hlen hmap hal X2 HLen
          go_wp2_with fail
          refine XF.out.mono ?_
          rintro e w2 ⟨rfl, d⟩
          have D2 := Lib.hid d
          clear d
          go_wp2_with fail
          refine (XJ.out _ D2.out).mono ?_
          rintro e w3 ⟨rfl, d⟩
          have D3 := Lib.hid (step HBW.out (step D2.out d))
          clear d
          go_wp2
          go_ret
          refine ⟨ret_str ?_, D3.out⟩
          rw [EQ.out, show (⟨#[32, 105, 102, 32]⟩ : ByteArray) = ⟨[32, 105, 102, 32].toArray⟩ from rfl, ba_append, ba_append]
    · have C2 := Lib.hid (show headB hs l = false by simpa using c2)
      have E := Lib.hid (fmtQ_no (show qOk hs l = false by unfold qOk; rw [C2.out]; simp))
      rw [E.out]
      clear c1 c2
      go_enter Tryz.func7, Tryz.ntmps7
      go_wp2_with fail
      refine (isBetween_any (l.length : Int) 1 4 _).mono ?_
      rintro e w1 ⟨he, rfl⟩
      rw [C1.out] at he
      subst he
      go_wp2_with fail
      refine XH.out.mono ?_
      rintro e w1 ⟨he, d⟩
      rw [C2.out] at he
      subst he
      have B1 := Lib.hid (step B0.out d)
      clear d
      go_wp2
      go_ret
      exact ⟨rfl, B1.out⟩
  · have C1 := Lib.hid (show inB (l.length : Int) 1 4 = false by simpa using c1)
    have E := Lib.hid (fmtQ_no (show qOk hs l = false by unfold qOk; rw [C1.out]; simp))
    rw [E.out]
    clear c1
    go_enter Tryz.func7, Tryz.ntmps7
    go_wp2_with fail
    refine (isBetween_any (l.length : Int) 1 4 _).mono ?_
    rintro e w1 ⟨he, rfl⟩
    rw [C1.out] at he
    subst he
    go_wp2
    go_ret
    exact ⟨rfl, B0.out⟩
end Go.Proofs.YtfhlmindkogdoaaGreatDoor
