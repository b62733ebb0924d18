/- What the functions on a query's variables and constants answer. Conditions: none beyond each theorem's own. What the functions on a query's variables and constants answer. Conditions: none beyond each theorem's own. What the laws of functions on queries carry from call to call. Conditions: none beyond each theorem's own. -/
import Derived.Test.YtighalbnpgmdfaaGreatAg2
import Derived.Test.YtighalbnpgmdfaaGreatAg1

namespace Go.Proofs.YtighalbnpgmdfaaGreat
open Go.ChangeShapes Go.WideShapes Go.ChangeAt Go.RowKit Go.Sort
open Go.Deep (BT)
set_option linter.unusedVariables false
set_option linter.unusedSimpArgs false

/-- All terms of the atoms, in their order. -/
def terms (l : FL) : List Int := l.flatMap fun f => f.2
/-- Those from a to b, once each, ascending. -/
def wl (a b : Int) (ys : List Int) : List Int := (ys.filter fun x => inB x a b).foldl putI []
theorem wl_yes {a b x : Int} (ys : List Int) (h : inB x a b = true) : wl a b (ys ++ [x]) = putI (wl a b ys) x := by simp [wl, List.filter_append, h]
theorem wl_no {a b x : Int} (ys : List Int) (h : inB x a b = false) : wl a b (ys ++ [x]) = wl a b ys := by simp [wl, List.filter_append, h]
theorem foldl_asc : ∀ (ys acc : List Int), Asc acc → Asc (ys.foldl putI acc)
  | [], _, h => h
  | y :: ys, acc, h => foldl_asc ys _ (putI_asc h)
theorem wl_asc (a b : Int) (ys : List Int) : Asc (wl a b ys) := foldl_asc _ [] List.Pairwise.nil
theorem foldl_mem : ∀ (ys acc : List Int) (x : Int), x ∈ ys.foldl putI acc ↔ x ∈ ys ∨ x ∈ acc
  | [], _, _ => by simp
  | y :: ys, acc, x => by
    rw [List.foldl_cons, foldl_mem ys, putI_mem, List.mem_cons]
    constructor
    · rintro (h | h | h)
      · exact .inl (.inr h)
      · exact .inl (.inl h)
      · exact .inr h
    · rintro ((h | h) | h)
      · exact .inr (.inl h)
      · exact .inl h
      · exact .inr (.inr h)
theorem wl_mem (a b : Int) (ys : List Int) (x : Int) : x ∈ wl a b ys ↔ x ∈ ys ∧ inB x a b = true := by
  unfold wl
  rw [foldl_mem]
  simp
theorem asc_len : ∀ (l : List Int) (a b : Int), Asc l → (∀ x ∈ l, a ≤ x ∧ x ≤ b) → l.length ≤ (b - a + 1).toNat
  | [], a, b, _, _ => by simp
  | y :: ys, a, b, h, hr => by
    have h1 : (∀ c ∈ ys, y < c) ∧ Asc ys := by simpa [Asc, List.pairwise_cons] using h
    have h2 := asc_len ys (y + 1) b h1.2 fun x hx => ⟨by have := h1.1 x hx; omega, (hr x (by simp [hx])).2⟩
    have h3 := hr y (by simp)
    rw [List.length_cons]
    omega
theorem wl_len (a b : Int) (ys : List Int) : (wl a b ys).length ≤ (b - a + 1).toNat := asc_len _ a b (wl_asc a b ys) fun x hx => by
  have := ((wl_mem a b ys x).1 hx).2
  simpa [inB] using this
theorem terms_take (l : FL) {k : Nat} (hk : k < l.length) {r : Int} {xs : List Int} (hf : l.getD k (0, []) = (r, xs)) : terms (l.take (k + 1)) = terms (l.take k) ++ xs := by
  unfold terms
  rw [List.take_succ_eq_append_getElem hk, List.flatMap_append]
  have : l[k] = l.getD k (0, []) := by simp [List.getD_eq_getElem?_getD, hk]
  rw [this, hf]
  simp
theorem len_hid {a b : Int} {out ys : List Int} (h : out = wl a b ys) (hab : b - a + 1 ≤ 1000) : out.length ≤ 1000 := by
  have := wl_len a b ys
  rw [h]; omega

set_option maxRecDepth 100000 in
set_option maxHeartbeats 1000000 in
theorem spec_VarsOf (H A : Option Addr) (ch c : Nat) (hs : List Int) (l : FL) (hz : szF l ≤ 1048576) (w : World) (h : RF w A l) :
    Calls Tryz.prog 51 #[.agg #[.slice H hs.length ch, .slice A l.length c]] w (PutO w w.heap.size (wl 10 17 (terms l))) := by
  have hl := szF_len hz
  have hl' : (l.length : Int) ≤ 1048576 := by omega
  have HI := Lib.hid h
  have X0 := Lib.hid ((Box.new w #[.slice H hs.length ch, .slice A l.length c] 34).step (below_alloc _ (.cells #[] 3)))
  have B0 := Lib.hid (step (below_alloc w (.cells #[.slice H hs.length ch, .slice A l.length c] 34)) (below_alloc _ (.cells #[] 3)))
  clear h
  go_enter Tryz.func51, Tryz.ntmps51
  go_wp2
  go_loopw [3, 4, 5] (fun o i _ wr => ∃ (k : Nat) (A2 : Option Addr) (c2 : Nat) (out : List Int), k ≤ l.length ∧ i = .int .i64 k ∧ o = .slice A2 out.length c2 ∧ Hid (out = wl 10 17 (terms (l.take k))) ∧ Hid (Ints wr (w.heap.size + 1) wr.heap.size A2 out) ∧ Hid (Box wr w.heap.size #[.slice H hs.length ch, .slice A l.length c] 34) ∧ Hid (Below w.heap.size w wr)) (fun _ i _ _ => l.length - (intOf i).toNat)
  case atStart => exact ⟨0, _, 0, [], by omega, rfl, rfl, Lib.hid rfl, Lib.hid fun hne => absurd rfl hne, X0, B0⟩
  case round =>
    obtain ⟨k, A2, c2, out, hk, rfl, rfl, hO, hI, hX, hB⟩ := hrel
    have g1 := hX.out.cell 1
    simp only [List.getElem?_toArray, List.getElem?_cons_zero, List.getElem?_cons_succ] at g1
    have hk0 : (0 : Int) ≤ (k : Int) := by omega
    by_cases hlt : k < l.length
    · generalize hf : l.getD k (0, []) = f
      obtain ⟨r, xs⟩ := f
      have hxl : xs.length ≤ 1048576 := by have := szF_elem hz hlt; rw [hf] at this; exact this
      have hxl' : (xs.length : Int) ≤ 1048576 := by omega
      have TT := Lib.hid (terms_take l hlt hf)
      have hk1 : (k : Int) < (l.length : Int) := by omega
      obtain ⟨b, off, B, c3, rfl, hb, _, e1, _, hcm, hJ⟩ := HI.out.at_ hlt hf
      have E1 := Lib.hid e1
      have HJ := Lib.hid hJ
      generalize terms (l.take k) = T at hO TT
      clear hf e1 hJ
      go_wp2
      go_loopw [3, 5] (fun o i wr2 => ∃ (j : Nat) (A2 : Option Addr) (c2 : Nat) (out : List Int), j ≤ xs.length ∧ i = .int .i64 j ∧ o = .slice A2 out.length c2 ∧ Hid (out = wl 10 17 (T ++ xs.take j)) ∧ Hid (Ints wr2 (w.heap.size + 1) wr2.heap.size A2 out) ∧ Hid (Box wr2 w.heap.size #[.slice H hs.length ch, .slice (some ⟨b, off, none⟩) l.length c] 34) ∧ Hid (Below w.heap.size w wr2)) (fun _ i _ => xs.length - (intOf i).toNat)
      case atStart => exact ⟨0, A2, c2, out, by omega, rfl, rfl, Lib.hid (by rw [hO.out]; simp), hI, hX, hB⟩
      case round =>
        obtain ⟨j, A2, c2, out, hj, rfl, rfl, hO, hI, hX, hB⟩ := hrel
        clear g1
        have g1 := hX.out.cell 1
        simp only [List.getElem?_toArray, List.getElem?_cons_zero, List.getElem?_cons_succ] at g1
        have e1 := (hB.out.cell (p := ⟨b, off + k * 2 + 1, none⟩) hb).trans E1.out
        have hj0 : (0 : Int) ≤ (j : Int) := by omega
        by_cases hjt : j < xs.length
        · have hj1 : (j : Int) < (xs.length : Int) := by omega
          obtain ⟨b2, off2, rfl, hb2, hc0⟩ := HJ.out.at_ hjt
          have hc := (hB.out.cell (p := ⟨b2, off2 + j, none⟩) hb2).trans hc0
          generalize hx : xs.getD j 0 = x at hc
          have TX := Lib.hid (takeI xs hjt hx)
          have hol := len_hid hO.out (by omega)
          clear hx hc0
          by_cases hin : inB x 10 17 = true
          · have HN := Lib.hid hin
            have O2 := Lib.hid (show putI out x = wl 10 17 (T ++ xs.take (j + 1)) by rw [TX.out, ← List.append_assoc, wl_yes _ hin, hO.out])
            have XP := Lib.hid (l3Put_any (w.heap.size + 1) A2 c2 out x (by omega) wr (by have := hX.out.lt; omega) hI.out)
            clear hin
            go_wp2_with fail
            refine (spec_IsVar x _).mono ?_
            rintro e w' ⟨rfl, rfl⟩
            rw [HN.out]
            go_wp2_with fail
            refine XP.out.mono ?_
            rintro e w1 ⟨A4, c4, rfl, hI4, d4⟩
            have hX4 := Lib.hid (hX.out.step d4)
            have hB4 := Lib.hid (step hB.out d4)
            have HI4 := Lib.hid hI4
            generalize putI out x = out4 at O2 HI4
            clear d4 hI4
            go_wp2
            go_roundw
            case rel => exact ⟨j + 1, A4, c4, out4, by omega, by go_num, rfl, O2, HI4, hX4, hB4⟩
            case measure => simp [intOf]; omega
          · have hin' : inB x 10 17 = false := by simpa using hin
            have HN := Lib.hid hin'
            have O2 := Lib.hid (show out = wl 10 17 (T ++ xs.take (j + 1)) by rw [TX.out, ← List.append_assoc, wl_no _ hin', hO.out])
            clear hin hin'
            go_wp2_with fail
            refine (spec_IsVar x _).mono ?_
            rintro e w' ⟨rfl, rfl⟩
            rw [HN.out]
            go_wp2
            go_roundw
            case rel => exact ⟨j + 1, A2, c2, out, by omega, by go_num, rfl, O2, hI, hX, hB⟩
            case measure => simp [intOf]; omega
        · obtain rfl : j = xs.length := by omega
          have O2 := Lib.hid (show out = wl 10 17 (terms (l.take (k + 1))) by rw [TT.out, hO.out, take_all])
          go_wp2
          go_roundw
          case rel => exact ⟨k + 1, A2, c2, out, by omega, by go_num, rfl, O2, hI, hX, hB⟩
          case measure => simp [intOf]; omega
    · obtain rfl : k = l.length := by omega
      have O2 := Lib.hid (show out = wl 10 17 (terms l) by rw [hO.out, take_all])
      go_wp2
      go_ret
      exact ⟨A2, c2, congrArg (fun o : List Int => Ending.returned (.slice A2 o.length c2)) O2.out, by rw [← O2.out]; exact hI.out.mono (by omega) (Nat.le_refl _), hB.out⟩

set_option maxRecDepth 100000 in
set_option maxHeartbeats 1000000 in
theorem spec_ConstantsOf (H A : Option Addr) (ch c : Nat) (hs : List Int) (l : FL) (hz : szF l ≤ 1048576) (w : World) (h : RF w A l) :
    Calls Tryz.prog 103 #[.agg #[.slice H hs.length ch, .slice A l.length c]] w (PutO w w.heap.size (wl 0 9 (terms l))) := by
  have hl := szF_len hz
  have hl' : (l.length : Int) ≤ 1048576 := by omega
  have HI := Lib.hid h
  have X0 := Lib.hid ((Box.new w #[.slice H hs.length ch, .slice A l.length c] 34).step (below_alloc _ (.cells #[] 3)))
  have B0 := Lib.hid (step (below_alloc w (.cells #[.slice H hs.length ch, .slice A l.length c] 34)) (below_alloc _ (.cells #[] 3)))
  clear h
  go_enter Tryz.func103, Tryz.ntmps103
  go_wp2
  go_loopw [3, 4, 5] (fun o i _ wr => ∃ (k : Nat) (A2 : Option Addr) (c2 : Nat) (out : List Int), k ≤ l.length ∧ i = .int .i64 k ∧ o = .slice A2 out.length c2 ∧ Hid (out = wl 0 9 (terms (l.take k))) ∧ Hid (Ints wr (w.heap.size + 1) wr.heap.size A2 out) ∧ Hid (Box wr w.heap.size #[.slice H hs.length ch, .slice A l.length c] 34) ∧ Hid (Below w.heap.size w wr)) (fun _ i _ _ => l.length - (intOf i).toNat)
  case atStart => exact ⟨0, _, 0, [], by omega, rfl, rfl, Lib.hid rfl, Lib.hid fun hne => absurd rfl hne, X0, B0⟩
  case round =>
    obtain ⟨k, A2, c2, out, hk, rfl, rfl, hO, hI, hX, hB⟩ := hrel
    have g1 := hX.out.cell 1
    simp only [List.getElem?_toArray, List.getElem?_cons_zero, List.getElem?_cons_succ] at g1
    have hk0 : (0 : Int) ≤ (k : Int) := by omega
    by_cases hlt : k < l.length
    · generalize hf : l.getD k (0, []) = f
      obtain ⟨r, xs⟩ := f
      have hxl : xs.length ≤ 1048576 := by have := szF_elem hz hlt; rw [hf] at this; exact this
      have hxl' : (xs.length : Int) ≤ 1048576 := by omega
      have TT := Lib.hid (terms_take l hlt hf)
      have hk1 : (k : Int) < (l.length : Int) := by omega
      obtain ⟨b, off, B, c3, rfl, hb, _, e1, _, hcm, hJ⟩ := HI.out.at_ hlt hf
      have E1 := Lib.hid e1
      have HJ := Lib.hid hJ
      generalize terms (l.take k) = T at hO TT
      clear hf e1 hJ
      go_wp2
      go_loopw [3, 5] (fun o i wr2 => ∃ (j : Nat) (A2 : Option Addr) (c2 : Nat) (out : List Int), j ≤ xs.length ∧ i = .int .i64 j ∧ o = .slice A2 out.length c2 ∧ Hid (out = wl 0 9 (T ++ xs.take j)) ∧ Hid (Ints wr2 (w.heap.size + 1) wr2.heap.size A2 out) ∧ Hid (Box wr2 w.heap.size #[.slice H hs.length ch, .slice (some ⟨b, off, none⟩) l.length c] 34) ∧ Hid (Below w.heap.size w wr2)) (fun _ i _ => xs.length - (intOf i).toNat)
      case atStart => exact ⟨0, A2, c2, out, by omega, rfl, rfl, Lib.hid (by rw [hO.out]; simp), hI, hX, hB⟩
      case round =>
        obtain ⟨j, A2, c2, out, hj, rfl, rfl, hO, hI, hX, hB⟩ := hrel
        clear g1
        have g1 := hX.out.cell 1
        simp only [List.getElem?_toArray, List.getElem?_cons_zero, List.getElem?_cons_succ] at g1
        have e1 := (hB.out.cell (p := ⟨b, off + k * 2 + 1, none⟩) hb).trans E1.out
        have hj0 : (0 : Int) ≤ (j : Int) := by omega
        by_cases hjt : j < xs.length
        · have hj1 : (j : Int) < (xs.length : Int) := by omega
          obtain ⟨b2, off2, rfl, hb2, hc0⟩ := HJ.out.at_ hjt
          have hc := (hB.out.cell (p := ⟨b2, off2 + j, none⟩) hb2).trans hc0
          generalize hx : xs.getD j 0 = x at hc
          have TX := Lib.hid (takeI xs hjt hx)
          have hol := len_hid hO.out (by omega)
          clear hx hc0
          by_cases hin : inB x 0 9 = true
          · have HN := Lib.hid hin
            have O2 := Lib.hid (show putI out x = wl 0 9 (T ++ xs.take (j + 1)) by rw [TX.out, ← List.append_assoc, wl_yes _ hin, hO.out])
            have XP := Lib.hid (l3Put_any (w.heap.size + 1) A2 c2 out x (by omega) wr (by have := hX.out.lt; omega) hI.out)
            clear hin
            go_wp2_with fail
            refine (l1In_any x 0 9 _).mono ?_
            rintro e w' ⟨rfl, rfl⟩
            rw [HN.out]
            go_wp2_with fail
            refine XP.out.mono ?_
            rintro e w1 ⟨A4, c4, rfl, hI4, d4⟩
            have hX4 := Lib.hid (hX.out.step d4)
            have hB4 := Lib.hid (step hB.out d4)
            have HI4 := Lib.hid hI4
            generalize putI out x = out4 at O2 HI4
            clear d4 hI4
            go_wp2
            go_roundw
            case rel => exact ⟨j + 1, A4, c4, out4, by omega, by go_num, rfl, O2, HI4, hX4, hB4⟩
            case measure => simp [intOf]; omega
          · have hin' : inB x 0 9 = false := by simpa using hin
            have HN := Lib.hid hin'
            have O2 := Lib.hid (show out = wl 0 9 (T ++ xs.take (j + 1)) by rw [TX.out, ← List.append_assoc, wl_no _ hin', hO.out])
            clear hin hin'
            go_wp2_with fail
            refine (l1In_any x 0 9 _).mono ?_
            rintro e w' ⟨rfl, rfl⟩
            rw [HN.out]
            go_wp2
            go_roundw
            case rel => exact ⟨j + 1, A2, c2, out, by omega, by go_num, rfl, O2, hI, hX, hB⟩
            case measure => simp [intOf]; omega
        · obtain rfl : j = xs.length := by omega
          have O2 := Lib.hid (show out = wl 0 9 (terms (l.take (k + 1))) by rw [TT.out, hO.out, take_all])
          go_wp2
          go_roundw
          case rel => exact ⟨k + 1, A2, c2, out, by omega, by go_num, rfl, O2, hI, hX, hB⟩
          case measure => simp [intOf]; omega
    · obtain rfl : k = l.length := by omega
      have O2 := Lib.hid (show out = wl 0 9 (terms l) by rw [hO.out, take_all])
      go_wp2
      go_ret
      exact ⟨A2, c2, congrArg (fun o : List Int => Ending.returned (.slice A2 o.length c2)) O2.out, by rw [← O2.out]; exact hI.out.mono (by omega) (Nat.le_refl _), hB.out⟩

end Go.Proofs.YtighalbnpgmdfaaGreat

namespace Go.Proofs.YtighalbnpgmdfaaGreat
open Go.ChangeShapes Go.WideShapes Go.ChangeAt Go.RowKit Go.Sort
open Go.Deep (BT)
set_option linter.unusedVariables false
set_option linter.unusedSimpArgs false

set_option maxRecDepth 100000 in
set_option maxHeartbeats 1000000 in
theorem termsOf_var (H A : Option Addr) (ch c : Nat) (hs : List Int) (l : FL) (hz : szF l ≤ 1048576) (w : World) (h : RF w A l) :
    Calls Tryz.prog 108 #[.agg #[.slice H hs.length ch, .slice A l.length c], .func (.func 115) #[] #[]] w (ListT w (wl 10 17 (terms l))) := by
  have hl := szF_len hz
  have hl' : (l.length : Int) ≤ 1048576 := by omega
  have HI := Lib.hid h
  have B0 := Lib.hid (below_alloc w (.cells #[.slice H hs.length ch, .slice A l.length c] 34))
  clear h
  go_enter Tryz.func108, Tryz.ntmps108
  go_wp2
  go_loopw [5, 7, 9, 13] (fun p _ _ i wr => ∃ (k : Nat) (t : BT Int) (q : Option Addr), k ≤ l.length ∧ i = .int .i64 k ∧ p = .pointer q ∧ Hid (t.ptr = .pointer q) ∧ Hid (tl t = wl 10 17 (terms (l.take k))) ∧ Hid (At wr (w.heap.size + 1) t) ∧ Hid (tb t).Nodup ∧ Hid (Below w.heap.size w wr) ∧ Hid (w.heap.size + 1 ≤ wr.heap.size)) (fun _ _ _ i _ => l.length - (intOf i).toNat)
  case atStart => exact ⟨0, .nil, none, by omega, rfl, rfl, Lib.hid rfl, Lib.hid rfl, Lib.hid trivial, Lib.hid List.Pairwise.nil, B0, Lib.hid (by simp)⟩
  case round =>
    obtain ⟨k, t, q, hk, rfl, rfl, hP, hO, hT, hN, hB, hS⟩ := hrel
    have hk0 : (0 : Int) ≤ (k : Int) := by omega
    by_cases hlt : k < l.length
    · generalize hf : l.getD k (0, []) = f
      obtain ⟨r, xs⟩ := f
      have hxl : xs.length ≤ 1048576 := by have := szF_elem hz hlt; rw [hf] at this; exact this
      have hxl' : (xs.length : Int) ≤ 1048576 := by omega
      have TT := Lib.hid (terms_take l hlt hf)
      have hk1 : (k : Int) < (l.length : Int) := by omega
      obtain ⟨b, off, B, c3, rfl, hb, e0, e1, _, hcm, hJ⟩ := HI.out.at_ hlt hf
      have q0 := (hB.out.cell (p := ⟨b, off + k * 2, none⟩) hb).trans e0
      have q1 := (hB.out.cell (p := ⟨b, off + k * 2 + 1, none⟩) hb).trans e1
      have HJ := Lib.hid hJ
      have BA := below_alloc wr (.cells #[.int .i64 r, .slice B xs.length c3] 81)
      have hT1 := Lib.hid (hT.out.step BA)
      have hB1 := Lib.hid (step hB.out BA)
      have hS1 := Lib.hid (show w.heap.size + 1 ≤ (wr.alloc (.cells #[.int .i64 r, .slice B xs.length c3] 81)).heap.size by have := hS.out; simp; omega)
      generalize terms (l.take k) = T at hO TT
      clear hf e0 e1 hJ BA
      go_wp2
      go_loopw [5, 9, 20] (fun p _ i wr2 => ∃ (j : Nat) (t : BT Int) (q : Option Addr), j ≤ xs.length ∧ i = .int .i64 j ∧ p = .pointer q ∧ Hid (t.ptr = .pointer q) ∧ Hid (tl t = wl 10 17 (T ++ xs.take j)) ∧ Hid (At wr2 (w.heap.size + 1) t) ∧ Hid (tb t).Nodup ∧ Hid (Below w.heap.size w wr2) ∧ Hid (w.heap.size + 1 ≤ wr2.heap.size)) (fun _ _ i _ => xs.length - (intOf i).toNat)
      case atStart => exact ⟨0, t, q, by omega, rfl, rfl, hP, Lib.hid (by rw [hO.out]; simp), hT1, hN, hB1, hS1⟩
      case round =>
        clear q0 q1 hP hO hT hN hB hS hT1 hB1 hS1
        obtain ⟨j, t, q, hj, rfl, rfl, hP, hO, hT, hN, hB, hS⟩ := hrel
        have hj0 : (0 : Int) ≤ (j : Int) := by omega
        by_cases hjt : j < xs.length
        · have hj1 : (j : Int) < (xs.length : Int) := by omega
          obtain ⟨b2, off2, rfl, hb2, hc0⟩ := HJ.out.at_ hjt
          have hc := (hB.out.cell (p := ⟨b2, off2 + j, none⟩) hb2).trans hc0
          generalize hx : xs.getD j 0 = x at hc
          have TX := Lib.hid (takeI xs hjt hx)
          clear hx hc0
          by_cases hin : inB x 10 17 = true
          · have HN := Lib.hid hin
            have O2 := Lib.hid (show putT t x = wl 10 17 (T ++ xs.take (j + 1)) by rw [TX.out, ← List.append_assoc, wl_yes _ hin, ← hO.out]; exact putT_eq t x (by rw [hO.out]; exact wl_asc _ _ _))
            have XP0 := addTerm_any (w.heap.size + 1) x t wr hS.out hT.out hN.out
            rw [hP.out] at XP0
            have XP := Lib.hid XP0
            clear hin XP0
            go_wp2_with fail
            refine (impl_IsVar x _).mono ?_
            rintro e w' ⟨rfl, rfl⟩
            rw [HN.out]
            go_wp2_with fail
            refine XP.out.mono ?_
            rintro e w1 ⟨t4, rfl, hA⟩
            obtain ⟨q4, hq4⟩ := ptr_form t4
            rw [hq4]
            have hP4 := Lib.hid hq4
            have HA := Lib.hid hA
            clear hA hq4
            go_wp2
            go_roundw
            case rel => exact ⟨j + 1, t4, q4, by omega, by go_num, rfl, hP4, Lib.hid (HA.out.list.trans O2.out), Lib.hid HA.out.at_, Lib.hid HA.out.nodup, Lib.hid (hB.out.trans (HA.out.below.mono (by omega))), Lib.hid (by have := hS.out; have := HA.out.below.size; omega)⟩
            case measure => simp [intOf]; omega
          · have hin' : inB x 10 17 = false := by simpa using hin
            have HN := Lib.hid hin'
            have O2 := Lib.hid (show tl t = wl 10 17 (T ++ xs.take (j + 1)) by rw [TX.out, ← List.append_assoc, wl_no _ hin', hO.out])
            clear hin hin'
            go_wp2_with fail
            refine (impl_IsVar x _).mono ?_
            rintro e w' ⟨rfl, rfl⟩
            rw [HN.out]
            go_wp2
            go_roundw
            case rel => exact ⟨j + 1, t, q, by omega, by go_num, rfl, hP, O2, hT, hN, hB, hS⟩
            case measure => simp [intOf]; omega
        · obtain rfl : j = xs.length := by omega
          have O2 := Lib.hid (show tl t = wl 10 17 (terms (l.take (k + 1))) by rw [TT.out, hO.out, take_all])
          go_wp2
          go_roundw
          case rel => exact ⟨k + 1, t, q, by omega, by go_num, rfl, hP, O2, hT, hN, hB, hS⟩
          case measure => simp [intOf]; omega
    · obtain rfl : k = l.length := by omega
      have O2 := Lib.hid (show tl t = wl 10 17 (terms l) by rw [hO.out, take_all])
      have XL0 := listTerms_any (w.heap.size + 1) t wr hT.out (by have := len_hid O2.out (by omega); omega)
      rw [hP.out, O2.out] at XL0
      have XL := Lib.hid XL0
      clear XL0
      go_wp2_with fail
      refine XL.out.mono ?_
      rintro e w1 ⟨v, rfl, hown, d⟩
      have HO := Lib.hid (ownsRow_lo hown hB.out.size)
      have HD := Lib.hid (step hB.out d)
      clear hown d
      go_wp2
      go_ret
      exact ⟨v, rfl, HO.out, HD.out⟩

set_option maxRecDepth 100000 in
theorem impl_VarsOf (H A : Option Addr) (ch c : Nat) (hs : List Int) (l : FL) (hz : szF l ≤ 1048576) (w : World) (h : RF w A l) :
    Calls Tryz.prog 92 #[.agg #[.slice H hs.length ch, .slice A l.length c]] w (ListT w (wl 10 17 (terms l))) := by
  have HI := Lib.hid (h.step (below_alloc w (.cells #[.slice H hs.length ch, .slice A l.length c] 34)))
  clear h
  go_enter Tryz.func92, Tryz.ntmps92
  go_wp2_with fail
  refine (termsOf_var H A ch c hs l hz _ HI.out).mono ?_
  rintro e w1 ⟨v, rfl, hown, d⟩
  have HO := Lib.hid (ownsRow_lo hown (below_alloc w _).size)
  have HD := Lib.hid (below_new d)
  clear hown d
  go_wp2
  go_ret
  exact ⟨v, rfl, HO.out, HD.out⟩

set_option maxRecDepth 100000 in
set_option maxHeartbeats 1000000 in
theorem termsOf_con (H A : Option Addr) (ch c : Nat) (hs : List Int) (l : FL) (hz : szF l ≤ 1048576) (w : World) (h : RF w A l) :
    Calls Tryz.prog 108 #[.agg #[.slice H hs.length ch, .slice A l.length c], .func (.func 109) #[] #[]] w (ListT w (wl 0 9 (terms l))) := by
  have hl := szF_len hz
  have hl' : (l.length : Int) ≤ 1048576 := by omega
  have HI := Lib.hid h
  have B0 := Lib.hid (below_alloc w (.cells #[.slice H hs.length ch, .slice A l.length c] 34))
  clear h
  go_enter Tryz.func108, Tryz.ntmps108
  go_wp2
  go_loopw [5, 7, 9, 13] (fun p _ _ i wr => ∃ (k : Nat) (t : BT Int) (q : Option Addr), k ≤ l.length ∧ i = .int .i64 k ∧ p = .pointer q ∧ Hid (t.ptr = .pointer q) ∧ Hid (tl t = wl 0 9 (terms (l.take k))) ∧ Hid (At wr (w.heap.size + 1) t) ∧ Hid (tb t).Nodup ∧ Hid (Below w.heap.size w wr) ∧ Hid (w.heap.size + 1 ≤ wr.heap.size)) (fun _ _ _ i _ => l.length - (intOf i).toNat)
  case atStart => exact ⟨0, .nil, none, by omega, rfl, rfl, Lib.hid rfl, Lib.hid rfl, Lib.hid trivial, Lib.hid List.Pairwise.nil, B0, Lib.hid (by simp)⟩
  case round =>
    obtain ⟨k, t, q, hk, rfl, rfl, hP, hO, hT, hN, hB, hS⟩ := hrel
    have hk0 : (0 : Int) ≤ (k : Int) := by omega
    by_cases hlt : k < l.length
    · generalize hf : l.getD k (0, []) = f
      obtain ⟨r, xs⟩ := f
      have hxl : xs.length ≤ 1048576 := by have := szF_elem hz hlt; rw [hf] at this; exact this
      have hxl' : (xs.length : Int) ≤ 1048576 := by omega
      have TT := Lib.hid (terms_take l hlt hf)
      have hk1 : (k : Int) < (l.length : Int) := by omega
      obtain ⟨b, off, B, c3, rfl, hb, e0, e1, _, hcm, hJ⟩ := HI.out.at_ hlt hf
      have q0 := (hB.out.cell (p := ⟨b, off + k * 2, none⟩) hb).trans e0
      have q1 := (hB.out.cell (p := ⟨b, off + k * 2 + 1, none⟩) hb).trans e1
      have HJ := Lib.hid hJ
      have BA := below_alloc wr (.cells #[.int .i64 r, .slice B xs.length c3] 81)
      have hT1 := Lib.hid (hT.out.step BA)
      have hB1 := Lib.hid (step hB.out BA)
      have hS1 := Lib.hid (show w.heap.size + 1 ≤ (wr.alloc (.cells #[.int .i64 r, .slice B xs.length c3] 81)).heap.size by have := hS.out; simp; omega)
      generalize terms (l.take k) = T at hO TT
      clear hf e0 e1 hJ BA
      go_wp2
      go_loopw [5, 9, 20] (fun p _ i wr2 => ∃ (j : Nat) (t : BT Int) (q : Option Addr), j ≤ xs.length ∧ i = .int .i64 j ∧ p = .pointer q ∧ Hid (t.ptr = .pointer q) ∧ Hid (tl t = wl 0 9 (T ++ xs.take j)) ∧ Hid (At wr2 (w.heap.size + 1) t) ∧ Hid (tb t).Nodup ∧ Hid (Below w.heap.size w wr2) ∧ Hid (w.heap.size + 1 ≤ wr2.heap.size)) (fun _ _ i _ => xs.length - (intOf i).toNat)
      case atStart => exact ⟨0, t, q, by omega, rfl, rfl, hP, Lib.hid (by rw [hO.out]; simp), hT1, hN, hB1, hS1⟩
      case round =>
        clear q0 q1 hP hO hT hN hB hS hT1 hB1 hS1
        obtain ⟨j, t, q, hj, rfl, rfl, hP, hO, hT, hN, hB, hS⟩ := hrel
        have hj0 : (0 : Int) ≤ (j : Int) := by omega
        by_cases hjt : j < xs.length
        · have hj1 : (j : Int) < (xs.length : Int) := by omega
          obtain ⟨b2, off2, rfl, hb2, hc0⟩ := HJ.out.at_ hjt
          have hc := (hB.out.cell (p := ⟨b2, off2 + j, none⟩) hb2).trans hc0
          generalize hx : xs.getD j 0 = x at hc
          have TX := Lib.hid (takeI xs hjt hx)
          clear hx hc0
          by_cases hin : inB x 0 9 = true
          · have HN := Lib.hid hin
            have O2 := Lib.hid (show putT t x = wl 0 9 (T ++ xs.take (j + 1)) by rw [TX.out, ← List.append_assoc, wl_yes _ hin, ← hO.out]; exact putT_eq t x (by rw [hO.out]; exact wl_asc _ _ _))
            have XP0 := addTerm_any (w.heap.size + 1) x t wr hS.out hT.out hN.out
            rw [hP.out] at XP0
            have XP := Lib.hid XP0
            clear hin XP0
            go_wp2_with fail
            refine (isValue_any x _).mono ?_
            rintro e w' ⟨rfl, rfl⟩
            rw [HN.out]
            go_wp2_with fail
            refine XP.out.mono ?_
            rintro e w1 ⟨t4, rfl, hA⟩
            obtain ⟨q4, hq4⟩ := ptr_form t4
            rw [hq4]
            have hP4 := Lib.hid hq4
            have HA := Lib.hid hA
            clear hA hq4
            go_wp2
            go_roundw
            case rel => exact ⟨j + 1, t4, q4, by omega, by go_num, rfl, hP4, Lib.hid (HA.out.list.trans O2.out), Lib.hid HA.out.at_, Lib.hid HA.out.nodup, Lib.hid (hB.out.trans (HA.out.below.mono (by omega))), Lib.hid (by have := hS.out; have := HA.out.below.size; omega)⟩
            case measure => simp [intOf]; omega
          · have hin' : inB x 0 9 = false := by simpa using hin
            have HN := Lib.hid hin'
            have O2 := Lib.hid (show tl t = wl 0 9 (T ++ xs.take (j + 1)) by rw [TX.out, ← List.append_assoc, wl_no _ hin', hO.out])
            clear hin hin'
            go_wp2_with fail
            refine (isValue_any x _).mono ?_
            rintro e w' ⟨rfl, rfl⟩
            rw [HN.out]
            go_wp2
            go_roundw
            case rel => exact ⟨j + 1, t, q, by omega, by go_num, rfl, hP, O2, hT, hN, hB, hS⟩
            case measure => simp [intOf]; omega
        · obtain rfl : j = xs.length := by omega
          have O2 := Lib.hid (show tl t = wl 0 9 (terms (l.take (k + 1))) by rw [TT.out, hO.out, take_all])
          go_wp2
          go_roundw
          case rel => exact ⟨k + 1, t, q, by omega, by go_num, rfl, hP, O2, hT, hN, hB, hS⟩
          case measure => simp [intOf]; omega
    · obtain rfl : k = l.length := by omega
      have O2 := Lib.hid (show tl t = wl 0 9 (terms l) by rw [hO.out, take_all])
      have XL0 := listTerms_any (w.heap.size + 1) t wr hT.out (by have := len_hid O2.out (by omega); omega)
      rw [hP.out, O2.out] at XL0
      have XL := Lib.hid XL0
      clear XL0
      go_wp2_with fail
      refine XL.out.mono ?_
      rintro e w1 ⟨v, rfl, hown, d⟩
      have HO := Lib.hid (ownsRow_lo hown hB.out.size)
      have HD := Lib.hid (step hB.out d)
      clear hown d
      go_wp2
      go_ret
      exact ⟨v, rfl, HO.out, HD.out⟩

set_option maxRecDepth 100000 in
theorem impl_ConstantsOf (H A : Option Addr) (ch c : Nat) (hs : List Int) (l : FL) (hz : szF l ≤ 1048576) (w : World) (h : RF w A l) :
    Calls Tryz.prog 83 #[.agg #[.slice H hs.length ch, .slice A l.length c]] w (ListT w (wl 0 9 (terms l))) := by
  have HI := Lib.hid (h.step (below_alloc w (.cells #[.slice H hs.length ch, .slice A l.length c] 34)))
  clear h
  go_enter Tryz.func83, Tryz.ntmps83
  go_wp2_with fail
  refine (termsOf_con H A ch c hs l hz _ HI.out).mono ?_
  rintro e w1 ⟨v, rfl, hown, d⟩
  have HO := Lib.hid (ownsRow_lo hown (below_alloc w _).size)
  have HD := Lib.hid (below_new d)
  clear hown d
  go_wp2
  go_ret
  exact ⟨v, rfl, HO.out, HD.out⟩

end Go.Proofs.YtighalbnpgmdfaaGreat

namespace Go.Proofs.YtighalbnpgmdfaaGreat
open Go.ChangeShapes Go.WideShapes Go.ChangeAt Go.RowKit Go.Sort
open Go.Proofs.YtighalbnpgmdfaaGreat.atom
set_option linter.unusedVariables false
set_option linter.unusedSimpArgs false

/-- Numbers in blocks from lo to below hi, whatever is made later. -/
def IV (w : World) (lo hi : Nat) (A : Option Addr) (xs : List Int) : Prop := Ints w lo hi A xs ∧ hi ≤ w.heap.size
theorem IV.step {w w' : World} {lo hi : Nat} {A : Option Addr} {xs : List Int} (h : IV w lo hi A xs) (d : Below w.heap.size w w') : IV w' lo hi A xs := ⟨h.1.below d h.2, Nat.le_trans h.2 d.size⟩
theorem IV.keep {w w' : World} {lo hi : Nat} {A : Option Addr} {xs : List Int} (h : IV w lo hi A xs) (hk : ∀ b, lo ≤ b → b < hi → w'.heap[b]? = w.heap[b]?) (hz : w.heap.size ≤ w'.heap.size) : IV w' lo hi A xs := ⟨h.1.keep hk, Nat.le_trans h.2 hz⟩
theorem IV.ri {w : World} {lo hi : Nat} {A : Option Addr} {xs : List Int} (h : IV w lo hi A xs) : RI w A xs := h.1.mono (Nat.zero_le _) h.2
/-- Numbers of the call's own, in blocks from lo to below hi, whatever is made later. -/
def GV (w : World) (lo hi : Nat) (A : Option Addr) (c : Nat) (xs : List Int) : Prop := (∃ q, OwnV w lo hi (.slice A xs.length c) q xs) ∧ hi ≤ w.heap.size ∧ lo ≤ hi
theorem GV.keep {w w' : World} {lo hi : Nat} {A : Option Addr} {c : Nat} {xs : List Int} (h : GV w lo hi A c xs) (hk : ∀ b, lo ≤ b → b < hi → w'.heap[b]? = w.heap[b]?) (hz : w.heap.size ≤ w'.heap.size) : GV w' lo hi A c xs := by
  obtain ⟨⟨q, h1⟩, h2, h3⟩ := h
  exact ⟨⟨q, h1.keep fun a b _ => hk _ a b⟩, Nat.le_trans h2 hz, h3⟩
theorem GV.step {w w' : World} {lo hi : Nat} {A : Option Addr} {c : Nat} {xs : List Int} (h : GV w lo hi A c xs) (d : Below w.heap.size w w') : GV w' lo hi A c xs :=
  h.keep (fun b _ hb => d.block b (by have := h.2.1; omega)) d.size
theorem GV.ri {w : World} {lo hi : Nat} {A : Option Addr} {c : Nat} {xs : List Int} (h : GV w lo hi A c xs) : RI w A xs := by
  obtain ⟨⟨q, h1⟩, h2, h3⟩ := h
  exact (h1.ints).2.2.2.mono (Nat.zero_le _) h2

/-- What a function that lists numbers returns, as its blocks. -/
def ListG (w : World) (xs : List Int) (e : Ending) (w' : World) : Prop := ∃ A c, e = .returned (.slice A xs.length c) ∧ GV w' w.heap.size w'.heap.size A c xs ∧ Below w.heap.size w w'
theorem ListT.toG {w : World} {xs : List Int} {e : Ending} {w' : World} (h : ListT w xs e w') : ListG w xs e w' := by
  obtain ⟨v, he, ho, hb⟩ := h
  obtain ⟨A, c, rfl⟩ := ownsRow_form ho
  obtain ⟨q, hv⟩ := ownV_of_row ho
  exact ⟨A, c, he, ⟨⟨q, hv⟩, Nat.le_refl _, hb.size⟩, hb⟩
theorem PutO.toV {w : World} {xs : List Int} {e : Ending} {w' : World} (h : PutO w w.heap.size xs e w') : ∃ A c, e = .returned (.slice A xs.length c) ∧ IV w' w.heap.size w'.heap.size A xs ∧ Below w.heap.size w w' := by
  obtain ⟨A, c, he, hi, hb⟩ := h
  exact ⟨A, c, he, ⟨hi, Nat.le_refl _⟩, hb⟩
theorem markIntS_g (lo hi : Nat) (A : Option Addr) (c : Nat) (xs : List Int) (hl : xs.length ≤ 1048576) (w : World) (h : GV w lo hi A c xs) :
    Calls Tryz.prog 16 #[.slice A xs.length c, .int .i64 1] w fun e w' => e = .returned (.int .i64 (1 + xs.length)) ∧ Within lo hi w w' ∧ IV w' lo hi A (marks 1 xs.length) := by
  obtain ⟨⟨q, h1⟩, h2, h3⟩ := h
  refine (markIntS_own lo hi q A c 1 xs hl (by omega) (by omega) w h2 h3 h1).mono ?_
  rintro e w' ⟨rfl, hw, hi'⟩
  exact ⟨rfl, hw, hi', by rw [hw.size]; exact h2⟩
theorem heldIntS_g (lo hi : Nat) (A : Option Addr) (c n : Nat) (hl : n ≤ 1048576) (w : World) (h : IV w lo hi A (marks 1 n)) :
    Calls Tryz.prog 41 #[.slice A n c, .int .i64 1] w fun e w' => e = .returned (.int .i64 (1 + n)) ∧ w = w' := heldIntS_any lo hi A c n 1 w hl (by omega) (by omega) h.1
end Go.Proofs.YtighalbnpgmdfaaGreat
