/- What the functions on a query's variables and constants answer. Conditions: none beyond each theorem's own. -/
import Derived.Test.YtimlpdcambmcjaaDoorPut
namespace Go.Proofs.YtimlpdcambmcjaaDoor
open Go.ChangeShapes Go.WideShapes Go.ChangeAt Go.RowKit Go.Sort
open Go.Deep (BT)
set_option linter.unusedVariables false
set_option linter.unusedSimpArgs false

/-- All terms of the atoms, in their order. -/
def terms (l : FL) : List Int := l.flatMap fun f => f.2
/-- Those from a to b, once each, ascending. -/
def wl (a b : Int) (ys : List Int) : List Int := (ys.filter fun x => inB x a b).foldl putI []
theorem wl_yes {a b x : Int} (ys : List Int) (h : inB x a b = true) : wl a b (ys ++ [x]) = putI (wl a b ys) x := by simp [wl, List.filter_append, h]
theorem wl_no {a b x : Int} (ys : List Int) (h : inB x a b = false) : wl a b (ys ++ [x]) = wl a b ys := by simp [wl, List.filter_append, h]
theorem foldl_asc : ∀ (ys acc : List Int), Asc acc → Asc (ys.foldl putI acc)
  | [], _, h => h
  | y :: ys, acc, h => foldl_asc ys _ (putI_asc h)
theorem wl_asc (a b : Int) (ys : List Int) : Asc (wl a b ys) := foldl_asc _ [] List.Pairwise.nil
theorem foldl_mem : ∀ (ys acc : List Int) (x : Int), x ∈ ys.foldl putI acc ↔ x ∈ ys ∨ x ∈ acc
  | [], _, _ => by simp
  | y :: ys, acc, x => by
    rw [List.foldl_cons, foldl_mem ys, putI_mem, List.mem_cons]
    constructor
    · rintro (h | h | h)
      · exact .inl (.inr h)
      · exact .inl (.inl h)
      · exact .inr h
    · rintro ((h | h) | h)
      · exact .inr (.inl h)
      · exact .inl h
      · exact .inr (.inr h)
theorem wl_mem (a b : Int) (ys : List Int) (x : Int) : x ∈ wl a b ys ↔ x ∈ ys ∧ inB x a b = true := by
  unfold wl
  rw [foldl_mem]
  simp
theorem asc_len : ∀ (l : List Int) (a b : Int), Asc l → (∀ x ∈ l, a ≤ x ∧ x ≤ b) → l.length ≤ (b - a + 1).toNat
  | [], a, b, _, _ => by simp
  | y :: ys, a, b, h, hr => by
    have h1 : (∀ c ∈ ys, y < c) ∧ Asc ys := by simpa [Asc, List.pairwise_cons] using h
    have h2 := asc_len ys (y + 1) b h1.2 fun x hx => ⟨by have := h1.1 x hx; omega, (hr x (by simp [hx])).2⟩
    have h3 := hr y (by simp)
    rw [List.length_cons]
    omega
theorem wl_len (a b : Int) (ys : List Int) : (wl a b ys).length ≤ (b - a + 1).toNat := asc_len _ a b (wl_asc a b ys) fun x hx => by
  have := ((wl_mem a b ys x).1 hx).2
  simpa [inB] using this
theorem terms_take (l : FL) {k : Nat} (hk : k < l.length) {r : Int} {xs : List Int} (hf : l.getD k (0, []) = (r, xs)) : terms (l.take (k + 1)) = terms (l.take k) ++ xs := by
  unfold terms
  rw [List.take_succ_eq_append_getElem hk, List.flatMap_append]
  have : l[k] = l.getD k (0, []) := by simp [List.getD_eq_getElem?_getD, hk]
  rw [this, hf]
  simp
theorem len_hid {a b : Int} {out ys : List Int} (h : out = wl a b ys) (hab : b - a + 1 ≤ 1000) : out.length ≤ 1000 := by
  have := wl_len a b ys
  rw [h]; omega

set_option maxRecDepth 100000 in
set_option maxHeartbeats 1000000 in
theorem spec_VarsOf (H A : Option Addr) (ch c : Nat) (hs : List Int) (l : FL) (hz : szF l ≤ 1048576) (w : World) (h : RF w A l) :
    Calls Tryd.prog 19 #[.agg #[.slice H hs.length ch, .slice A l.length c]] w (PutO w w.heap.size (wl 10 17 (terms l))) := by
  have hl := szF_len hz
  have hl' : (l.length : Int) ≤ 1048576 := by omega
  have HI := Lib.hid h
  have X0 := Lib.hid ((Box.new w #[.slice H hs.length ch, .slice A l.length c] 37).step (below_alloc _ (.cells #[] 3)))
  have B0 := Lib.hid (step (below_alloc w (.cells #[.slice H hs.length ch, .slice A l.length c] 37)) (below_alloc _ (.cells #[] 3)))
  clear h
  go_enter Tryd.func19, Tryd.ntmps19
  go_wp2
  go_loopw [3, 4, 5] (fun o i _ wr => ∃ (k : Nat) (A2 : Option Addr) (c2 : Nat) (out : List Int), k ≤ l.length ∧ i = .int .i64 k ∧ o = .slice A2 out.length c2 ∧ Hid (out = wl 10 17 (terms (l.take k))) ∧ Hid (Ints wr (w.heap.size + 1) wr.heap.size A2 out) ∧ Hid (Box wr w.heap.size #[.slice H hs.length ch, .slice A l.length c] 37) ∧ Hid (Below w.heap.size w wr)) (fun _ i _ _ => l.length - (intOf i).toNat)
  case atStart => exact ⟨0, _, 0, [], by omega, rfl, rfl, Lib.hid rfl, Lib.hid fun hne => absurd rfl hne, X0, B0⟩
  case round =>
    obtain ⟨k, A2, c2, out, hk, rfl, rfl, hO, hI, hX, hB⟩ := hrel
    have g1 := hX.out.cell 1
    simp only [List.getElem?_toArray, List.getElem?_cons_zero, List.getElem?_cons_succ] at g1
    have hk0 : (0 : Int) ≤ (k : Int) := by omega
    by_cases hlt : k < l.length
    · generalize hf : l.getD k (0, []) = f
      obtain ⟨r, xs⟩ := f
      have hxl : xs.length ≤ 1048576 := by have := szF_elem hz hlt; rw [hf] at this; exact this
      have hxl' : (xs.length : Int) ≤ 1048576 := by omega
      have TT := Lib.hid (terms_take l hlt hf)
      have hk1 : (k : Int) < (l.length : Int) := by omega
      obtain ⟨b, off, B, c3, rfl, hb, _, e1, _, hcm, hJ⟩ := HI.out.at_ hlt hf
      have E1 := Lib.hid e1
      have HJ := Lib.hid hJ
      generalize terms (l.take k) = T at hO TT
      clear hf e1 hJ
      go_wp2
      go_loopw [3, 5] (fun o i wr2 => ∃ (j : Nat) (A2 : Option Addr) (c2 : Nat) (out : List Int), j ≤ xs.length ∧ i = .int .i64 j ∧ o = .slice A2 out.length c2 ∧ Hid (out = wl 10 17 (T ++ xs.take j)) ∧ Hid (Ints wr2 (w.heap.size + 1) wr2.heap.size A2 out) ∧ Hid (Box wr2 w.heap.size #[.slice H hs.length ch, .slice (some ⟨b, off, none⟩) l.length c] 37) ∧ Hid (Below w.heap.size w wr2)) (fun _ i _ => xs.length - (intOf i).toNat)
      case atStart => exact ⟨0, A2, c2, out, by omega, rfl, rfl, Lib.hid (by rw [hO.out]; simp), hI, hX, hB⟩
      case round =>
        obtain ⟨j, A2, c2, out, hj, rfl, rfl, hO, hI, hX, hB⟩ := hrel
        clear g1
        have g1 := hX.out.cell 1
        simp only [List.getElem?_toArray, List.getElem?_cons_zero, List.getElem?_cons_succ] at g1
        have e1 := (hB.out.cell (p := ⟨b, off + k * 2 + 1, none⟩) hb).trans E1.out
        have hj0 : (0 : Int) ≤ (j : Int) := by omega
        by_cases hjt : j < xs.length
        · have hj1 : (j : Int) < (xs.length : Int) := by omega
          obtain ⟨b2, off2, rfl, hb2, hc0⟩ := HJ.out.at_ hjt
          have hc := (hB.out.cell (p := ⟨b2, off2 + j, none⟩) hb2).trans hc0
          generalize hx : xs.getD j 0 = x at hc
          have TX := Lib.hid (takeI xs hjt hx)
          have hol := len_hid hO.out (by omega)
          clear hx hc0
          by_cases hin : inB x 10 17 = true
          · have HN := Lib.hid hin
            have O2 := Lib.hid (show putI out x = wl 10 17 (T ++ xs.take (j + 1)) by rw [TX.out, ← List.append_assoc, wl_yes _ hin, hO.out])
            have XP := Lib.hid (l3Put_any (w.heap.size + 1) A2 c2 out x (by omega) wr (by have := hX.out.lt; omega) hI.out)
            clear hin
            go_wp2_with fail
            refine (spec_IsVar x _).mono ?_
            rintro e w' ⟨rfl, rfl⟩
            rw [HN.out]
            go_wp2_with fail
            refine XP.out.mono ?_
            rintro e w1 ⟨A4, c4, rfl, hI4, d4⟩
            have hX4 := Lib.hid (hX.out.step d4)
            have hB4 := Lib.hid (step hB.out d4)
            have HI4 := Lib.hid hI4
            generalize putI out x = out4 at O2 HI4
            clear d4 hI4
            go_wp2
            go_roundw
            case rel => exact ⟨j + 1, A4, c4, out4, by omega, by go_num, rfl, O2, HI4, hX4, hB4⟩
            case measure => simp [intOf]; omega
          · have hin' : inB x 10 17 = false := by simpa using hin
            have HN := Lib.hid hin'
            have O2 := Lib.hid (show out = wl 10 17 (T ++ xs.take (j + 1)) by rw [TX.out, ← List.append_assoc, wl_no _ hin', hO.out])
            clear hin hin'
            go_wp2_with fail
            refine (spec_IsVar x _).mono ?_
            rintro e w' ⟨rfl, rfl⟩
            rw [HN.out]
            go_wp2
            go_roundw
            case rel => exact ⟨j + 1, A2, c2, out, by omega, by go_num, rfl, O2, hI, hX, hB⟩
            case measure => simp [intOf]; omega
        · obtain rfl : j = xs.length := by omega
          have O2 := Lib.hid (show out = wl 10 17 (terms (l.take (k + 1))) by rw [TT.out, hO.out, take_all])
          go_wp2
          go_roundw
          case rel => exact ⟨k + 1, A2, c2, out, by omega, by go_num, rfl, O2, hI, hX, hB⟩
          case measure => simp [intOf]; omega
    · obtain rfl : k = l.length := by omega
      have O2 := Lib.hid (show out = wl 10 17 (terms l) by rw [hO.out, take_all])
      go_wp2
      go_ret
      exact ⟨A2, c2, congrArg (fun o : List Int => Ending.returned (.slice A2 o.length c2)) O2.out, by rw [← O2.out]; exact hI.out.mono (by omega) (Nat.le_refl _), hB.out⟩

end Go.Proofs.YtimlpdcambmcjaaDoor
