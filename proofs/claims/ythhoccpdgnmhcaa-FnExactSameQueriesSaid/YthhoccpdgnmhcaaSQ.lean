/- What the two functions SameQueries answer. Conditions: none beyond each theorem's own. -/
import Derived.Test.YthhoccpdgnmhcaaQL
import Derived.Test.YthhoccpdgnmhcaaSameL
namespace Go.Proofs.Ythhoccpdgnmhcaa
open Go.ChangeShapes Go.WideShapes Go.ChangeAt Go.RowKit Go.Sort
open Go.Proofs.Ythhoccpdgnmhcaa.atom
set_option linter.unusedVariables false
set_option linter.unusedSimpArgs false

set_option maxRecDepth 100000 in
set_option maxHeartbeats 1000000 in
theorem l2Ints_any (lo hi lo' hi' : Nat) (A A' : Option Addr) (c c' : Nat) (xs ys : List Int) (hl : xs.length ≤ 140737488355328) (hl2 : ys.length ≤ 140737488355328) (w : World) (h : Ints w lo hi A xs) (h' : Ints w lo' hi' A' ys) :
    Calls Try.prog 65 #[.slice A xs.length c, .slice A' ys.length c'] w fun e w' => e = .returned (.bool (decide (xs = ys))) ∧ Below w.heap.size w w' := by
  by_cases hlen : xs.length = ys.length
  · have HI := Lib.hid h
    have HJ := Lib.hid h'
    have HL := Lib.hid hlen
    clear h h'
    have hl' : (xs.length : Int) ≤ 140737488355328 := by omega
    rw [← hlen]
    clear hlen
    go_enter Try.func65, Try.ntmps65
    go_wp2
    go_loopw [5] (fun i wr => ∃ k : Nat, k ≤ xs.length ∧ i = .int .i64 k ∧ xs.take k = ys.take k ∧ Below w.heap.size w wr ∧ wr.heap = w.heap) (fun i _ => xs.length - (intOf i).toNat)
    case atStart => exact ⟨0, by omega, rfl, rfl, Below.refl _ _, rfl⟩
    case round =>
      obtain ⟨k, hk, rfl, ha, hb, hh⟩ := hrel
      have HA := Lib.hid ha
      have HH := Lib.hid hh
      clear ha hh
      by_cases hlt : k < xs.length
      · have HI1 : Ints wr lo hi A xs := HI.out.keep fun b _ _ => by rw [HH.out]
        have HJ1 : Ints wr lo' hi' A' ys := HJ.out.keep fun b _ _ => by rw [HH.out]
        obtain ⟨b, off, rfl, _, _, hc⟩ := HI1.at_ hlt
        obtain ⟨b', off', rfl, _, _, hc'⟩ := HJ1.at_ (show k < ys.length by have := HL.out; omega)
        generalize hx : xs.getD k 0 = x at hc
        generalize hy : ys.getD k 0 = y at hc'
        have HX := Lib.hid hx
        have HY := Lib.hid hy
        clear hx hy HI1 HJ1
        have hk0 : (0 : Int) ≤ (k : Int) := by omega
        have hk1 : (k : Int) < (xs.length : Int) := by omega
        by_cases hin : x = y
        · subst hin
          go_wp2
          go_quiet (fail)
          go_wp2
          go_roundw
          case rel => exact ⟨k + 1, by omega, by go_num, eq_take _ _ HL.out _ hlt HA.out (by rw [HX.out, HY.out]), below_drewN hb _, HH.out⟩
          case measure => simp [intOf]; omega
        · have hd : (x == y) = false := by simpa using hin
          have hd2 : (x != y) = true := by simpa using hin
          go_wp2
          go_quiet (fail)
          go_wp2
          go_ret
          exact ⟨ret_bool (by rw [decide_eq_false]; rintro rfl; exact hin (HX.out.symm.trans HY.out)), below_drewN hb _⟩
      · obtain rfl : k = xs.length := by omega
        go_wp2
        go_ret
        exact ⟨ret_bool (by rw [decide_eq_true]; have := HA.out; rwa [take_all, HL.out, take_all] at this), hb⟩
  · have hd : ((xs.length : Int) == (ys.length : Int)) = false := by simp; omega
    have hd2 : ((xs.length : Int) != (ys.length : Int)) = true := by simp; omega
    have H := Lib.hid hlen
    clear hlen
    go_enter Try.func65, Try.ntmps65
    go_wp2
    go_ret
    exact ⟨ret_bool (by rw [decide_eq_false]; rintro rfl; exact H.out rfl), Below.refl _ _⟩

set_option maxRecDepth 100000 in
set_option maxHeartbeats 1000000 in
theorem sEqual_any (lo hi lo' hi' : Nat) (A A' : Option Addr) (c c' : Nat) (xs ys : List Int) (hl : xs.length ≤ 140737488355328) (hl2 : ys.length ≤ 140737488355328) (w : World) (h : Ints w lo hi A xs) (h' : Ints w lo' hi' A' ys) :
    Calls Try.prog 66 #[.slice A xs.length c, .slice A' ys.length c'] w fun e w' => e = .returned (.bool (decide (xs = ys))) ∧ Below w.heap.size w w' := by
  by_cases hlen : xs.length = ys.length
  · have HI := Lib.hid h
    have HJ := Lib.hid h'
    have HL := Lib.hid hlen
    clear h h'
    have hl' : (xs.length : Int) ≤ 140737488355328 := by omega
    rw [← hlen]
    clear hlen
    go_enter Try.func66, Try.ntmps66
    go_wp2
    go_loopw [5, 13] (fun _ i wr => ∃ k : Nat, k ≤ xs.length ∧ i = .int .i64 k ∧ xs.take k = ys.take k ∧ Below w.heap.size w wr ∧ wr.heap = w.heap) (fun _ i _ => xs.length - (intOf i).toNat)
    case atStart => exact ⟨0, by omega, rfl, rfl, Below.refl _ _, rfl⟩
    case round =>
      obtain ⟨k, hk, rfl, ha, hb, hh⟩ := hrel
      have HA := Lib.hid ha
      have HH := Lib.hid hh
      clear ha hh
      by_cases hlt : k < xs.length
      · have HI1 : Ints wr lo hi A xs := HI.out.keep fun b _ _ => by rw [HH.out]
        have HJ1 : Ints wr lo' hi' A' ys := HJ.out.keep fun b _ _ => by rw [HH.out]
        obtain ⟨b, off, rfl, _, _, hc⟩ := HI1.at_ hlt
        obtain ⟨b', off', rfl, _, _, hc'⟩ := HJ1.at_ (show k < ys.length by have := HL.out; omega)
        generalize hx : xs.getD k 0 = x at hc
        generalize hy : ys.getD k 0 = y at hc'
        have HX := Lib.hid hx
        have HY := Lib.hid hy
        clear hx hy HI1 HJ1
        have hk0 : (0 : Int) ≤ (k : Int) := by omega
        have hk1 : (k : Int) < (xs.length : Int) := by omega
        by_cases hin : x = y
        · subst hin
          go_wp2
          go_quiet (fail)
          go_wp2
          go_roundw
          case rel => exact ⟨k + 1, by omega, by go_num, eq_take _ _ HL.out _ hlt HA.out (by rw [HX.out, HY.out]), below_drewN hb _, HH.out⟩
          case measure => simp [intOf]; omega
        · have hd : (x == y) = false := by simpa using hin
          have hd2 : (x != y) = true := by simpa using hin
          go_wp2
          go_quiet (fail)
          go_wp2
          go_ret
          exact ⟨ret_bool (by rw [decide_eq_false]; rintro rfl; exact hin (HX.out.symm.trans HY.out)), below_drewN hb _⟩
      · obtain rfl : k = xs.length := by omega
        go_wp2
        go_ret
        exact ⟨ret_bool (by rw [decide_eq_true]; have := HA.out; rwa [take_all, HL.out, take_all] at this), hb⟩
  · have hd : ((xs.length : Int) == (ys.length : Int)) = false := by simp; omega
    have hd2 : ((xs.length : Int) != (ys.length : Int)) = true := by simp; omega
    have H := Lib.hid hlen
    clear hlen
    go_enter Try.func66, Try.ntmps66
    go_wp2
    go_ret
    exact ⟨ret_bool (by rw [decide_eq_false]; rintro rfl; exact H.out rfl), Below.refl _ _⟩

set_option maxRecDepth 100000 in
theorem isSameAtom_any (r r' : Int) (xs ys : List Int) (A A' : Option Addr) (c c' : Nat) (hl : xs.length ≤ 1048576) (hl2 : ys.length ≤ 1048576) (hc : xs.length ≤ c) (hc2 : ys.length ≤ c') (hm : c ≤ maxLen) (hm2 : c' ≤ maxLen) (w : World) (h : RI w A xs) (h' : RI w A' ys) :
    Calls Try.prog 68 #[.agg #[.int .i64 r, .slice A xs.length c], .agg #[.int .i64 r', .slice A' ys.length c']] w fun e w' => e = .returned (.bool (sameB r xs r' ys)) ∧ Below w.heap.size w w' := by
  have B0 := Lib.hid (step (below_alloc w (.cells #[.int .i64 r, .slice A xs.length c] 45)) (below_alloc _ (.cells #[.int .i64 r', .slice A' ys.length c'] 45)))
  have XE := Lib.hid (sEqual_any _ _ _ _ A A' c c' xs ys (by omega) (by omega) _ (h.step B0.out) (h'.step B0.out))
  clear h h'
  by_cases hr : r = r'
  · subst hr
    have E := Lib.hid (show sameB r xs r ys = decide (xs = ys) by simp [sameB])
    rw [E.out]
    go_enter Try.func68, Try.ntmps68
    go_wp2_with fail
    refine XE.out.mono ?_
    rintro e w1 ⟨rfl, d⟩
    have D := Lib.hid (step B0.out d)
    clear d
    go_wp2
    go_ret
    exact ⟨rfl, D.out⟩
  · have E := Lib.hid (show sameB r xs r' ys = false by simp [sameB, hr])
    have d1 : (r == r') = false := by simpa using hr
    rw [E.out]
    clear hr
    go_enter Try.func68, Try.ntmps68
    go_wp2
    go_ret
    exact ⟨rfl, B0.out⟩

set_option maxRecDepth 100000 in
set_option maxHeartbeats 1000000 in
theorem equalFuncA_any (A : Option Addr) (c : Nat) (l : FL) (A' : Option Addr) (c' : Nat) (l' : FL) (hz : szF l ≤ 1048576) (hz' : szF l' ≤ 1048576) (w : World) (h : RF w A l) (h' : RF w A' l') :
    Calls Try.prog 67 #[.slice A l.length c, .slice A' l'.length c', .func (.func 68) #[] #[]] w fun e w' => e = .returned (.bool (sameL l l')) ∧ Below w.heap.size w w' := by
  have hl := szF_len hz
  have hl' : (l.length : Int) ≤ 1048576 := by omega
  have hl2 := szF_len hz'
  have hl2' : (l'.length : Int) ≤ 1048576 := by omega
  have HI := Lib.hid h
  have HJ := Lib.hid h'
  clear h h'
  by_cases hn : l.length = l'.length
  · have HN := Lib.hid hn
    have d0 : ((l.length : Int) == (l'.length : Int)) = true := by simp; omega
    have d1 : ((l.length : Int) != (l'.length : Int)) = false := by simp; omega
    clear hn
    go_enter Try.func67, Try.ntmps67
    go_wp2
    go_loopw [7, 8, 9, 17] (fun _ _ _ i wr => ∃ k : Nat, k ≤ l.length ∧ i = .int .i64 k ∧ l.take k = l'.take k ∧ Below w.heap.size w wr) (fun _ _ _ i _ => l.length - (intOf i).toNat)
    case atStart => exact ⟨0, by omega, rfl, rfl, Below.refl _ _⟩
    case round =>
      obtain ⟨k, hk, rfl, ha, hb⟩ := hrel
      have HA := Lib.hid ha
      clear ha
      by_cases hlt : k < l.length
      · have hlt' : k < l'.length := by have := HN.out; omega
        generalize hf : l.getD k (0, []) = f
        obtain ⟨r, xs⟩ := f
        generalize hf' : l'.getD k (0, []) = f'
        obtain ⟨r', ys⟩ := f'
        have HF := Lib.hid hf
        have HF' := Lib.hid hf'
        have hxl : xs.length ≤ 1048576 := by have := szF_elem hz hlt; rw [hf] at this; exact this
        have hyl : ys.length ≤ 1048576 := by have := szF_elem hz' hlt'; rw [hf'] at this; exact this
        obtain ⟨b, off, B, c2, rfl, n1, e0, e1, hxc, hcm, hI⟩ := (HI.out.step hb).at_ hlt hf
        obtain ⟨b', off', B', c2', rfl, n1', e0', e1', hxc', hcm', hI'⟩ := (HJ.out.step hb).at_ hlt' hf'
        have bv := step (below_alloc wr (.cells #[.int .i64 r, .slice B xs.length c2] 45)) (below_alloc _ (.cells #[.int .i64 r', .slice B' ys.length c2'] 45))
        have HX := Lib.hid (hI.step bv)
        have HY := Lib.hid (hI'.step bv)
        have HBV := Lib.hid bv
        have hk1 : (k : Int) < (l.length : Int) := by omega
        have hk2 : (k : Int) < (l'.length : Int) := by omega
        clear hI hI' hf hf' bv
        go_wp2_with fail
        refine (isSameAtom_any r r' xs ys B B' c2 c2' hxl hyl hxc hxc' hcm hcm' _ HX.out HY.out).mono ?_
        rintro e u ⟨he, d⟩
        have hb2 := step hb (step HBV.out d)
        clear d
        by_cases hs : sameB r xs r' ys = true
        · rw [hs] at he
          have HS := Lib.hid hs
          subst he
          clear hs
          go_wp2
          go_roundw
          case rel => exact ⟨k + 1, by omega, by go_num, fl_take _ _ HN.out k hlt HA.out HF.out HF'.out HS.out, hb2⟩
          case measure => simp [intOf]; omega
        · have HS := Lib.hid (show sameB r xs r' ys = false by simpa using hs)
          rw [HS.out] at he
          subst he
          clear hs
          go_wp2
          go_ret
          exact ⟨ret_bool (fl_differ _ _ k HF.out HF'.out HS.out).symm, hb2⟩
      · obtain rfl : k = l.length := by omega
        go_wp2
        go_ret
        exact ⟨ret_bool (by have := HA.out; rw [take_all, HN.out, take_all] at this; simp [sameL, this]), hb⟩
  · have d0 : ((l.length : Int) == (l'.length : Int)) = false := by simp; omega
    have d1 : ((l.length : Int) != (l'.length : Int)) = true := by simp; omega
    have H : sameL l l' = false := by unfold sameL; rw [decide_eq_false]; rintro rfl; exact hn rfl
    rw [H]
    clear hn H
    go_enter Try.func67, Try.ntmps67
    go_wp2
    go_ret
    exact ⟨rfl, Below.refl _ _⟩


def sameQ (hs : List Int) (l : FL) (hs' : List Int) (l' : FL) : Bool := decide (hs = hs') && sameL l l'

set_option maxRecDepth 100000 in
set_option maxHeartbeats 1000000 in
theorem impl_SameQueries (H A H' A' : Option Addr) (ch c ch' c' : Nat) (hs hs' : List Int) (l l' : FL) (hh : hs.length ≤ 1048576) (hh' : hs'.length ≤ 1048576) (hz : szF l ≤ 1048576) (hz' : szF l' ≤ 1048576) (w : World) (h1 : RI w H hs) (h2 : RF w A l) (h3 : RI w H' hs') (h4 : RF w A' l') :
    Calls Try.prog 46 #[.agg #[.slice H hs.length ch, .slice A l.length c], .agg #[.slice H' hs'.length ch', .slice A' l'.length c']] w fun e w' => e = .returned (.bool (sameQ hs l hs' l')) ∧ Below w.heap.size w w' := by
  have B0 := Lib.hid (step (below_alloc w (.cells #[.slice H hs.length ch, .slice A l.length c] 56)) (below_alloc _ (.cells #[.slice H' hs'.length ch', .slice A' l'.length c'] 56)))
  have XE := Lib.hid (sEqual_any _ _ _ _ H H' ch ch' hs hs' (by omega) (by omega) _ (h1.step B0.out) (h3.step B0.out))
  have F2 := Lib.hid (h2.step B0.out)
  have F4 := Lib.hid (h4.step B0.out)
  clear h1 h2 h3 h4
  by_cases hr : hs = hs'
  · have E := Lib.hid (show sameQ hs l hs' l' = sameL l l' by simp [sameQ, hr])
    have D0 := Lib.hid (decide_eq_true hr)
    rw [E.out]
    clear hr
    go_enter Try.func46, Try.ntmps46
    go_wp2_with fail
    refine XE.out.mono ?_
    rintro e w1 ⟨he, d⟩
    rw [D0.out] at he
    subst he
    have X := Box.of_new2 d
    have x1 := X.1.cell 1
    have x2 := X.2.cell 1
    simp only [List.getElem?_toArray, List.getElem?_cons_zero, List.getElem?_cons_succ] at x1 x2
    have XF := Lib.hid (equalFuncA_any A c l A' c' l' hz hz' w1 (F2.out.step d) (F4.out.step d))
    have D1 := Lib.hid (step B0.out d)
    clear X d
    go_wp2_with fail
    refine XF.out.mono ?_
    rintro e w2 ⟨rfl, d⟩
    have D2 := Lib.hid (step D1.out d)
    clear d
    go_wp2
    go_ret
    exact ⟨rfl, D2.out⟩
  · have E := Lib.hid (show sameQ hs l hs' l' = false by simp [sameQ, hr])
    have D0 := Lib.hid (decide_eq_false hr)
    rw [E.out]
    clear hr
    go_enter Try.func46, Try.ntmps46
    go_wp2_with fail
    refine XE.out.mono ?_
    rintro e w1 ⟨he, d⟩
    rw [D0.out] at he
    subst he
    have D1 := Lib.hid (step B0.out d)
    clear d
    go_wp2
    go_ret
    exact ⟨rfl, D1.out⟩

set_option maxRecDepth 100000 in
set_option maxHeartbeats 4000000 in
theorem spec_SameQueries (H A H' A' : Option Addr) (ch c ch' c' : Nat) (hs hs' : List Int) (l l' : FL) (hh : hs.length ≤ 1048576) (hh' : hs'.length ≤ 1048576) (hz : szF l ≤ 1048576) (hz' : szF l' ≤ 1048576) (w : World) (h1 : RI w H hs) (h2 : RF w A l) (h3 : RI w H' hs') (h4 : RF w A' l') :
    Calls Try.prog 45 #[.agg #[.slice H hs.length ch, .slice A l.length c], .agg #[.slice H' hs'.length ch', .slice A' l'.length c']] w fun e w' => e = .returned (.bool (sameQ hs l hs' l')) ∧ Below w.heap.size w w' := by
  have hl := szF_len hz
  have hl' : (l.length : Int) ≤ 1048576 := by omega
  have hl2 := szF_len hz'
  have hl2' : (l'.length : Int) ≤ 1048576 := by omega
  have B0 := Lib.hid (step (below_alloc w (.cells #[.slice H hs.length ch, .slice A l.length c] 56)) (below_alloc _ (.cells #[.slice H' hs'.length ch', .slice A' l'.length c'] 56)))
  have XE := Lib.hid (l2Ints_any _ _ _ _ H H' ch ch' hs hs' (by omega) (by omega) _ (h1.step B0.out) (h3.step B0.out))
  have HF := Lib.hid h2
  have HG := Lib.hid h4
  clear h1 h2 h3 h4
  by_cases hr : hs = hs'
  · have E := Lib.hid (show sameQ hs l hs' l' = sameL l l' by simp [sameQ, hr])
    have D0 := Lib.hid (decide_eq_true hr)
    rw [E.out]
    clear hr
    by_cases hn : l.length = l'.length
    · have HN := Lib.hid hn
      have d0 : ((l.length : Int) == (l'.length : Int)) = true := by simp; omega
      have d1 : ((l.length : Int) != (l'.length : Int)) = false := by simp; omega
      clear hn
      go_enter Try.func45, Try.ntmps45
      go_wp2_with fail
      refine XE.out.mono ?_
      rintro e w1 ⟨he, d⟩
      rw [D0.out] at he
      subst he
      have X := Box.of_new2 d
      have XA := Lib.hid X.1
      have XB := Lib.hid X.2
      have x1 := X.1.cell 1
      have x2 := X.2.cell 1
      simp only [List.getElem?_toArray, List.getElem?_cons_zero, List.getElem?_cons_succ] at x1 x2
      have D1 := Lib.hid (step B0.out d)
      clear X d
      go_wp2
      go_loopw [5] (fun i wr => ∃ k : Nat, k ≤ l.length ∧ i = .int .i64 k ∧ Hid (l.take k = l'.take k) ∧ Hid (Below w.heap.size w wr) ∧ Hid (Box wr w.heap.size #[.slice H hs.length ch, .slice A l.length c] 56) ∧ Hid (Box wr (w.heap.size + 1) #[.slice H' hs'.length ch', .slice A' l'.length c'] 56)) (fun i _ => l.length - (intOf i).toNat)
      case atStart => exact ⟨0, by omega, rfl, Lib.hid rfl, D1, XA, XB⟩
      case round =>
        obtain ⟨k, hk, rfl, ha, hb, hX, hY⟩ := hrel
        clear x1 x2
        have x1 := hX.out.cell 1
        have x2 := hY.out.cell 1
        simp only [List.getElem?_toArray, List.getElem?_cons_zero, List.getElem?_cons_succ] at x1 x2
        by_cases hlt : k < l.length
        · have hlt' : k < l'.length := by have := HN.out; omega
          generalize hf : l.getD k (0, []) = f
          obtain ⟨r, xs⟩ := f
          generalize hf' : l'.getD k (0, []) = f'
          obtain ⟨r', ys⟩ := f'
          have FT := Lib.hid fun (hs : sameB r xs r' ys = true) => fl_take l l' HN.out k hlt ha.out hf hf' hs
          have FD := Lib.hid fun (hs : sameB r xs r' ys = false) => fl_differ l l' k hf hf' hs
          have hxl : xs.length ≤ 1048576 := by have := szF_elem hz hlt; rw [hf] at this; exact this
          have hyl : ys.length ≤ 1048576 := by have := szF_elem hz' hlt'; rw [hf'] at this; exact this
          obtain ⟨b, off, B, c2, rfl, n1, e0, e1, _, _, hI⟩ := (HF.out.step hb.out).at_ hlt hf
          obtain ⟨b', off', B', c2', rfl, n1', e0', e1', _, _, hI'⟩ := (HG.out.step hb.out).at_ hlt' hf'
          have k0 := cell_regrown e0
          have k1 := cell_regrown e1
          have k2 := cell_regrown e0'
          have k3 := cell_regrown e1'
          have k4 := cell_regrown x1
          have k5 := cell_regrown x2
          have HX := Lib.hid hI
          have HY := Lib.hid hI'
          have hk0 : (0 : Int) ≤ (k : Int) := by omega
          have hk1 : (k : Int) < (l.length : Int) := by omega
          have hk2 : (k : Int) < (l'.length : Int) := by omega
          have X1 := Lib.hid fun (W : World) (hW : Below wr.heap.size wr W) => l2Ints_any _ _ _ _ B B' c2 c2' xs ys (by omega) (by omega) W (HX.out.step hW) (HY.out.step hW)
          clear hI hI' hf hf' e0 e1 e0' e1'
          by_cases hrr : r = r'
          · subst hrr
            have d2 : (r == r) = true := by simp
            by_cases he : xs = ys
            · have HS := Lib.hid (show sameB r xs r ys = true by simp [sameB, he])
              have DE := Lib.hid (decide_eq_true he)
              rw [DE.out] at X1
              clear he
              go_wp2
              refine wp_region_quiet_below (by kernel_rfl) (by kernel_rfl) ?_
              repeat (go_big_quiet_step (first | (go_at_call 65; with_reducible exact Calls.regrown_of (X1.out _ (below_regrown _ _ _)))))
              refine wpQuiet_nil ?_
              intro u hw'
              have hbu := Lib.hid (show Below wr.heap.size wr u by obtain ⟨⟨dq, osq⟩, rfl⟩ := hw'; exact below_regrown _ _ _)
              have hX2 := Lib.hid (hX.out.step hbu.out)
              have hY2 := Lib.hid (hY.out.step hbu.out)
              have hb2 := Lib.hid (step hb.out hbu.out)
              clear hw' k0 k1 k2 k3 k4 k5 x1 x2
              go_wp2
              go_roundw
              case rel => exact ⟨k + 1, by omega, by go_num, Lib.hid (FT.out HS.out), hb2, hX2, hY2⟩
              case measure => simp [intOf]; omega
            · have HS := Lib.hid (show sameB r xs r ys = false by simp [sameB, he])
              have DE := Lib.hid (decide_eq_false he)
              rw [DE.out] at X1
              clear he
              go_wp2
              refine wp_region_quiet_below (by kernel_rfl) (by kernel_rfl) ?_
              repeat (go_big_quiet_step (first | (go_at_call 65; with_reducible exact Calls.regrown_of (X1.out _ (below_regrown _ _ _)))))
              refine wpQuiet_nil ?_
              intro u hw'
              have hb2 := Lib.hid (step hb.out (show Below wr.heap.size wr u by obtain ⟨⟨dq, osq⟩, rfl⟩ := hw'; exact below_regrown _ _ _))
              clear hw' k0 k1 k2 k3 k4 k5 x1 x2
              go_wp2
              go_ret
              exact ⟨ret_bool (FD.out HS.out).symm, hb2.out⟩
          · have d2 : (r == r') = false := by simpa using hrr
            have d3 : (r != r') = true := by simpa using hrr
            have HS := Lib.hid (show sameB r xs r' ys = false by simp [sameB, hrr])
            clear hrr
            go_wp2
            refine wp_region_quiet_below (by kernel_rfl) (by kernel_rfl) ?_
            repeat (go_big_quiet_step (first | (go_at_call 65; with_reducible exact Calls.regrown_of (X1.out _ (below_regrown _ _ _)))))
            refine wpQuiet_nil ?_
            intro u hw'
            have hb2 := Lib.hid (step hb.out (show Below wr.heap.size wr u by obtain ⟨⟨dq, osq⟩, rfl⟩ := hw'; exact below_regrown _ _ _))
            clear hw' k0 k1 k2 k3 k4 k5 x1 x2
            go_wp2
            go_ret
            exact ⟨ret_bool (FD.out HS.out).symm, hb2.out⟩
        · obtain rfl : k = l.length := by omega
          go_wp2
          go_ret
          exact ⟨ret_bool (by have := ha.out; rw [take_all, HN.out, take_all] at this; simp [sameL, this]), hb.out⟩
    · have d0 : ((l.length : Int) == (l'.length : Int)) = false := by simp; omega
      have d1 : ((l.length : Int) != (l'.length : Int)) = true := by simp; omega
      have EF := Lib.hid (show sameL l l' = false by unfold sameL; rw [decide_eq_false]; rintro rfl; exact hn rfl)
      rw [EF.out]
      clear hn
      go_enter Try.func45, Try.ntmps45
      go_wp2_with fail
      refine XE.out.mono ?_
      rintro e w1 ⟨he, d⟩
      rw [D0.out] at he
      subst he
      have X := Box.of_new2 d
      have x1 := X.1.cell 1
      have x2 := X.2.cell 1
      simp only [List.getElem?_toArray, List.getElem?_cons_zero, List.getElem?_cons_succ] at x1 x2
      have D1 := Lib.hid (step B0.out d)
      clear X d
      go_wp2
      go_ret
      exact ⟨rfl, D1.out⟩
  · have E := Lib.hid (show sameQ hs l hs' l' = false by simp [sameQ, hr])
    have D0 := Lib.hid (decide_eq_false hr)
    rw [E.out]
    clear hr
    go_enter Try.func45, Try.ntmps45
    go_wp2_with fail
    refine XE.out.mono ?_
    rintro e w1 ⟨he, d⟩
    rw [D0.out] at he
    subst he
    have D1 := Lib.hid (step B0.out d)
    clear d
    go_wp2
    go_ret
    exact ⟨rfl, D1.out⟩
end Go.Proofs.Ythhoccpdgnmhcaa
