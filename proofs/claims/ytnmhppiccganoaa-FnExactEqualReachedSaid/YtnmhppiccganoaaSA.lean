/- What the two functions SameAccesses answer. Conditions: none beyond each theorem's own. -/
import Derived.Test.YtnmhppiccganoaaAcc
import Derived.Test.YtnmhppiccganoaaIntEq
import Derived.Lib.QuietBelow
namespace Go.Proofs.Ytnmhppiccganoaa
open Go.ChangeShapes Go.WideShapes Go.ChangeAt Go.RowKit Go.Sort
set_option linter.unusedVariables false
set_option linter.unusedSimpArgs false

def samA (us bs : FL) : Bool := decide (us = bs)
def sam1 (r : Int) (xs : List Int) (r' : Int) (ys : List Int) : Bool := decide (r = r') && decide (xs = ys)
theorem sam1_iff {r r' : Int} {xs ys : List Int} : sam1 r xs r' ys = true ↔ r = r' ∧ xs = ys := by simp [sam1]
theorem al_take (us bs : FL) (hl : us.length = bs.length) (k : Nat) (hk : k < us.length) (h : us.take k = bs.take k) {r r' : Int} {xs ys : List Int} (ha : us.getD k (0, []) = (r, xs)) (hb : bs.getD k (0, []) = (r', ys)) (hs : sam1 r xs r' ys = true) : us.take (k + 1) = bs.take (k + 1) := by
  rw [List.take_succ_eq_append_getElem hk, List.take_succ_eq_append_getElem (by omega), h]
  have h1 : us[k] = us.getD k (0, []) := by simp [List.getD_eq_getElem?_getD, hk]
  have h2 : bs[k]'(by omega) = bs.getD k (0, []) := by simp [List.getD_eq_getElem?_getD, show k < bs.length by omega]
  rw [h1, h2, ha, hb]
  obtain ⟨e1, e2⟩ := sam1_iff.1 hs
  rw [e1, e2]
theorem al_differ (us bs : FL) (k : Nat) {r r' : Int} {xs ys : List Int} (ha : us.getD k (0, []) = (r, xs)) (hb : bs.getD k (0, []) = (r', ys)) (hs : sam1 r xs r' ys = false) : samA us bs = false := by
  unfold samA
  rw [decide_eq_false]
  rintro rfl
  rw [ha] at hb
  injection hb with h1 h2
  subst h1 h2
  simp [sam1] at hs

set_option maxRecDepth 100000 in
set_option maxHeartbeats 1000000 in
theorem l5Same_any (r r' : Int) (xs ys : List Int) (A A' : Option Addr) (c c' : Nat) (hl : xs.length ≤ 1048576) (hl2 : ys.length ≤ 1048576) (w : World) (h : RI w A xs) (h' : RI w A' ys) :
    Calls Try.prog 45 #[.agg #[.int .i64 r, .slice A xs.length c], .agg #[.int .i64 r', .slice A' ys.length c']] w fun e w' => e = .returned (.bool (sam1 r xs r' ys)) ∧ Below w.heap.size w w' := by
  have bv := step (below_alloc w (.cells #[.int .i64 r, .slice A xs.length c] 57)) (below_alloc _ (.cells #[.int .i64 r', .slice A' ys.length c'] 57))
  have HB := Lib.hid bv
  have X1 := Lib.hid (l2Ints_any _ _ _ _ A A' c c' xs ys (by omega) (by omega) _ (h.step bv) (h'.step bv))
  clear h h' bv
  by_cases hr : r = r'
  · have E := Lib.hid (show sam1 r xs r' ys = decide (xs = ys) by simp [sam1, hr])
    have d1 : (r == r') = true := by simpa using hr
    clear hr
    go_enter Try.func45, Try.ntmps45
    go_wp2_with fail
    refine X1.out.mono ?_
    rintro e u ⟨rfl, d⟩
    have D := Lib.hid (step HB.out d)
    clear d
    go_wp2
    go_ret
    exact ⟨ret_bool E.out.symm, D.out⟩
  · have E := Lib.hid (show sam1 r xs r' ys = false by simp [sam1, hr])
    have d1 : (r == r') = false := by simpa using hr
    clear hr
    go_enter Try.func45, Try.ntmps45
    go_wp2
    go_ret
    exact ⟨ret_bool E.out.symm, HB.out⟩

set_option maxRecDepth 100000 in
set_option maxHeartbeats 1000000 in
theorem isSameAccess_any (r r' : Int) (xs ys : List Int) (A A' : Option Addr) (c c' : Nat) (hl : xs.length ≤ 1048576) (hl2 : ys.length ≤ 1048576) (w : World) (h : RI w A xs) (h' : RI w A' ys) :
    Calls Try.prog 51 #[.agg #[.int .i64 r, .slice A xs.length c], .agg #[.int .i64 r', .slice A' ys.length c']] w fun e w' => e = .returned (.bool (sam1 r xs r' ys)) ∧ Below w.heap.size w w' := by
  have bv := step (below_alloc w (.cells #[.int .i64 r, .slice A xs.length c] 57)) (below_alloc _ (.cells #[.int .i64 r', .slice A' ys.length c'] 57))
  have HB := Lib.hid bv
  have X1 := Lib.hid (sEqual_any _ _ _ _ A A' c c' xs ys (by omega) (by omega) _ (h.step bv) (h'.step bv))
  clear h h' bv
  by_cases hr : r = r'
  · have E := Lib.hid (show sam1 r xs r' ys = decide (xs = ys) by simp [sam1, hr])
    have d1 : (r == r') = true := by simpa using hr
    clear hr
    go_enter Try.func51, Try.ntmps51
    go_wp2_with fail
    refine X1.out.mono ?_
    rintro e u ⟨rfl, d⟩
    have D := Lib.hid (step HB.out d)
    clear d
    go_wp2
    go_ret
    exact ⟨ret_bool E.out.symm, D.out⟩
  · have E := Lib.hid (show sam1 r xs r' ys = false by simp [sam1, hr])
    have d1 : (r == r') = false := by simpa using hr
    clear hr
    go_enter Try.func51, Try.ntmps51
    go_wp2
    go_ret
    exact ⟨ret_bool E.out.symm, HB.out⟩

set_option maxRecDepth 100000 in
set_option maxHeartbeats 1000000 in
theorem spec_SameAccesses (A : Option Addr) (c : Nat) (l : FL) (A' : Option Addr) (c' : Nat) (l' : FL) (hz : szF l ≤ 1048576) (hz' : szF l' ≤ 1048576) (w : World) (h : RF w A l) (h' : RF w A' l') :
    Calls Try.prog 32 #[.slice A l.length c, .slice A' l'.length c'] w fun e w' => e = .returned (.bool (samA l l')) ∧ Below w.heap.size w w' := by
  have hl := szF_len hz
  have hl' : (l.length : Int) ≤ 1048576 := by omega
  have hl2 := szF_len hz'
  have hl2' : (l'.length : Int) ≤ 1048576 := by omega
  have HI := Lib.hid h
  have HJ := Lib.hid h'
  clear h h'
  by_cases hn : l.length = l'.length
  · have HN := Lib.hid hn
    have d0 : ((l.length : Int) == (l'.length : Int)) = true := by simp; omega
    have d1 : ((l.length : Int) != (l'.length : Int)) = false := by simp; omega
    clear hn
    go_enter Try.func32, Try.ntmps32
    go_wp2
    go_loopw [5] (fun i wr => ∃ k : Nat, k ≤ l.length ∧ i = .int .i64 k ∧ l.take k = l'.take k ∧ Below w.heap.size w wr) (fun i _ => l.length - (intOf i).toNat)
    case atStart => exact ⟨0, by omega, rfl, rfl, Below.refl _ _⟩
    case round =>
      obtain ⟨k, hk, rfl, ha, hb⟩ := hrel
      have HA := Lib.hid ha
      clear ha
      by_cases hlt : k < l.length
      · have hlt' : k < l'.length := by have := HN.out; omega
        generalize hf : l.getD k (0, []) = f
        obtain ⟨r, xs⟩ := f
        generalize hf' : l'.getD k (0, []) = f'
        obtain ⟨r', ys⟩ := f'
        have HF := Lib.hid hf
        have HF' := Lib.hid hf'
        have hxl : xs.length ≤ 1048576 := by have := szF_elem hz hlt; rw [hf] at this; exact this
        have hyl : ys.length ≤ 1048576 := by have := szF_elem hz' hlt'; rw [hf'] at this; exact this
        obtain ⟨b, off, B, c2, rfl, n1, e0, e1, hxc, hcm, hI⟩ := (HI.out.step hb).at_ hlt hf
        obtain ⟨b', off', B', c2', rfl, n1', e0', e1', hxc', hcm', hI'⟩ := (HJ.out.step hb).at_ hlt' hf'
        have k0 := cell_regrown e0
        have k1 := cell_regrown e1
        have k2 := cell_regrown e0'
        have k3 := cell_regrown e1'
        have HX := Lib.hid hI
        have HY := Lib.hid hI'
        have hk0 : (0 : Int) ≤ (k : Int) := by omega
        have hk1 : (k : Int) < (l.length : Int) := by omega
        have hk2 : (k : Int) < (l'.length : Int) := by omega
        clear hI hI' hf hf' e0 e1 e0' e1'
        generalize hq : sam1 r xs r' ys = q
        have HQ := Lib.hid hq
        clear hq
        have X1 := Lib.hid fun (W : World) (hW : Below wr.heap.size wr W) => (show Calls Try.prog 45 #[.agg #[.int .i64 r, .slice B xs.length c2], .agg #[.int .i64 r', .slice B' ys.length c2']] W fun e w' => e = .returned (.bool q) ∧ Below W.heap.size W w' by have := l5Same_any r r' xs ys B B' c2 c2' (by omega) (by omega) W (HX.out.step hW) (HY.out.step hW); rw [HQ.out] at this; exact this)
        cases q
        rotate_left
        · have HS := HQ
          go_wp2
          refine wp_region_quiet_below (by kernel_rfl) (by kernel_rfl) ?_
          repeat (go_big_quiet_step (first | (go_at_call 45; with_reducible exact Calls.regrown_of (X1.out _ (below_regrown _ _ _)))))
          refine wpQuiet_nil ?_
          intro u hw'
          have hb2 := step hb (show Below wr.heap.size wr u by obtain ⟨⟨dq, osq⟩, rfl⟩ := hw'; exact below_regrown _ _ _)
          clear hw' k0 k1 k2 k3
          go_wp2
          go_roundw
          case rel => exact ⟨k + 1, by omega, by go_num, al_take _ _ HN.out k hlt HA.out HF.out HF'.out HS.out, hb2⟩
          case measure => simp [intOf]; omega
        · have HS := HQ
          go_wp2
          refine wp_region_quiet_below (by kernel_rfl) (by kernel_rfl) ?_
          repeat (go_big_quiet_step (first | (go_at_call 45; with_reducible exact Calls.regrown_of (X1.out _ (below_regrown _ _ _)))))
          refine wpQuiet_nil ?_
          intro u hw'
          have hb2 := step hb (show Below wr.heap.size wr u by obtain ⟨⟨dq, osq⟩, rfl⟩ := hw'; exact below_regrown _ _ _)
          clear hw' k0 k1 k2 k3
          go_wp2
          go_ret
          exact ⟨ret_bool (al_differ _ _ k HF.out HF'.out HS.out).symm, hb2⟩
      · obtain rfl : k = l.length := by omega
        go_wp2
        go_ret
        exact ⟨ret_bool (by have := HA.out; rw [take_all, HN.out, take_all] at this; simp [samA, this]), hb⟩
  · have d0 : ((l.length : Int) == (l'.length : Int)) = false := by simp; omega
    have d1 : ((l.length : Int) != (l'.length : Int)) = true := by simp; omega
    have H : samA l l' = false := by unfold samA; rw [decide_eq_false]; rintro rfl; exact hn rfl
    rw [H]
    clear hn H
    go_enter Try.func32, Try.ntmps32
    go_wp2
    go_ret
    exact ⟨rfl, Below.refl _ _⟩

set_option maxRecDepth 100000 in
set_option maxHeartbeats 1000000 in
theorem equalFuncAc_any (A : Option Addr) (c : Nat) (l : FL) (A' : Option Addr) (c' : Nat) (l' : FL) (hz : szF l ≤ 1048576) (hz' : szF l' ≤ 1048576) (w : World) (h : RF w A l) (h' : RF w A' l') :
    Calls Try.prog 50 #[.slice A l.length c, .slice A' l'.length c', .func (.func 51) #[] #[]] w fun e w' => e = .returned (.bool (samA l l')) ∧ Below w.heap.size w w' := by
  have hl := szF_len hz
  have hl' : (l.length : Int) ≤ 1048576 := by omega
  have hl2 := szF_len hz'
  have hl2' : (l'.length : Int) ≤ 1048576 := by omega
  have HI := Lib.hid h
  have HJ := Lib.hid h'
  clear h h'
  by_cases hn : l.length = l'.length
  · have HN := Lib.hid hn
    have d0 : ((l.length : Int) == (l'.length : Int)) = true := by simp; omega
    have d1 : ((l.length : Int) != (l'.length : Int)) = false := by simp; omega
    clear hn
    go_enter Try.func50, Try.ntmps50
    go_wp2
    go_loopw [7, 8, 9, 17] (fun _ _ _ i wr => ∃ k : Nat, k ≤ l.length ∧ i = .int .i64 k ∧ l.take k = l'.take k ∧ Below w.heap.size w wr) (fun _ _ _ i _ => l.length - (intOf i).toNat)
    case atStart => exact ⟨0, by omega, rfl, rfl, Below.refl _ _⟩
    case round =>
      obtain ⟨k, hk, rfl, ha, hb⟩ := hrel
      have HA := Lib.hid ha
      clear ha
      by_cases hlt : k < l.length
      · have hlt' : k < l'.length := by have := HN.out; omega
        generalize hf : l.getD k (0, []) = f
        obtain ⟨r, xs⟩ := f
        generalize hf' : l'.getD k (0, []) = f'
        obtain ⟨r', ys⟩ := f'
        have HF := Lib.hid hf
        have HF' := Lib.hid hf'
        have hxl : xs.length ≤ 1048576 := by have := szF_elem hz hlt; rw [hf] at this; exact this
        have hyl : ys.length ≤ 1048576 := by have := szF_elem hz' hlt'; rw [hf'] at this; exact this
        obtain ⟨b, off, B, c2, rfl, n1, e0, e1, hxc, hcm, hI⟩ := (HI.out.step hb).at_ hlt hf
        obtain ⟨b', off', B', c2', rfl, n1', e0', e1', hxc', hcm', hI'⟩ := (HJ.out.step hb).at_ hlt' hf'
        have bv := step (below_alloc wr (.cells #[.int .i64 r, .slice B xs.length c2] 57)) (below_alloc _ (.cells #[.int .i64 r', .slice B' ys.length c2'] 57))
        have HX := Lib.hid (hI.step bv)
        have HY := Lib.hid (hI'.step bv)
        have HBV := Lib.hid bv
        have hk1 : (k : Int) < (l.length : Int) := by omega
        have hk2 : (k : Int) < (l'.length : Int) := by omega
        clear hI hI' hf hf' bv
        go_wp2_with fail
        refine (isSameAccess_any r r' xs ys B B' c2 c2' hxl hyl _ HX.out HY.out).mono ?_
        rintro e u ⟨he, d⟩
        have hb2 := step hb (step HBV.out d)
        clear d
        by_cases hs : sam1 r xs r' ys = true
        · rw [hs] at he
          have HS := Lib.hid hs
          subst he
          clear hs
          go_wp2
          go_roundw
          case rel => exact ⟨k + 1, by omega, by go_num, al_take _ _ HN.out k hlt HA.out HF.out HF'.out HS.out, hb2⟩
          case measure => simp [intOf]; omega
        · have HS := Lib.hid (show sam1 r xs r' ys = false by simpa using hs)
          rw [HS.out] at he
          subst he
          clear hs
          go_wp2
          go_ret
          exact ⟨ret_bool (al_differ _ _ k HF.out HF'.out HS.out).symm, hb2⟩
      · obtain rfl : k = l.length := by omega
        go_wp2
        go_ret
        exact ⟨ret_bool (by have := HA.out; rw [take_all, HN.out, take_all] at this; simp [samA, this]), hb⟩
  · have d0 : ((l.length : Int) == (l'.length : Int)) = false := by simp; omega
    have d1 : ((l.length : Int) != (l'.length : Int)) = true := by simp; omega
    have H : samA l l' = false := by unfold samA; rw [decide_eq_false]; rintro rfl; exact hn rfl
    rw [H]
    clear hn H
    go_enter Try.func50, Try.ntmps50
    go_wp2
    go_ret
    exact ⟨rfl, Below.refl _ _⟩

set_option maxRecDepth 100000 in
theorem impl_SameAccesses (A : Option Addr) (c : Nat) (l : FL) (A' : Option Addr) (c' : Nat) (l' : FL) (hz : szF l ≤ 1048576) (hz' : szF l' ≤ 1048576) (w : World) (h : RF w A l) (h' : RF w A' l') :
    Calls Try.prog 37 #[.slice A l.length c, .slice A' l'.length c'] w fun e w' => e = .returned (.bool (samA l l')) ∧ Below w.heap.size w w' := by
  go_enter Try.func37, Try.ntmps37
  go_wp2_with fail
  refine (equalFuncAc_any A c l A' c' l' hz hz' _ h h').mono ?_
  rintro e u ⟨rfl, d⟩
  go_wp2
  go_ret
  exact ⟨rfl, d⟩
end Go.Proofs.Ytnmhppiccganoaa
