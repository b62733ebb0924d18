/- What the two functions SameTuples answer. Conditions: none beyond each theorem's own. -/
import Derived.Test.YtdakfcgjnmmdgaaTup
import Derived.Test.YtdakfcgjnmmdgaaIntEq
import Derived.Lib.QuietBelow
namespace Go.Proofs.Ytdakfcgjnmmdgaa
open Go.ChangeShapes Go.WideShapes Go.ChangeAt Go.RowKit Go.Sort
set_option linter.unusedVariables false
set_option linter.unusedSimpArgs false

def sameT (us bs : TL) : Bool := decide (us = bs)
theorem tl_take (us bs : TL) (hl : us.length = bs.length) (k : Nat) (hk : k < us.length) (h : us.take k = bs.take k) {xs ys : List Int} (ha : us.getD k [] = xs) (hb : bs.getD k [] = ys) (hs : xs = ys) : us.take (k + 1) = bs.take (k + 1) := by
  rw [List.take_succ_eq_append_getElem hk, List.take_succ_eq_append_getElem (by omega), h]
  have h1 : us[k] = us.getD k [] := by simp [List.getD_eq_getElem?_getD, hk]
  have h2 : bs[k]'(by omega) = bs.getD k [] := by simp [List.getD_eq_getElem?_getD, show k < bs.length by omega]
  rw [h1, h2, ha, hb, hs]
theorem tl_differ (us bs : TL) (k : Nat) {xs ys : List Int} (ha : us.getD k [] = xs) (hb : bs.getD k [] = ys) (hs : ¬ xs = ys) : sameT us bs = false := by
  unfold sameT
  rw [decide_eq_false]
  rintro rfl
  exact hs (ha.symm.trans hb)

set_option maxRecDepth 100000 in
set_option maxHeartbeats 1000000 in
theorem spec_SameTuples (A : Option Addr) (c : Nat) (l : TL) (A' : Option Addr) (c' : Nat) (l' : TL) (hz : szT l ≤ 1048576) (hz' : szT l' ≤ 1048576) (w : World) (h : RT w A l) (h' : RT w A' l') :
    Calls Try.prog 52 #[.slice A l.length c, .slice A' l'.length c'] w fun e w' => e = .returned (.bool (sameT l l')) ∧ Below w.heap.size w w' := by
  have hl := szT_len hz
  have hl' : (l.length : Int) ≤ 1048576 := by omega
  have hl2 := szT_len hz'
  have hl2' : (l'.length : Int) ≤ 1048576 := by omega
  have HI := Lib.hid h
  have HJ := Lib.hid h'
  clear h h'
  by_cases hn : l.length = l'.length
  · have HN := Lib.hid hn
    have d0 : ((l.length : Int) == (l'.length : Int)) = true := by simp; omega
    have d1 : ((l.length : Int) != (l'.length : Int)) = false := by simp; omega
    clear hn
    go_enter Try.func52, Try.ntmps52
    go_wp2
    go_loopw [5] (fun  i wr => ∃ k : Nat, k ≤ l.length ∧ i = .int .i64 k ∧ l.take k = l'.take k ∧ Below w.heap.size w wr) (fun  i _ => l.length - (intOf i).toNat)
    case atStart => exact ⟨0, by omega, rfl, rfl, Below.refl _ _⟩
    case round =>
      obtain ⟨k, hk, rfl, ha, hb⟩ := hrel
      have HA := Lib.hid ha
      clear ha
      by_cases hlt : k < l.length
      · have hlt' : k < l'.length := by have := HN.out; omega
        generalize hf : l.getD k [] = xs
        generalize hf' : l'.getD k [] = ys
        have HF := Lib.hid hf
        have HF' := Lib.hid hf'
        have hxl : xs.length ≤ 1048576 := by have := szT_elem hz hlt; rw [hf] at this; exact this
        have hyl : ys.length ≤ 1048576 := by have := szT_elem hz' hlt'; rw [hf'] at this; exact this
        obtain ⟨b, off, B, c2, rfl, n1, e1, hxc, hcm, hI⟩ := (HI.out.step hb).at_ hlt hf
        obtain ⟨b', off', B', c2', rfl, n1', e1', hxc', hcm', hI'⟩ := (HJ.out.step hb).at_ hlt' hf'
        have HX := Lib.hid hI
        have HY := Lib.hid hI'
        have hk0 : (0 : Int) ≤ (k : Int) := by omega
        have hk1 : (k : Int) < (l.length : Int) := by omega
        have hk2 : (k : Int) < (l'.length : Int) := by omega
        clear hI hI' hf hf'
        have k0 := cell_regrown e1
        have k1 := cell_regrown e1'
        have X1 := Lib.hid fun (W : World) (hW : Below wr.heap.size wr W) => l2Ints_any _ _ _ _ B B' c2 c2' xs ys (by omega) (by omega) W (HX.out.step hW) (HY.out.step hW)
        clear e1 e1'
        by_cases hs : xs = ys
        · have HS := Lib.hid hs
          have D := Lib.hid (decide_eq_true hs)
          clear hs
          rw [D.out] at X1
          go_wp2
          refine wp_region_quiet_below (by kernel_rfl) (by kernel_rfl) ?_
          repeat (go_big_quiet_step (first | (go_at_call 78; with_reducible exact Calls.regrown_of (X1.out _ (below_regrown _ _ _)))))
          refine wpQuiet_nil ?_
          intro u hw'
          have hb2 := step hb (show Below wr.heap.size wr u by obtain ⟨⟨dq, osq⟩, rfl⟩ := hw'; exact below_regrown _ _ _)
          clear hw' k0 k1
          go_wp2
          go_roundw
          case rel => exact ⟨k + 1, by omega, by go_num, tl_take _ _ HN.out k hlt HA.out HF.out HF'.out HS.out, hb2⟩
          case measure => simp [intOf]; omega
        · have HS := Lib.hid hs
          have D := Lib.hid (decide_eq_false hs)
          clear hs
          rw [D.out] at X1
          go_wp2
          refine wp_region_quiet_below (by kernel_rfl) (by kernel_rfl) ?_
          repeat (go_big_quiet_step (first | (go_at_call 78; with_reducible exact Calls.regrown_of (X1.out _ (below_regrown _ _ _)))))
          refine wpQuiet_nil ?_
          intro u hw'
          have hb2 := step hb (show Below wr.heap.size wr u by obtain ⟨⟨dq, osq⟩, rfl⟩ := hw'; exact below_regrown _ _ _)
          clear hw' k0 k1
          go_wp2
          go_ret
          exact ⟨ret_bool (tl_differ _ _ k HF.out HF'.out HS.out).symm, hb2⟩
      · obtain rfl : k = l.length := by omega
        go_wp2
        go_ret
        exact ⟨ret_bool (by have := HA.out; rw [take_all, HN.out, take_all] at this; simp [sameT, this]), hb⟩
  · have d0 : ((l.length : Int) == (l'.length : Int)) = false := by simp; omega
    have d1 : ((l.length : Int) != (l'.length : Int)) = true := by simp; omega
    have H : sameT l l' = false := by unfold sameT; rw [decide_eq_false]; rintro rfl; exact hn rfl
    rw [H]
    clear hn H
    go_enter Try.func52, Try.ntmps52
    go_wp2
    go_ret
    exact ⟨rfl, Below.refl _ _⟩

set_option maxRecDepth 100000 in
set_option maxHeartbeats 1000000 in
theorem equalFuncT_any (A : Option Addr) (c : Nat) (l : TL) (A' : Option Addr) (c' : Nat) (l' : TL) (hz : szT l ≤ 1048576) (hz' : szT l' ≤ 1048576) (w : World) (h : RT w A l) (h' : RT w A' l') :
    Calls Try.prog 83 #[.slice A l.length c, .slice A' l'.length c', .func (.func 84) #[] #[]] w fun e w' => e = .returned (.bool (sameT l l')) ∧ Below w.heap.size w w' := by
  have hl := szT_len hz
  have hl' : (l.length : Int) ≤ 1048576 := by omega
  have hl2 := szT_len hz'
  have hl2' : (l'.length : Int) ≤ 1048576 := by omega
  have HI := Lib.hid h
  have HJ := Lib.hid h'
  clear h h'
  by_cases hn : l.length = l'.length
  · have HN := Lib.hid hn
    have d0 : ((l.length : Int) == (l'.length : Int)) = true := by simp; omega
    have d1 : ((l.length : Int) != (l'.length : Int)) = false := by simp; omega
    clear hn
    go_enter Try.func83, Try.ntmps83
    go_wp2
    go_loopw [7, 8, 9, 17] (fun _ _ _ i wr => ∃ k : Nat, k ≤ l.length ∧ i = .int .i64 k ∧ l.take k = l'.take k ∧ Below w.heap.size w wr) (fun _ _ _ i _ => l.length - (intOf i).toNat)
    case atStart => exact ⟨0, by omega, rfl, rfl, Below.refl _ _⟩
    case round =>
      obtain ⟨k, hk, rfl, ha, hb⟩ := hrel
      have HA := Lib.hid ha
      clear ha
      by_cases hlt : k < l.length
      · have hlt' : k < l'.length := by have := HN.out; omega
        generalize hf : l.getD k [] = xs
        generalize hf' : l'.getD k [] = ys
        have HF := Lib.hid hf
        have HF' := Lib.hid hf'
        have hxl : xs.length ≤ 1048576 := by have := szT_elem hz hlt; rw [hf] at this; exact this
        have hyl : ys.length ≤ 1048576 := by have := szT_elem hz' hlt'; rw [hf'] at this; exact this
        obtain ⟨b, off, B, c2, rfl, n1, e1, hxc, hcm, hI⟩ := (HI.out.step hb).at_ hlt hf
        obtain ⟨b', off', B', c2', rfl, n1', e1', hxc', hcm', hI'⟩ := (HJ.out.step hb).at_ hlt' hf'
        have HX := Lib.hid hI
        have HY := Lib.hid hI'
        have hk0 : (0 : Int) ≤ (k : Int) := by omega
        have hk1 : (k : Int) < (l.length : Int) := by omega
        have hk2 : (k : Int) < (l'.length : Int) := by omega
        clear hI hI' hf hf'
        
        by_cases hs : xs = ys
        · have HS := Lib.hid hs
          have D := Lib.hid (decide_eq_true hs)
          clear hs
          go_wp2_with fail
          refine (sEqual_any _ _ _ _ B B' c2 c2' xs ys (by omega) (by omega) _ HX.out HY.out).mono ?_
          rintro e u ⟨he, d⟩
          rw [D.out] at he
          subst he
          have hb2 := step hb d
          clear d
          go_wp2
          go_roundw
          case rel => exact ⟨k + 1, by omega, by go_num, tl_take _ _ HN.out k hlt HA.out HF.out HF'.out HS.out, hb2⟩
          case measure => simp [intOf]; omega
        · have HS := Lib.hid hs
          have D := Lib.hid (decide_eq_false hs)
          clear hs
          go_wp2_with fail
          refine (sEqual_any _ _ _ _ B B' c2 c2' xs ys (by omega) (by omega) _ HX.out HY.out).mono ?_
          rintro e u ⟨he, d⟩
          rw [D.out] at he
          subst he
          have hb2 := step hb d
          clear d
          go_wp2
          go_ret
          exact ⟨ret_bool (tl_differ _ _ k HF.out HF'.out HS.out).symm, hb2⟩
      · obtain rfl : k = l.length := by omega
        go_wp2
        go_ret
        exact ⟨ret_bool (by have := HA.out; rw [take_all, HN.out, take_all] at this; simp [sameT, this]), hb⟩
  · have d0 : ((l.length : Int) == (l'.length : Int)) = false := by simp; omega
    have d1 : ((l.length : Int) != (l'.length : Int)) = true := by simp; omega
    have H : sameT l l' = false := by unfold sameT; rw [decide_eq_false]; rintro rfl; exact hn rfl
    rw [H]
    clear hn H
    go_enter Try.func83, Try.ntmps83
    go_wp2
    go_ret
    exact ⟨rfl, Below.refl _ _⟩

set_option maxRecDepth 100000 in
theorem impl_SameTuples (A : Option Addr) (c : Nat) (l : TL) (A' : Option Addr) (c' : Nat) (l' : TL) (hz : szT l ≤ 1048576) (hz' : szT l' ≤ 1048576) (w : World) (h : RT w A l) (h' : RT w A' l') :
    Calls Try.prog 53 #[.slice A l.length c, .slice A' l'.length c'] w fun e w' => e = .returned (.bool (sameT l l')) ∧ Below w.heap.size w w' := by
  go_enter Try.func53, Try.ntmps53
  go_wp2_with fail
  refine (equalFuncT_any A c l A' c' l' hz hz' _ h h').mono ?_
  rintro e u ⟨rfl, d⟩
  have D := Lib.hid d
  clear d
  go_wp2
  go_ret
  exact ⟨rfl, D.out⟩
end Go.Proofs.Ytdakfcgjnmmdgaa
