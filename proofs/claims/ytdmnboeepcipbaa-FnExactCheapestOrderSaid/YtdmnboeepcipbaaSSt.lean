/- What the two functions SameSteps answer. Conditions: none beyond each theorem's own. -/
import Derived.Test.YtdmnboeepcipbaaStp
import Derived.Test.YtdmnboeepcipbaaSame
import Derived.Lib.QuietBelow
namespace Go.Proofs.Ytdmnboeepcipbaa
open Go.ChangeShapes Go.WideShapes Go.ChangeAt Go.RowKit Go.Sort
set_option linter.unusedVariables false
set_option linter.unusedSimpArgs false

set_option maxRecDepth 100000 in
theorem fields_step : Try.prog.fieldsOf 111 = #[{ name := "Atom", type := 3, offset := 0, embedded := false, tag := "", pkgPath := "", byteOffset := 0 }, { name := "Method", type := 3, offset := 1, embedded := false, tag := "", pkgPath := "", byteOffset := 8 }] := by kernel_rfl
set_option maxRecDepth 100000 in
theorem neq_stepT (a b a' b' : Int) (w : World) : (binOp .neq 111 (.agg #[.int .i64 a, .int .i64 b]) (.agg #[.int .i64 a', .int .i64 b'])).run Try.prog w = .ok (.bool (!(a == a' && b == b'))) w := by
  rw [run_neq_struct, run_equalIn_agg w 9999 111 _ _ (by kernel_rfl) (by kernel_rfl), fields_step]
  have h3 := Try.underlying3
  by_cases h1 : a = a' <;> by_cases h2 : b = b' <;> simp [Op.eqFields, go_sem, h3, h1, h2]
set_option maxRecDepth 100000 in
theorem eq_stepT (a b a' b' : Int) (w : World) : (binOp .eql 111 (.agg #[.int .i64 a, .int .i64 b]) (.agg #[.int .i64 a', .int .i64 b'])).run Try.prog w = .ok (.bool (a == a' && b == b')) w := by
  rw [run_eql_struct, run_equalIn_agg w 9999 111 _ _ (by kernel_rfl) (by kernel_rfl), fields_step]
  have h3 := Try.underlying3
  by_cases h1 : a = a' <;> by_cases h2 : b = b' <;> simp [Op.eqFields, go_sem, h3, h1, h2]
theorem stp_take (us bs : SL) (hl : us.length = bs.length) (k : Nat) (hk : k < us.length) (h : us.take k = bs.take k) {r x r' x' : Int} (ha : us.getD k (0, 0) = (r, x)) (hb : bs.getD k (0, 0) = (r', x')) (hs : r = r' ∧ x = x') : us.take (k + 1) = bs.take (k + 1) := by
  rw [List.take_succ_eq_append_getElem hk, List.take_succ_eq_append_getElem (by omega), h]
  have h1 : us[k] = us.getD k (0, 0) := by simp [List.getD_eq_getElem?_getD, hk]
  have h2 : bs[k]'(by omega) = bs.getD k (0, 0) := by simp [List.getD_eq_getElem?_getD, show k < bs.length by omega]
  rw [h1, h2, ha, hb, hs.1, hs.2]
theorem stp_differ (us bs : SL) (k : Nat) {r x r' x' : Int} (ha : us.getD k (0, 0) = (r, x)) (hb : bs.getD k (0, 0) = (r', x')) (hs : ¬ (r = r' ∧ x = x')) : decide (us = bs) = false := by
  rw [decide_eq_false]
  rintro rfl
  rw [ha] at hb
  injection hb with h1 h2
  exact hs ⟨h1, h2⟩

set_option maxRecDepth 100000 in
set_option maxHeartbeats 1000000 in
theorem spec_SameSteps (A : Option Addr) (c : Nat) (l : SL) (A' : Option Addr) (c' : Nat) (l' : SL) (hl : l.length ≤ 1048576) (hl2 : l'.length ≤ 1048576) (w : World) (h : RZ w A l) (h' : RZ w A' l') :
    Calls Try.prog 57 #[.slice A l.length c, .slice A' l'.length c'] w fun e w' => e = .returned (.bool (decide (l = l'))) ∧ Below w.heap.size w w' := by
  have hl' : (l.length : Int) ≤ 1048576 := by omega
  have hl2' : (l'.length : Int) ≤ 1048576 := by omega
  have HI := Lib.hid h
  have HJ := Lib.hid h'
  clear h h'
  by_cases hn : l.length = l'.length
  · have HN := Lib.hid hn
    have d0 : ((l.length : Int) == (l'.length : Int)) = true := by simp; omega
    have d1 : ((l.length : Int) != (l'.length : Int)) = false := by simp; omega
    clear hn
    go_enter Try.func57, Try.ntmps57
    go_wp2
    go_loopw [5] (fun i wr => ∃ k : Nat, k ≤ l.length ∧ i = .int .i64 k ∧ l.take k = l'.take k ∧ Below w.heap.size w wr) (fun i _ => l.length - (intOf i).toNat)
    case atStart => exact ⟨0, by omega, rfl, rfl, Below.refl _ _⟩
    case round =>
      obtain ⟨k, hk, rfl, ha, hb⟩ := hrel
      have HA := Lib.hid ha
      clear ha
      by_cases hlt : k < l.length
      · have hlt' : k < l'.length := by have := HN.out; omega
        generalize hf : l.getD k (0, 0) = f
        obtain ⟨r, x⟩ := f
        generalize hf' : l'.getD k (0, 0) = f'
        obtain ⟨r', x'⟩ := f'
        have HF := Lib.hid hf
        have HF' := Lib.hid hf'
        obtain ⟨b, off, rfl, n1, e0, e1⟩ := (HI.out.step hb).at_ hlt hf
        obtain ⟨b', off', rfl, n1', e0', e1'⟩ := (HJ.out.step hb).at_ hlt' hf'
        have hk0 : (0 : Int) ≤ (k : Int) := by omega
        have hk1 : (k : Int) < (l.length : Int) := by omega
        have hk2 : (k : Int) < (l'.length : Int) := by omega
        have NQ := neq_stepT r x r' x'
        clear hf hf'
        by_cases hs : r = r' ∧ x = x'
        · have HS := Lib.hid hs
          have d5 : (r == r' && x == x') = true := by simp [hs.1, hs.2]
          clear hs
          go_wp2
          go_quiet (fail)
          go_wp2
          go_roundw
          case rel => exact ⟨k + 1, by omega, by go_num, stp_take _ _ HN.out k hlt HA.out HF.out HF'.out HS.out, by first | exact hb | exact below_drewN hb _ | exact hb.drew⟩
          case measure => simp [intOf]; omega
        · have HS := Lib.hid hs
          have d5 : (r == r' && x == x') = false := by simp; intro h1 h2; exact hs ⟨h1, h2⟩
          clear hs
          go_wp2
          go_quiet (fail)
          go_wp2
          go_ret
          exact ⟨ret_bool (stp_differ _ _ k HF.out HF'.out HS.out).symm, by first | exact hb | exact below_drewN hb _ | exact hb.drew⟩
      · obtain rfl : k = l.length := by omega
        go_wp2
        go_ret
        exact ⟨ret_bool (by have := HA.out; rw [take_all, HN.out, take_all] at this; simp [this]), hb⟩
  · have d0 : ((l.length : Int) == (l'.length : Int)) = false := by simp; omega
    have d1 : ((l.length : Int) != (l'.length : Int)) = true := by simp; omega
    have H : decide (l = l') = false := by rw [decide_eq_false]; rintro rfl; exact hn rfl
    rw [H]
    clear hn H
    go_enter Try.func57, Try.ntmps57
    go_wp2
    go_ret
    exact ⟨rfl, Below.refl _ _⟩

set_option maxRecDepth 100000 in
set_option maxHeartbeats 1000000 in
theorem sEqualZ_any (A : Option Addr) (c : Nat) (l : SL) (A' : Option Addr) (c' : Nat) (l' : SL) (hl : l.length ≤ 1048576) (hl2 : l'.length ≤ 1048576) (w : World) (h : RZ w A l) (h' : RZ w A' l') :
    Calls Try.prog 98 #[.slice A l.length c, .slice A' l'.length c'] w fun e w' => e = .returned (.bool (decide (l = l'))) ∧ Below w.heap.size w w' := by
  have hl' : (l.length : Int) ≤ 1048576 := by omega
  have hl2' : (l'.length : Int) ≤ 1048576 := by omega
  have HI := Lib.hid h
  have HJ := Lib.hid h'
  clear h h'
  by_cases hn : l.length = l'.length
  · have HN := Lib.hid hn
    have d0 : ((l.length : Int) == (l'.length : Int)) = true := by simp; omega
    have d1 : ((l.length : Int) != (l'.length : Int)) = false := by simp; omega
    clear hn
    go_enter Try.func98, Try.ntmps98
    go_wp2
    go_loopw [5, 13] (fun _ i wr => ∃ k : Nat, k ≤ l.length ∧ i = .int .i64 k ∧ l.take k = l'.take k ∧ Below w.heap.size w wr) (fun _ i _ => l.length - (intOf i).toNat)
    case atStart => exact ⟨0, by omega, rfl, rfl, Below.refl _ _⟩
    case round =>
      obtain ⟨k, hk, rfl, ha, hb⟩ := hrel
      have HA := Lib.hid ha
      clear ha
      by_cases hlt : k < l.length
      · have hlt' : k < l'.length := by have := HN.out; omega
        generalize hf : l.getD k (0, 0) = f
        obtain ⟨r, x⟩ := f
        generalize hf' : l'.getD k (0, 0) = f'
        obtain ⟨r', x'⟩ := f'
        have HF := Lib.hid hf
        have HF' := Lib.hid hf'
        obtain ⟨b, off, rfl, n1, e0, e1⟩ := (HI.out.step hb).at_ hlt hf
        obtain ⟨b', off', rfl, n1', e0', e1'⟩ := (HJ.out.step hb).at_ hlt' hf'
        have hk0 : (0 : Int) ≤ (k : Int) := by omega
        have hk1 : (k : Int) < (l.length : Int) := by omega
        have hk2 : (k : Int) < (l'.length : Int) := by omega
        have NQ := neq_stepT r x r' x'
        clear hf hf'
        by_cases hs : r = r' ∧ x = x'
        · have HS := Lib.hid hs
          have d5 : (r == r' && x == x') = true := by simp [hs.1, hs.2]
          clear hs
          go_wp2
          go_quiet (fail)
          go_wp2
          go_roundw
          case rel => exact ⟨k + 1, by omega, by go_num, stp_take _ _ HN.out k hlt HA.out HF.out HF'.out HS.out, by first | exact hb | exact below_drewN hb _ | exact hb.drew⟩
          case measure => simp [intOf]; omega
        · have HS := Lib.hid hs
          have d5 : (r == r' && x == x') = false := by simp; intro h1 h2; exact hs ⟨h1, h2⟩
          clear hs
          go_wp2
          go_quiet (fail)
          go_wp2
          go_ret
          exact ⟨ret_bool (stp_differ _ _ k HF.out HF'.out HS.out).symm, by first | exact hb | exact below_drewN hb _ | exact hb.drew⟩
      · obtain rfl : k = l.length := by omega
        go_wp2
        go_ret
        exact ⟨ret_bool (by have := HA.out; rw [take_all, HN.out, take_all] at this; simp [this]), hb⟩
  · have d0 : ((l.length : Int) == (l'.length : Int)) = false := by simp; omega
    have d1 : ((l.length : Int) != (l'.length : Int)) = true := by simp; omega
    have H : decide (l = l') = false := by rw [decide_eq_false]; rintro rfl; exact hn rfl
    rw [H]
    clear hn H
    go_enter Try.func98, Try.ntmps98
    go_wp2
    go_ret
    exact ⟨rfl, Below.refl _ _⟩

set_option maxRecDepth 100000 in
theorem impl_SameSteps (A : Option Addr) (c : Nat) (l : SL) (A' : Option Addr) (c' : Nat) (l' : SL) (hl : l.length ≤ 1048576) (hl2 : l'.length ≤ 1048576) (w : World) (h : RZ w A l) (h' : RZ w A' l') :
    Calls Try.prog 58 #[.slice A l.length c, .slice A' l'.length c'] w fun e w' => e = .returned (.bool (decide (l = l'))) ∧ Below w.heap.size w w' := by
  go_enter Try.func58, Try.ntmps58
  go_wp2_with fail
  refine (sEqualZ_any A c l A' c' l' hl hl2 _ h h').mono ?_
  rintro e u ⟨rfl, d⟩
  go_wp2
  go_ret
  exact ⟨rfl, d⟩
end Go.Proofs.Ytdmnboeepcipbaa
