/- Lists of facts: their size, their copy, their comparison by the law. Conditions: none beyond each theorem's own. -/
import Derived.Test.YtighalbnpgmdfaaGreatCmpF
namespace Go.Proofs.YtighalbnpgmdfaaGreat
open Go.ChangeShapes Go.WideShapes Go.ChangeAt Go.RowKit
set_option linter.unusedVariables false
set_option linter.unusedSimpArgs false

abbrev FL := List (Int × List Int)
def sumN (l : FL) : Nat := (l.map fun f => f.2.length).sum
/-- How many values a list of facts holds, each fact counted, too. -/
def szF (l : FL) : Int := (l.length : Int) + (sumN l : Int)
theorem szF_nonneg (l : FL) : 0 ≤ szF l := by unfold szF; omega
theorem szF_len {l : FL} (h : szF l ≤ 1048576) : l.length ≤ 1048576 := by unfold szF at h; omega
theorem sumN_take (l : FL) (k : Nat) (hk : k < l.length) : sumN (l.take (k + 1)) = sumN (l.take k) + (l.getD k (0, [])).2.length := by
  unfold sumN
  rw [List.take_succ_eq_append_getElem hk, List.map_append, List.sum_append]
  simp [List.getD_eq_getElem?_getD, hk]
theorem sumN_le (l : FL) (k : Nat) : sumN (l.take k) ≤ sumN l := by
  have : sumN l = sumN (l.take k) + sumN (l.drop k) := by
    unfold sumN
    rw [← List.sum_append, ← List.map_append, List.take_append_drop]
  omega
theorem szF_elem {l : FL} (h : szF l ≤ 1048576) {k : Nat} (hk : k < l.length) : (l.getD k (0, [])).2.length ≤ 1048576 := by
  have h1 := sumN_take l k hk
  have h2 := sumN_le l (k + 1)
  unfold szF at h
  omega

/-- What is left, or -1. -/
def szR (left z : Int) : Int := if left - z < 0 then -1 else left - z
theorem szR_neg {left z : Int} (h : left - z < 0) : szR left z = -1 := if_pos h
theorem szR_pos {left z : Int} (h : ¬ left - z < 0) : szR left z = left - z := if_neg h

set_option maxHeartbeats 400000 in
set_option maxRecDepth 100000 in
theorem szFactS_w (A : Option Addr) (c : Nat) (l : FL) (left : Int) (hc : l.length ≤ 9223372036854775807) (h0 : 0 ≤ left) (h1 : left ≤ 1048576) (w : World) (h : RF w A l) :
    Calls Tryz.prog 6 #[.slice A l.length c, .int .i64 left] w fun e w' => e = .returned (.int .i64 (szR left (szF l))) ∧ Below w.heap.size w w' := by
  have hc' : (l.length : Int) ≤ 9223372036854775807 := by omega
  have HI := Lib.hid h
  clear h
  by_cases hb : left - (l.length : Int) < 0
  · have HE : left - szF l < 0 := by unfold szF; omega
    rw [szR_neg HE]
    clear HE
    go_enter Tryz.func6, Tryz.ntmps6
    go_wp2
    go_ret
    exact ⟨rfl, Below.refl _ _⟩
  · have hb' : (l.length : Int) ≤ left := by omega
    go_enter Tryz.func6, Tryz.ntmps6
    go_wp2
    go_loopw [1, 5] (fun z i wr => ∃ k : Nat, k ≤ l.length ∧ i = .int .i64 k ∧ z = .int .i64 (left - l.length - (sumN (l.take k) : Int)) ∧ (sumN (l.take k) : Int) ≤ left - l.length ∧ Below w.heap.size w wr) (fun _ i _ => l.length - (intOf i).toNat)
    case atStart => exact ⟨0, by omega, rfl, by simp [sumN], by simp [sumN]; omega, Below.refl _ _⟩
    case round =>
      obtain ⟨k, hk, rfl, rfl, hs, hB⟩ := hrel
      by_cases hlt : k < l.length
      · generalize hf : l.getD k (0, []) = f
        obtain ⟨r, xs⟩ := f
        have S := Lib.hid (show sumN (l.take (k + 1)) = sumN (l.take k) + xs.length by rw [sumN_take _ _ hlt, hf])
        have SL := Lib.hid (sumN_le l (k + 1))
        obtain ⟨b, off, B, c2, rfl, _, e0, e1, hxc, hcm, hI⟩ := (HI.out.step hB).at_ hlt hf
        unfold maxLen at hcm
        have HX := Lib.hid hI
        clear hI hf
        have hk0 : (0 : Int) ≤ (k : Int) := by omega
        go_wp2_with fail
        refine (szFact_any (r, xs) B c2 (left - l.length - (sumN (l.take k) : Int)) (by simp; omega) (by omega) (by omega) _).mono ?_
        rintro e u ⟨he, d⟩
        simp only at he
        have hB2 := hB.trans (d.mono hB.size)
        clear d
        by_cases hn : left - (l.length : Int) - (sumN (l.take k) : Int) - (xs.length : Int) < 0
        · rw [if_pos hn] at he
          subst he
          go_wp2
          go_ret
          exact ⟨ret_int (szR_neg (by have := S.out; have := SL.out; unfold szF; omega)).symm, hB2⟩
        · rw [if_neg hn] at he
          subst he
          have hn' : 0 ≤ left - (l.length : Int) - (sumN (l.take k) : Int) - (xs.length : Int) := by omega
          go_wp2
          go_roundw
          case rel => exact ⟨k + 1, by omega, by go_num, by rw [S.out]; congr 1; omega, by rw [S.out]; omega, hB2⟩
          case measure => simp [intOf]; omega
      · obtain rfl : k = l.length := by omega
        go_wp2
        go_ret
        exact ⟨ret_int (by rw [take_all] at hs ⊢; rw [szR_pos (by unfold szF; omega)]; unfold szF; omega), hB⟩
theorem szFactS_any (A : Option Addr) (c : Nat) (l : FL) (left : Int) (hc : l.length ≤ 9223372036854775807) (h0 : 0 ≤ left) (h1 : left ≤ 1048576) (w : World) (h : RF w A l) :
    Calls Tryz.prog 6 #[.slice A l.length c, .int .i64 left] w fun e w' => e = .returned (.int .i64 (if left - szF l < 0 then -1 else left - szF l)) ∧ Below w.heap.size w w' :=
  szFactS_w A c l left hc h0 h1 w h
end Go.Proofs.YtighalbnpgmdfaaGreat
