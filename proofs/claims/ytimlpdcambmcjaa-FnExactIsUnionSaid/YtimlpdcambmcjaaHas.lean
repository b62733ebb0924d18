/- Whether two facts are the same, and whether a list has a fact. Conditions: none beyond each theorem's own. -/
import Derived.Test.YtimlpdcambmcjaaSame
namespace Go.Proofs.Ytimlpdcambmcjaa
open Go.ChangeShapes Go.WideShapes Go.ChangeAt Go.RowKit Go.Sort
set_option linter.unusedVariables false
set_option linter.unusedSimpArgs false

def sameB (r : Int) (xs : List Int) (r' : Int) (ys : List Int) : Bool := decide (r = r') && decide (xs = ys)

def hasB (l : FL) (r : Int) (xs : List Int) : Bool := l.any fun g => sameB g.1 g.2 r xs
theorem hasB_take (l : FL) (r : Int) (xs : List Int) (k : Nat) (hk : k < l.length) : hasB (l.take (k + 1)) r xs = (hasB (l.take k) r xs || sameB (l.getD k (0, [])).1 (l.getD k (0, [])).2 r xs) := by
  unfold hasB
  rw [List.take_succ_eq_append_getElem hk, List.any_append]
  simp [List.getD_eq_getElem?_getD, hk]
theorem hasB_found (l : FL) (r : Int) (xs : List Int) (k : Nat) (hk : k < l.length) (h : sameB (l.getD k (0, [])).1 (l.getD k (0, [])).2 r xs = true) : hasB l r xs = true := by
  unfold hasB
  rw [List.any_eq_true]
  refine ⟨l[k], List.getElem_mem _, ?_⟩
  have : l.getD k (0, []) = l[k] := by simp [List.getD_eq_getElem?_getD, hk]
  rw [this] at h
  exact h
theorem cmp_same (r : Int) (xs : List Int) (r' : Int) (ys : List Int) : (cmpF r xs r' ys == 0) = sameB r xs r' ys := by
  rw [Bool.eq_iff_iff]
  have := cmpF_zero r xs r' ys
  simp [sameB, this]

set_option maxRecDepth 100000 in
set_option maxHeartbeats 1000000 in
theorem spec_HasFact (A : Option Addr) (c : Nat) (l : FL) (r : Int) (xs : List Int) (A' : Option Addr) (c' : Nat) (hz : szF l ≤ 1048576) (hl2 : xs.length ≤ 1048576) (w : World) (h : RF w A l) (h' : RI w A' xs) :
    Calls Try.prog 91 #[.slice A l.length c, .agg #[.int .i64 r, .slice A' xs.length c']] w fun e w' => e = .returned (.bool (hasB l r xs)) ∧ Below w.heap.size w w' := by
  have hl := szF_len hz
  have hl' : (l.length : Int) ≤ 1048576 := by omega
  have B0 := Lib.hid (below_alloc w (.cells #[.int .i64 r, .slice A' xs.length c'] 73))
  have HI := Lib.hid (h.step B0.out)
  have HJ := Lib.hid (h'.step B0.out)
  have X0 := Lib.hid (Box.new w #[.int .i64 r, .slice A' xs.length c'] 73)
  clear h h'
  go_enter Try.func91, Try.ntmps91
  go_wp2
  go_loopw [5] (fun i wr => ∃ k : Nat, k ≤ l.length ∧ i = .int .i64 k ∧ hasB (l.take k) r xs = false ∧ Below (w.alloc (.cells #[.int .i64 r, .slice A' xs.length c'] 73)).heap.size (w.alloc (.cells #[.int .i64 r, .slice A' xs.length c'] 73)) wr) (fun i _ => l.length - (intOf i).toNat)
  case atStart => exact ⟨0, by omega, rfl, rfl, Below.refl _ _⟩
  case round =>
    obtain ⟨k, hk, rfl, ha, hb⟩ := hrel
    have HA := Lib.hid ha
    clear ha
    by_cases hlt : k < l.length
    · generalize hf : l.getD k (0, []) = f
      obtain ⟨r2, xs2⟩ := f
      have HF := Lib.hid hf
      have hxl : xs2.length ≤ 1048576 := by have := szF_elem hz hlt; rw [hf] at this; exact this
      obtain ⟨b, off, B, c2, rfl, n1, e0, e1, hxc, hcm, hI⟩ := (HI.out.step hb).at_ hlt hf
      have Z := X0.out.step hb
      have g0 := Z.cell 0
      have g1 := Z.cell 1
      simp only [List.getElem?_toArray, List.getElem?_cons_zero, List.getElem?_cons_succ] at g0 g1
      have k0 := cell_regrown e0
      have k1 := cell_regrown e1
      have k2 := cell_regrown g0
      have k3 := cell_regrown g1
      have HX := Lib.hid hI
      have HY := Lib.hid (HJ.out.step hb)
      have hk0 : (0 : Int) ≤ (k : Int) := by omega
      have hk1 : (k : Int) < (l.length : Int) := by omega
      have CS := Lib.hid (cmp_same r2 xs2 r xs)
      generalize hq : cmpF r2 xs2 r xs = q at CS
      have HQ := Lib.hid hq
      clear hI hf Z hq e0 e1 g0 g1
      have X1 := Lib.hid fun (W : World) (hW : Below wr.heap.size wr W) => (show Calls Try.prog 92 #[.agg #[.int .i64 r2, .slice B xs2.length c2], .agg #[.int .i64 r, .slice A' xs.length c']] W fun e w' => e = .returned (.int .i64 q) ∧ Below W.heap.size W w' by have := spec_CompareFacts r2 r xs2 xs B A' c2 c' (by omega) (by omega) W (HX.out.step hW) (HY.out.step hW); rw [HQ.out] at this; exact this)
      by_cases hs : q = 0
      · have d0 : (q == 0) = true := by simpa using hs
        have HS := Lib.hid (show sameB r2 xs2 r xs = true by rw [← CS.out]; exact d0)
        clear hs
        go_wp2
        refine wp_region_quiet_below (by kernel_rfl) (by kernel_rfl) ?_
        repeat (go_big_quiet_step (first | (go_at_call 92; with_reducible exact Calls.regrown_of (X1.out _ (below_regrown _ _ _)))))
        refine wpQuiet_nil ?_
        intro u hw'
        have hb2 := step hb (show Below wr.heap.size wr u by obtain ⟨⟨dq, osq⟩, rfl⟩ := hw'; exact below_regrown _ _ _)
        clear hw' k0 k1 k2 k3
        go_wp2
        go_ret
        exact ⟨ret_bool (hasB_found l r xs k hlt (by rw [HF.out]; exact HS.out)).symm, step B0.out hb2⟩
      · have d0 : (q == 0) = false := by simpa using hs
        have HS := Lib.hid (show sameB r2 xs2 r xs = false by rw [← CS.out]; exact d0)
        clear hs
        go_wp2
        refine wp_region_quiet_below (by kernel_rfl) (by kernel_rfl) ?_
        repeat (go_big_quiet_step (first | (go_at_call 92; with_reducible exact Calls.regrown_of (X1.out _ (below_regrown _ _ _)))))
        refine wpQuiet_nil ?_
        intro u hw'
        have hb2 := step hb (show Below wr.heap.size wr u by obtain ⟨⟨dq, osq⟩, rfl⟩ := hw'; exact below_regrown _ _ _)
        clear hw' k0 k1 k2 k3
        go_wp2
        go_roundw
        case rel => exact ⟨k + 1, by omega, by go_num, by rw [hasB_take _ _ _ _ hlt, HA.out, HF.out, HS.out]; rfl, hb2⟩
        case measure => simp [intOf]; omega
    · obtain rfl : k = l.length := by omega
      go_wp2
      go_ret
      exact ⟨ret_bool (by have := HA.out; rw [take_all] at this; exact this.symm), step B0.out hb⟩
end Go.Proofs.Ytimlpdcambmcjaa
