/- What the two functions that compare lists of numbers answer. Conditions: none beyond each theorem's own. -/
import Derived.Test.YtpdmkdhnidgjoaaEqList
namespace Go.Proofs.Ytpdmkdhnidgjoaa
open Go.ChangeShapes Go.WideShapes Go.ChangeAt Go.RowKit Go.Sort
set_option linter.unusedVariables false
set_option linter.unusedSimpArgs false

set_option maxRecDepth 100000 in
set_option maxHeartbeats 1000000 in
theorem l2Ints_any (lo hi lo' hi' : Nat) (A A' : Option Addr) (c c' : Nat) (xs ys : List Int) (hl : xs.length ≤ 140737488355328) (hl2 : ys.length ≤ 140737488355328) (w : World) (h : Ints w lo hi A xs) (h' : Ints w lo' hi' A' ys) :
    Calls Try.prog 59 #[.slice A xs.length c, .slice A' ys.length c'] w fun e w' => e = .returned (.bool (decide (xs = ys))) ∧ Below w.heap.size w w' := by
  by_cases hlen : xs.length = ys.length
  · have HI := Lib.hid h
    have HJ := Lib.hid h'
    have HL := Lib.hid hlen
    clear h h'
    have hl' : (xs.length : Int) ≤ 140737488355328 := by omega
    rw [← hlen]
    clear hlen
    go_enter Try.func59, Try.ntmps59
    go_wp2
    go_loopw [5] (fun i wr => ∃ k : Nat, k ≤ xs.length ∧ i = .int .i64 k ∧ xs.take k = ys.take k ∧ Below w.heap.size w wr ∧ wr.heap = w.heap) (fun i _ => xs.length - (intOf i).toNat)
    case atStart => exact ⟨0, by omega, rfl, rfl, Below.refl _ _, rfl⟩
    case round =>
      obtain ⟨k, hk, rfl, ha, hb, hh⟩ := hrel
      have HA := Lib.hid ha
      have HH := Lib.hid hh
      clear ha hh
      by_cases hlt : k < xs.length
      · have HI1 : Ints wr lo hi A xs := HI.out.keep fun b _ _ => by rw [HH.out]
        have HJ1 : Ints wr lo' hi' A' ys := HJ.out.keep fun b _ _ => by rw [HH.out]
        obtain ⟨b, off, rfl, _, _, hc⟩ := HI1.at_ hlt
        obtain ⟨b', off', rfl, _, _, hc'⟩ := HJ1.at_ (show k < ys.length by have := HL.out; omega)
        generalize hx : xs.getD k 0 = x at hc
        generalize hy : ys.getD k 0 = y at hc'
        have HX := Lib.hid hx
        have HY := Lib.hid hy
        clear hx hy HI1 HJ1
        have hk0 : (0 : Int) ≤ (k : Int) := by omega
        have hk1 : (k : Int) < (xs.length : Int) := by omega
        by_cases hin : x = y
        · subst hin
          go_wp2
          go_quiet (fail)
          go_wp2
          go_roundw
          case rel => exact ⟨k + 1, by omega, by go_num, eq_take _ _ HL.out _ hlt HA.out (by rw [HX.out, HY.out]), below_drewN hb _, HH.out⟩
          case measure => simp [intOf]; omega
        · have hd : (x == y) = false := by simpa using hin
          have hd2 : (x != y) = true := by simpa using hin
          go_wp2
          go_quiet (fail)
          go_wp2
          go_ret
          exact ⟨ret_bool (by rw [decide_eq_false]; rintro rfl; exact hin (HX.out.symm.trans HY.out)), below_drewN hb _⟩
      · obtain rfl : k = xs.length := by omega
        go_wp2
        go_ret
        exact ⟨ret_bool (by rw [decide_eq_true]; have := HA.out; rwa [take_all, HL.out, take_all] at this), hb⟩
  · have hd : ((xs.length : Int) == (ys.length : Int)) = false := by simp; omega
    have hd2 : ((xs.length : Int) != (ys.length : Int)) = true := by simp; omega
    have H := Lib.hid hlen
    clear hlen
    go_enter Try.func59, Try.ntmps59
    go_wp2
    go_ret
    exact ⟨ret_bool (by rw [decide_eq_false]; rintro rfl; exact H.out rfl), Below.refl _ _⟩

set_option maxRecDepth 100000 in
set_option maxHeartbeats 1000000 in
theorem sEqual_any (lo hi lo' hi' : Nat) (A A' : Option Addr) (c c' : Nat) (xs ys : List Int) (hl : xs.length ≤ 140737488355328) (hl2 : ys.length ≤ 140737488355328) (w : World) (h : Ints w lo hi A xs) (h' : Ints w lo' hi' A' ys) :
    Calls Try.prog 62 #[.slice A xs.length c, .slice A' ys.length c'] w fun e w' => e = .returned (.bool (decide (xs = ys))) ∧ Below w.heap.size w w' := by
  by_cases hlen : xs.length = ys.length
  · have HI := Lib.hid h
    have HJ := Lib.hid h'
    have HL := Lib.hid hlen
    clear h h'
    have hl' : (xs.length : Int) ≤ 140737488355328 := by omega
    rw [← hlen]
    clear hlen
    go_enter Try.func62, Try.ntmps62
    go_wp2
    go_loopw [5, 13] (fun _ i wr => ∃ k : Nat, k ≤ xs.length ∧ i = .int .i64 k ∧ xs.take k = ys.take k ∧ Below w.heap.size w wr ∧ wr.heap = w.heap) (fun _ i _ => xs.length - (intOf i).toNat)
    case atStart => exact ⟨0, by omega, rfl, rfl, Below.refl _ _, rfl⟩
    case round =>
      obtain ⟨k, hk, rfl, ha, hb, hh⟩ := hrel
      have HA := Lib.hid ha
      have HH := Lib.hid hh
      clear ha hh
      by_cases hlt : k < xs.length
      · have HI1 : Ints wr lo hi A xs := HI.out.keep fun b _ _ => by rw [HH.out]
        have HJ1 : Ints wr lo' hi' A' ys := HJ.out.keep fun b _ _ => by rw [HH.out]
        obtain ⟨b, off, rfl, _, _, hc⟩ := HI1.at_ hlt
        obtain ⟨b', off', rfl, _, _, hc'⟩ := HJ1.at_ (show k < ys.length by have := HL.out; omega)
        generalize hx : xs.getD k 0 = x at hc
        generalize hy : ys.getD k 0 = y at hc'
        have HX := Lib.hid hx
        have HY := Lib.hid hy
        clear hx hy HI1 HJ1
        have hk0 : (0 : Int) ≤ (k : Int) := by omega
        have hk1 : (k : Int) < (xs.length : Int) := by omega
        by_cases hin : x = y
        · subst hin
          go_wp2
          go_quiet (fail)
          go_wp2
          go_roundw
          case rel => exact ⟨k + 1, by omega, by go_num, eq_take _ _ HL.out _ hlt HA.out (by rw [HX.out, HY.out]), below_drewN hb _, HH.out⟩
          case measure => simp [intOf]; omega
        · have hd : (x == y) = false := by simpa using hin
          have hd2 : (x != y) = true := by simpa using hin
          go_wp2
          go_quiet (fail)
          go_wp2
          go_ret
          exact ⟨ret_bool (by rw [decide_eq_false]; rintro rfl; exact hin (HX.out.symm.trans HY.out)), below_drewN hb _⟩
      · obtain rfl : k = xs.length := by omega
        go_wp2
        go_ret
        exact ⟨ret_bool (by rw [decide_eq_true]; have := HA.out; rwa [take_all, HL.out, take_all] at this), hb⟩
  · have hd : ((xs.length : Int) == (ys.length : Int)) = false := by simp; omega
    have hd2 : ((xs.length : Int) != (ys.length : Int)) = true := by simp; omega
    have H := Lib.hid hlen
    clear hlen
    go_enter Try.func62, Try.ntmps62
    go_wp2
    go_ret
    exact ⟨ret_bool (by rw [decide_eq_false]; rintro rfl; exact H.out rfl), Below.refl _ _⟩

end Go.Proofs.Ytpdmkdhnidgjoaa
