/- What the two functions EncodeFixed answer. Conditions: none beyond each theorem's own. -/
import Derived.Test.YtnngpppfagiikaaDoorNum
namespace Go.Proofs.YtnngpppfagiikaaDoor
open Go.ChangeShapes Go.WideShapes Go.ChangeAt Go.RowKit

set_option maxHeartbeats 400000 in
theorem spec_EncodeFixed_in (n : Nat) (wd : Nat) (hn : (n : Int) ≤ 9223372036854775807) (h1 : 1 ≤ wd) (h2 : wd ≤ 7) (w : World) :
    Calls Tryd.prog 14 #[.int .i64 n, .int .i64 wd] w fun e w' => e = .returned (.string (fixedS n wd)) ∧ Below w.heap.size w w' := by
  have hcv := fun (W : World) (x : Int) => conv1 Tryd.prog 22 5 9 Tryd.underlying22 Tryd.underlying5 Tryd.underlying9 W x
  go_enter Tryd.func14, Tryd.ntmps14
  go_wp2
  go_loopw [5, 0, 6] (fun v5 v0 v6 wr => ∃ k : Nat, k ≤ wd ∧ v5 = .string ⟨(be n k).toArray⟩ ∧ v0 = .int .i64 (dq n k) ∧ v6 = .int .i64 k ∧ Below w.heap.size w wr) (fun _ _ i _ => wd - (intOf i).toNat)
  case atStart => exact ⟨0, by omega, rfl, by rw [dq_zero], rfl, Below.refl _ _⟩
  case round =>
    obtain ⟨k, hk, rfl, rfl, rfl, hb⟩ := hrel
    have hm : dq n k ≤ n := dq_le _ _
    have hl : (be n k).length ≤ 7 := by rw [be_length]; omega
    by_cases hlt : k < wd
    · go_wp2
      go_roundw
      case rel => exact ⟨k + 1, by omega, by rw [show (#[UInt8.ofNat (dq n k % 256)] : Array UInt8) = [UInt8.ofNat (dq n k % 256)].toArray from rfl, ba_append]; rfl, by rw [dq_succ]; go_num, by go_num, hb.alloc hb.size _⟩
      case measure => simp [intOf]; omega
    · obtain rfl : k = wd := by omega
      by_cases hz : dq n k = 0
      · have hz' : ¬ 0 < dq n k := by omega
        go_wp2
        go_ret
        exact ⟨ret_str (by rw [fixedS, if_pos hz]), hb⟩
      · have hz' : 0 < dq n k := by omega
        go_wp2
        go_ret
        exact ⟨ret_str (by rw [fixedS, if_neg hz]), hb⟩

set_option maxHeartbeats 400000 in
theorem impl_EncodeFixed_1 (n : Nat) (hlt : n < 256) (w : World) :
    Calls Tryd.prog 12 #[.int .i64 n, .int .i64 (1 : Nat)] w fun e w' => e = .returned (.string (fixedS n 1)) ∧ Below w.heap.size w w' := by
  have hn : (n : Int) ≤ 9223372036854775807 := by omega
  have hm : ∀ W : World, (Instr.makeSlice 22 (.int .i64 1) (.int .i64 1)).run Tryd.prog W = .ok (.slice (some ⟨W.heap.size, 0, none⟩) 1 1) (W.alloc (.cells #[.int .u8 0] 5)) := fun _ => by kernel_rfl
  have hc : ∀ (W : World) (x0 : Int), (convert 22 9 (.slice (some ⟨W.heap.size, 0, none⟩) 1 1)).run Tryd.prog (W.alloc (.cells #[.int .u8 x0] 5)) = .ok (.string ⟨#[UInt8.ofNat x0.toNat]⟩) (W.alloc (.cells #[.int .u8 x0] 5)) := fun W x0 =>
    convL Tryd.prog 22 5 9 Tryd.underlying22 Tryd.underlying5 Tryd.underlying9 W [x0] 1 1 rfl
  go_enter Tryd.func12, Tryd.ntmps12
  go_wp2
  go_rounds 2
  go_ret
  refine ⟨ret_str ?_, (Below.refl _ _).alloc (Nat.le_refl _) _⟩
  have hz : dq n 1 = 0 := Nat.div_eq_of_lt hlt
  rw [fixedS, if_pos hz]
  simp only [be, dq]
  congr 1
  simp
  rw [Nat.mod_eq_of_lt (by omega)]

set_option maxHeartbeats 400000 in
theorem impl_EncodeFixed_2 (n : Nat) (hlt : n < 65536) (w : World) :
    Calls Tryd.prog 12 #[.int .i64 n, .int .i64 (2 : Nat)] w fun e w' => e = .returned (.string (fixedS n 2)) ∧ Below w.heap.size w w' := by
  have hn : (n : Int) ≤ 9223372036854775807 := by omega
  have hm : ∀ W : World, (Instr.makeSlice 22 (.int .i64 2) (.int .i64 2)).run Tryd.prog W = .ok (.slice (some ⟨W.heap.size, 0, none⟩) 2 2) (W.alloc (.cells #[.int .u8 0, .int .u8 0] 5)) := fun _ => by kernel_rfl
  have hc : ∀ (W : World) (x0 x1 : Int), (convert 22 9 (.slice (some ⟨W.heap.size, 0, none⟩) 2 2)).run Tryd.prog (W.alloc (.cells #[.int .u8 x0, .int .u8 x1] 5)) = .ok (.string ⟨#[UInt8.ofNat x0.toNat, UInt8.ofNat x1.toNat]⟩) (W.alloc (.cells #[.int .u8 x0, .int .u8 x1] 5)) := fun W x0 x1 =>
    convL Tryd.prog 22 5 9 Tryd.underlying22 Tryd.underlying5 Tryd.underlying9 W [x0, x1] 2 2 rfl
  go_enter Tryd.func12, Tryd.ntmps12
  go_wp2
  go_rounds 3
  go_ret
  refine ⟨ret_str ?_, (Below.refl _ _).alloc (Nat.le_refl _) _⟩
  have hz : dq n 2 = 0 := Nat.div_eq_of_lt hlt
  rw [fixedS, if_pos hz]
  simp only [be, dq]
  congr 1
  simp
  rw [Nat.mod_eq_of_lt (by omega)]

set_option maxHeartbeats 400000 in
theorem impl_EncodeFixed_3 (n : Nat) (hlt : n < 16777216) (w : World) :
    Calls Tryd.prog 12 #[.int .i64 n, .int .i64 (3 : Nat)] w fun e w' => e = .returned (.string (fixedS n 3)) ∧ Below w.heap.size w w' := by
  have hn : (n : Int) ≤ 9223372036854775807 := by omega
  have hm : ∀ W : World, (Instr.makeSlice 22 (.int .i64 3) (.int .i64 3)).run Tryd.prog W = .ok (.slice (some ⟨W.heap.size, 0, none⟩) 3 3) (W.alloc (.cells #[.int .u8 0, .int .u8 0, .int .u8 0] 5)) := fun _ => by kernel_rfl
  have hc : ∀ (W : World) (x0 x1 x2 : Int), (convert 22 9 (.slice (some ⟨W.heap.size, 0, none⟩) 3 3)).run Tryd.prog (W.alloc (.cells #[.int .u8 x0, .int .u8 x1, .int .u8 x2] 5)) = .ok (.string ⟨#[UInt8.ofNat x0.toNat, UInt8.ofNat x1.toNat, UInt8.ofNat x2.toNat]⟩) (W.alloc (.cells #[.int .u8 x0, .int .u8 x1, .int .u8 x2] 5)) := fun W x0 x1 x2 =>
    convL Tryd.prog 22 5 9 Tryd.underlying22 Tryd.underlying5 Tryd.underlying9 W [x0, x1, x2] 3 3 rfl
  go_enter Tryd.func12, Tryd.ntmps12
  go_wp2
  go_rounds 4
  go_ret
  refine ⟨ret_str ?_, (Below.refl _ _).alloc (Nat.le_refl _) _⟩
  have hz : dq n 3 = 0 := Nat.div_eq_of_lt hlt
  rw [fixedS, if_pos hz]
  simp only [be, dq]
  congr 1
  simp
  rw [Nat.mod_eq_of_lt (by omega)]

set_option maxHeartbeats 400000 in
theorem impl_EncodeFixed_4 (n : Nat) (hlt : n < 4294967296) (w : World) :
    Calls Tryd.prog 12 #[.int .i64 n, .int .i64 (4 : Nat)] w fun e w' => e = .returned (.string (fixedS n 4)) ∧ Below w.heap.size w w' := by
  have hn : (n : Int) ≤ 9223372036854775807 := by omega
  have hm : ∀ W : World, (Instr.makeSlice 22 (.int .i64 4) (.int .i64 4)).run Tryd.prog W = .ok (.slice (some ⟨W.heap.size, 0, none⟩) 4 4) (W.alloc (.cells #[.int .u8 0, .int .u8 0, .int .u8 0, .int .u8 0] 5)) := fun _ => by kernel_rfl
  have hc : ∀ (W : World) (x0 x1 x2 x3 : Int), (convert 22 9 (.slice (some ⟨W.heap.size, 0, none⟩) 4 4)).run Tryd.prog (W.alloc (.cells #[.int .u8 x0, .int .u8 x1, .int .u8 x2, .int .u8 x3] 5)) = .ok (.string ⟨#[UInt8.ofNat x0.toNat, UInt8.ofNat x1.toNat, UInt8.ofNat x2.toNat, UInt8.ofNat x3.toNat]⟩) (W.alloc (.cells #[.int .u8 x0, .int .u8 x1, .int .u8 x2, .int .u8 x3] 5)) := fun W x0 x1 x2 x3 =>
    convL Tryd.prog 22 5 9 Tryd.underlying22 Tryd.underlying5 Tryd.underlying9 W [x0, x1, x2, x3] 4 4 rfl
  go_enter Tryd.func12, Tryd.ntmps12
  go_wp2
  go_rounds 5
  go_ret
  refine ⟨ret_str ?_, (Below.refl _ _).alloc (Nat.le_refl _) _⟩
  have hz : dq n 4 = 0 := Nat.div_eq_of_lt hlt
  rw [fixedS, if_pos hz]
  simp only [be, dq]
  congr 1
  simp
  rw [Nat.mod_eq_of_lt (by omega)]

set_option maxHeartbeats 400000 in
theorem impl_EncodeFixed_5 (n : Nat) (hlt : n < 1099511627776) (w : World) :
    Calls Tryd.prog 12 #[.int .i64 n, .int .i64 (5 : Nat)] w fun e w' => e = .returned (.string (fixedS n 5)) ∧ Below w.heap.size w w' := by
  have hn : (n : Int) ≤ 9223372036854775807 := by omega
  have hm : ∀ W : World, (Instr.makeSlice 22 (.int .i64 5) (.int .i64 5)).run Tryd.prog W = .ok (.slice (some ⟨W.heap.size, 0, none⟩) 5 5) (W.alloc (.cells #[.int .u8 0, .int .u8 0, .int .u8 0, .int .u8 0, .int .u8 0] 5)) := fun _ => by kernel_rfl
  have hc : ∀ (W : World) (x0 x1 x2 x3 x4 : Int), (convert 22 9 (.slice (some ⟨W.heap.size, 0, none⟩) 5 5)).run Tryd.prog (W.alloc (.cells #[.int .u8 x0, .int .u8 x1, .int .u8 x2, .int .u8 x3, .int .u8 x4] 5)) = .ok (.string ⟨#[UInt8.ofNat x0.toNat, UInt8.ofNat x1.toNat, UInt8.ofNat x2.toNat, UInt8.ofNat x3.toNat, UInt8.ofNat x4.toNat]⟩) (W.alloc (.cells #[.int .u8 x0, .int .u8 x1, .int .u8 x2, .int .u8 x3, .int .u8 x4] 5)) := fun W x0 x1 x2 x3 x4 =>
    convL Tryd.prog 22 5 9 Tryd.underlying22 Tryd.underlying5 Tryd.underlying9 W [x0, x1, x2, x3, x4] 5 5 rfl
  go_enter Tryd.func12, Tryd.ntmps12
  go_wp2
  go_rounds 6
  go_ret
  refine ⟨ret_str ?_, (Below.refl _ _).alloc (Nat.le_refl _) _⟩
  have hz : dq n 5 = 0 := Nat.div_eq_of_lt hlt
  rw [fixedS, if_pos hz]
  simp only [be, dq]
  congr 1
  simp
  rw [Nat.mod_eq_of_lt (by omega)]

set_option maxHeartbeats 400000 in
theorem impl_EncodeFixed_6 (n : Nat) (hlt : n < 281474976710656) (w : World) :
    Calls Tryd.prog 12 #[.int .i64 n, .int .i64 (6 : Nat)] w fun e w' => e = .returned (.string (fixedS n 6)) ∧ Below w.heap.size w w' := by
  have hn : (n : Int) ≤ 9223372036854775807 := by omega
  have hm : ∀ W : World, (Instr.makeSlice 22 (.int .i64 6) (.int .i64 6)).run Tryd.prog W = .ok (.slice (some ⟨W.heap.size, 0, none⟩) 6 6) (W.alloc (.cells #[.int .u8 0, .int .u8 0, .int .u8 0, .int .u8 0, .int .u8 0, .int .u8 0] 5)) := fun _ => by kernel_rfl
  have hc : ∀ (W : World) (x0 x1 x2 x3 x4 x5 : Int), (convert 22 9 (.slice (some ⟨W.heap.size, 0, none⟩) 6 6)).run Tryd.prog (W.alloc (.cells #[.int .u8 x0, .int .u8 x1, .int .u8 x2, .int .u8 x3, .int .u8 x4, .int .u8 x5] 5)) = .ok (.string ⟨#[UInt8.ofNat x0.toNat, UInt8.ofNat x1.toNat, UInt8.ofNat x2.toNat, UInt8.ofNat x3.toNat, UInt8.ofNat x4.toNat, UInt8.ofNat x5.toNat]⟩) (W.alloc (.cells #[.int .u8 x0, .int .u8 x1, .int .u8 x2, .int .u8 x3, .int .u8 x4, .int .u8 x5] 5)) := fun W x0 x1 x2 x3 x4 x5 =>
    convL Tryd.prog 22 5 9 Tryd.underlying22 Tryd.underlying5 Tryd.underlying9 W [x0, x1, x2, x3, x4, x5] 6 6 rfl
  go_enter Tryd.func12, Tryd.ntmps12
  go_wp2
  go_rounds 7
  go_ret
  refine ⟨ret_str ?_, (Below.refl _ _).alloc (Nat.le_refl _) _⟩
  have hz : dq n 6 = 0 := Nat.div_eq_of_lt hlt
  rw [fixedS, if_pos hz]
  simp only [be, dq]
  congr 1
  simp
  rw [Nat.mod_eq_of_lt (by omega)]

set_option maxHeartbeats 400000 in
theorem impl_EncodeFixed_7 (n : Nat) (hlt : n < 72057594037927936) (w : World) :
    Calls Tryd.prog 12 #[.int .i64 n, .int .i64 (7 : Nat)] w fun e w' => e = .returned (.string (fixedS n 7)) ∧ Below w.heap.size w w' := by
  have hn : (n : Int) ≤ 9223372036854775807 := by omega
  have hm : ∀ W : World, (Instr.makeSlice 22 (.int .i64 7) (.int .i64 7)).run Tryd.prog W = .ok (.slice (some ⟨W.heap.size, 0, none⟩) 7 7) (W.alloc (.cells #[.int .u8 0, .int .u8 0, .int .u8 0, .int .u8 0, .int .u8 0, .int .u8 0, .int .u8 0] 5)) := fun _ => by kernel_rfl
  have hc : ∀ (W : World) (x0 x1 x2 x3 x4 x5 x6 : Int), (convert 22 9 (.slice (some ⟨W.heap.size, 0, none⟩) 7 7)).run Tryd.prog (W.alloc (.cells #[.int .u8 x0, .int .u8 x1, .int .u8 x2, .int .u8 x3, .int .u8 x4, .int .u8 x5, .int .u8 x6] 5)) = .ok (.string ⟨#[UInt8.ofNat x0.toNat, UInt8.ofNat x1.toNat, UInt8.ofNat x2.toNat, UInt8.ofNat x3.toNat, UInt8.ofNat x4.toNat, UInt8.ofNat x5.toNat, UInt8.ofNat x6.toNat]⟩) (W.alloc (.cells #[.int .u8 x0, .int .u8 x1, .int .u8 x2, .int .u8 x3, .int .u8 x4, .int .u8 x5, .int .u8 x6] 5)) := fun W x0 x1 x2 x3 x4 x5 x6 =>
    convL Tryd.prog 22 5 9 Tryd.underlying22 Tryd.underlying5 Tryd.underlying9 W [x0, x1, x2, x3, x4, x5, x6] 7 7 rfl
  go_enter Tryd.func12, Tryd.ntmps12
  go_wp2
  go_rounds 8
  go_ret
  refine ⟨ret_str ?_, (Below.refl _ _).alloc (Nat.le_refl _) _⟩
  have hz : dq n 7 = 0 := Nat.div_eq_of_lt hlt
  rw [fixedS, if_pos hz]
  simp only [be, dq]
  congr 1
  simp
  rw [Nat.mod_eq_of_lt (by omega)]

theorem impl_EncodeFixed_big (n wd : Nat) (hn : (n : Int) ≤ 9223372036854775807) (h1 : 1 ≤ wd) (h2 : wd ≤ 7) (hge : 256 ^ wd ≤ n) (w : World) :
    Calls Tryd.prog 12 #[.int .i64 n, .int .i64 wd] w fun e w' => e = .returned (.string ⟨#[]⟩) ∧ Below w.heap.size w w' := by
  rcases (by omega : wd = 1 ∨ wd = 2 ∨ wd = 3 ∨ wd = 4 ∨ wd = 5 ∨ wd = 6 ∨ wd = 7) with rfl | rfl | rfl | rfl | rfl | rfl | rfl
  all_goals
    simp only [Nat.reducePow] at hge
    go_enter Tryd.func12, Tryd.ntmps12
    go_wp2
    go_ret
    exact ⟨rfl, Below.refl _ _⟩

theorem impl_EncodeFixed_out (n wd : Int) (hn : -9223372036854775808 ≤ n ∧ n ≤ 9223372036854775807) (hw : -9223372036854775808 ≤ wd ∧ wd ≤ 9223372036854775807) (h : wd < 1 ∨ 7 < wd ∨ n < 0) (w : World) :
    Calls Tryd.prog 12 #[.int .i64 n, .int .i64 wd] w fun e w' => e = .returned (.string ⟨#[]⟩) ∧ Below w.heap.size w w' := by
  by_cases c1 : wd < 1
  · have c1' : ¬ 1 ≤ wd := by omega
    go_enter Tryd.func12, Tryd.ntmps12
    go_wp2
    go_ret
    exact ⟨rfl, Below.refl _ _⟩
  · have c1' : 1 ≤ wd := by omega
    by_cases c2 : 7 < wd
    · have c2' : ¬ wd ≤ 7 := by omega
      go_enter Tryd.func12, Tryd.ntmps12
      go_wp2
      go_ret
      exact ⟨rfl, Below.refl _ _⟩
    · have c2' : wd ≤ 7 := by omega
      have c3 : n < 0 := by omega
      go_enter Tryd.func12, Tryd.ntmps12
      go_wp2
      go_ret
      exact ⟨rfl, Below.refl _ _⟩

theorem spec_EncodeFixed_out (n wd : Int) (hn : -9223372036854775808 ≤ n ∧ n ≤ 9223372036854775807) (hw : -9223372036854775808 ≤ wd ∧ wd ≤ 9223372036854775807) (h : wd < 1 ∨ 7 < wd ∨ n < 0) (w : World) :
    Calls Tryd.prog 14 #[.int .i64 n, .int .i64 wd] w fun e w' => e = .returned (.string ⟨#[]⟩) ∧ Below w.heap.size w w' := by
  by_cases c1 : wd < 1
  · have c1' : ¬ 1 ≤ wd := by omega
    go_enter Tryd.func14, Tryd.ntmps14
    go_wp2
    go_ret
    exact ⟨rfl, Below.refl _ _⟩
  · have c1' : 1 ≤ wd := by omega
    by_cases c2 : 7 < wd
    · have c2' : ¬ wd ≤ 7 := by omega
      go_enter Tryd.func14, Tryd.ntmps14
      go_wp2
      go_ret
      exact ⟨rfl, Below.refl _ _⟩
    · have c2' : wd ≤ 7 := by omega
      have c3 : n < 0 := by omega
      go_enter Tryd.func14, Tryd.ntmps14
      go_wp2
      go_ret
      exact ⟨rfl, Below.refl _ _⟩

theorem fixedI_out {n wd : Int} (h : wd < 1 ∨ 7 < wd ∨ n < 0) : fixedI n wd = ⟨#[]⟩ := by
  unfold fixedI
  rw [if_neg (by omega)]
theorem fixedI_in {n wd : Nat} (h1 : 1 ≤ wd) (h2 : wd ≤ 7) : fixedI (n : Int) (wd : Int) = fixedS n wd := by
  unfold fixedI
  rw [if_pos (by omega)]
  simp
theorem fixedS_big {n wd : Nat} (h : 256 ^ wd ≤ n) : fixedS n wd = ⟨#[]⟩ := by
  unfold fixedS
  have : dq n wd ≠ 0 := by
    unfold dq
    have := Nat.div_pos h (Nat.pow_pos (by omega))
    omega
  rw [if_neg this]

theorem spec_EncodeFixed (n wd : Int) (hn : -9223372036854775808 ≤ n ∧ n ≤ 9223372036854775807) (hw : -9223372036854775808 ≤ wd ∧ wd ≤ 9223372036854775807) (w : World) :
    Calls Tryd.prog 14 #[.int .i64 n, .int .i64 wd] w fun e w' => e = .returned (.string (fixedI n wd)) ∧ Below w.heap.size w w' := by
  by_cases h : wd < 1 ∨ 7 < wd ∨ n < 0
  · rw [fixedI_out h]; exact spec_EncodeFixed_out n wd hn hw h w
  · obtain ⟨a, rfl⟩ := Int.eq_ofNat_of_zero_le (show 0 ≤ n by omega)
    obtain ⟨b, rfl⟩ := Int.eq_ofNat_of_zero_le (show 0 ≤ wd by omega)
    rw [fixedI_in (by omega) (by omega)]
    exact spec_EncodeFixed_in a b hn.2 (by omega) (by omega) w

theorem impl_EncodeFixed (n wd : Int) (hn : -9223372036854775808 ≤ n ∧ n ≤ 9223372036854775807) (hw : -9223372036854775808 ≤ wd ∧ wd ≤ 9223372036854775807) (w : World) :
    Calls Tryd.prog 12 #[.int .i64 n, .int .i64 wd] w fun e w' => e = .returned (.string (fixedI n wd)) ∧ Below w.heap.size w w' := by
  by_cases h : wd < 1 ∨ 7 < wd ∨ n < 0
  · rw [fixedI_out h]; exact impl_EncodeFixed_out n wd hn hw h w
  · obtain ⟨a, rfl⟩ := Int.eq_ofNat_of_zero_le (show 0 ≤ n by omega)
    obtain ⟨b, rfl⟩ := Int.eq_ofNat_of_zero_le (show 0 ≤ wd by omega)
    rw [fixedI_in (by omega) (by omega)]
    by_cases hb : 256 ^ b ≤ a
    · rw [fixedS_big hb]; exact impl_EncodeFixed_big a b hn.2 (by omega) (by omega) hb w
    · rcases (by omega : b = 1 ∨ b = 2 ∨ b = 3 ∨ b = 4 ∨ b = 5 ∨ b = 6 ∨ b = 7) with rfl | rfl | rfl | rfl | rfl | rfl | rfl
      · exact impl_EncodeFixed_1 a (by omega) w
      · exact impl_EncodeFixed_2 a (by omega) w
      · exact impl_EncodeFixed_3 a (by omega) w
      · exact impl_EncodeFixed_4 a (by omega) w
      · exact impl_EncodeFixed_5 a (by omega) w
      · exact impl_EncodeFixed_6 a (by omega) w
      · exact impl_EncodeFixed_7 a (by omega) w
end Go.Proofs.YtnngpppfagiikaaDoor
