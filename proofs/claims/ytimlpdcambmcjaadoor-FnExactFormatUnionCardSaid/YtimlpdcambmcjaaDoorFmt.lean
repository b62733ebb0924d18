/- What the two functions FormatInt answer. Conditions: none beyond each theorem's own. -/
import Derived.Test.YtimlpdcambmcjaaDoorNum
import Derived.Test.YtimlpdcambmcjaaDoorShelf
import Derived.Lib.AppendIntMem
import Derived.Lib.SmallJoins
namespace Go.Proofs.YtimlpdcambmcjaaDoor
open Go.ChangeShapes Go.WideShapes Go.ChangeAt Go.RowKit
set_option linter.unusedVariables false

/-- What FormatInt answers. -/
def fmtI (n : Int) : ByteArray := ⟨(Lib.itoa n).toArray⟩
abbrev Tab (w : World) : Prop := Lib.TabIs Tryd.prog w "internal/strconv.uint64pow10" .u64 Lib.pow10Tab

set_option maxRecDepth 100000 in
theorem impl_FormatInt (n : Int) (h0 : -9223372036854775808 ≤ n) (h1 : n ≤ 9223372036854775807) (w : World) (ht : Tab w) :
    Calls Tryd.prog 56 #[.int .i64 n] w fun e w' => e = .returned (.string (fmtI n)) ∧ Below w.heap.size w w' := by
  have HT := Lib.hid ht
  clear ht
  go_enter Tryd.func56, Tryd.ntmps56
  go_wp2_with fail
  refine (Tryd.strconv_Itoa n h0 h1 _ HT.out).mono ?_
  rintro e w' ⟨rfl, k, os, rfl⟩
  go_wp2
  go_ret
  exact ⟨rfl, Lib.below_grow _ _ (Nat.le_refl _) _ _⟩

/-- The digits of u; none of 0. -/
def dd0 (u : Nat) : List UInt8 := if u = 0 then [] else Lib.decDigits u
theorem dd0_step {u : Nat} (h : u ≠ 0) : dd0 u = dd0 (u / 10) ++ [UInt8.ofNat (48 + u % 10)] := by
  unfold dd0
  rw [if_neg h]
  by_cases h1 : u < 10
  · rw [Lib.decDigits_one h1, if_pos (by omega), List.nil_append, show u % 10 = u by omega]
  · rw [Lib.decDigits, dif_neg h1, if_neg (by omega)]
theorem dd0_pos {u : Nat} (h : u ≠ 0) : dd0 u = Lib.decDigits u := by unfold dd0; rw [if_neg h]
theorem dd0_len : ∀ (k u : Nat), u < 10 ^ k → (dd0 u).length ≤ k
  | 0, u, h => by
    have : u = 0 := by simpa using h
    subst this
    simp [dd0]
  | k + 1, u, h => by
    by_cases h0 : u = 0
    · subst h0; simp [dd0]
    · rw [dd0_step h0, List.length_append]
      have := dd0_len k (u / 10) (by rw [Nat.pow_succ] at h; omega)
      simp only [List.length_cons, List.length_nil]
      omega
theorem dd0_len19 {u : Nat} (h : u ≤ 9223372036854775808) : (dd0 u).length ≤ 19 := dd0_len 19 u (Nat.lt_of_le_of_lt h (by decide))

theorem itoa_pos {u : Nat} (h : u ≠ 0) : fmtI (u : Int) = ⟨(dd0 u).toArray⟩ := by
  unfold fmtI
  rw [Lib.itoa, if_neg (by omega), Int.toNat_natCast, dd0_pos h]
theorem itoa_neg {u : Nat} (h : u ≠ 0) : fmtI (-(u : Int)) = ⟨(45 :: dd0 u).toArray⟩ := by
  unfold fmtI
  rw [Lib.itoa, if_pos (by omega), dd0_pos h, Int.natAbs_neg, Int.natAbs_natCast]

set_option maxRecDepth 100000 in
set_option maxHeartbeats 400000 in
theorem spec_FormatInt_pos (u : Nat) (h0 : u ≠ 0) (h1 : (u : Int) ≤ 9223372036854775807) (w : World) :
    Calls Tryd.prog 40 #[.int .i64 u] w fun e w' => e = .returned (.string (fmtI u)) ∧ Below w.heap.size w w' := by
  have hcv := fun (W : World) (x : Int) => conv1 Tryd.prog 69 5 9 Tryd.underlying69 Tryd.underlying5 Tryd.underlying9 W x
  have hne : ((u : Int) == 0) = false := by simp; omega
  have hlu := dd0_len19 (u := u) (by omega)
  go_enter Tryd.func40, Tryd.ntmps40
  go_wp2
  go_loopw [3, 0] (fun v c wr => ∃ (k : Nat) (l : List UInt8), v = .string ⟨l.toArray⟩ ∧ c = .int .i64 k ∧ k ≤ u ∧ Hid (dd0 k ++ l = dd0 u) ∧ Below w.heap.size w wr) (fun _ c _ => (intOf c).toNat)
  case atStart => exact ⟨u, [], rfl, rfl, Nat.le_refl _, Lib.hid (by simp), Below.refl _ _⟩
  case round =>
    obtain ⟨k, l, rfl, rfl, hk, hl, hb⟩ := hrel
    have hll : l.length ≤ 19 := by
      have := congrArg List.length hl.out
      rw [List.length_append] at this
      omega
    by_cases hk0 : k = 0
    · subst hk0
      go_wp2
      go_ret
      exact ⟨ret_str (by rw [itoa_pos h0, ← hl.out]; rfl), hb⟩
    · have hne2 : ((k : Int) != 0) = true := by simp; omega
      go_wp2
      go_roundw
      case rel => exact ⟨k / 10, (48 + UInt8.ofNat (k % 10)) :: l, by rw [show (#[48 + UInt8.ofNat (k % 10)] : Array UInt8) = [48 + UInt8.ofNat (k % 10)].toArray from rfl, ba_append]; rfl, by go_num, by omega, Lib.hid (by rw [← hl.out, dd0_step hk0, List.append_assoc, UInt8.ofNat_add]; rfl), hb.alloc hb.size _⟩
      case measure => simp [intOf]; omega

set_option maxRecDepth 100000 in
set_option maxHeartbeats 400000 in
theorem spec_FormatInt_neg (u : Nat) (h0 : u ≠ 0) (h1 : (u : Int) ≤ 9223372036854775808) (w : World) :
    Calls Tryd.prog 40 #[.int .i64 (-(u : Int))] w fun e w' => e = .returned (.string (fmtI (-(u : Int)))) ∧ Below w.heap.size w w' := by
  have hcv := fun (W : World) (x : Int) => conv1 Tryd.prog 69 5 9 Tryd.underlying69 Tryd.underlying5 Tryd.underlying9 W x
  have hne : ((-(u : Int)) == 0) = false := by simp; omega
  have hlt0 : -(u : Int) < 0 := by omega
  have hlu := dd0_len19 (u := u) (by omega)
  go_enter Tryd.func40, Tryd.ntmps40
  go_wp2
  go_loopw [3, 0, 5] (fun v c _ wr => ∃ (k : Nat) (l : List UInt8), v = .string ⟨l.toArray⟩ ∧ c = .int .i64 (-(k : Int)) ∧ k ≤ u ∧ Hid (dd0 k ++ l = dd0 u) ∧ Below w.heap.size w wr) (fun _ c _ _ => (intOf c).natAbs)
  case atStart => exact ⟨u, [], rfl, rfl, Nat.le_refl _, Lib.hid (by simp), Below.refl _ _⟩
  case round =>
    obtain ⟨k, l, rfl, rfl, hk, hl, hb⟩ := hrel
    have hll : l.length ≤ 19 := by
      have := congrArg List.length hl.out
      rw [List.length_append] at this
      omega
    by_cases hk0 : k = 0
    · subst hk0
      go_wp2
      go_ret
      exact ⟨ret_str (by rw [itoa_neg h0, ← hl.out]; rfl), hb⟩
    · have hne2 : ((-(k : Int)) != 0) = true := by simp; omega
      have e1 : (-(k : Int)).tmod 10 = -((k : Int) % 10) := by rw [Int.neg_tmod, Int.tmod_eq_emod_of_nonneg (by omega)]
      have e2 : (-(k : Int)).tdiv 10 = -((k : Int) / 10) := by rw [Int.neg_tdiv, Int.tdiv_eq_ediv_of_nonneg (by omega)]
      by_cases hd : k % 10 = 0
      · have hd1 : ¬ -((k : Int) % 10) < 0 := by omega
        go_wp2
        go_roundw
        case rel => exact ⟨k / 10, (48 + UInt8.ofNat (k % 10)) :: l, by rw [show (48 + -((k : Int) % 10)).toNat = 48 + k % 10 by omega, UInt8.ofNat_add, show (#[UInt8.ofNat 48 + UInt8.ofNat (k % 10)] : Array UInt8) = [48 + UInt8.ofNat (k % 10)].toArray from rfl, ba_append]; rfl, by go_num, by omega, Lib.hid (by rw [← hl.out, dd0_step hk0, List.append_assoc, UInt8.ofNat_add]; rfl), hb.alloc hb.size _⟩
        case measure => simp [intOf]; omega
      · have hd1 : -((k : Int) % 10) < 0 := by omega
        go_wp2
        go_roundw
        case rel => exact ⟨k / 10, (48 + UInt8.ofNat (k % 10)) :: l, by rw [show (#[48 + UInt8.ofNat (k % 10)] : Array UInt8) = [48 + UInt8.ofNat (k % 10)].toArray from rfl, ba_append]; rfl, by go_num, by omega, Lib.hid (by rw [← hl.out, dd0_step hk0, List.append_assoc, UInt8.ofNat_add]; rfl), hb.alloc hb.size _⟩
        case measure => simp [intOf]; omega

set_option maxRecDepth 100000 in
theorem spec_FormatInt_zero (w : World) :
    Calls Tryd.prog 40 #[.int .i64 0] w fun e w' => e = .returned (.string (fmtI 0)) ∧ Below w.heap.size w w' := by
  go_enter Tryd.func40, Tryd.ntmps40
  go_wp2
  go_ret
  exact ⟨ret_str (by unfold fmtI; rw [Lib.itoa, if_neg (by omega)]; rw [show Int.toNat 0 = 0 from rfl, Lib.decDigits_one (by omega)]; rfl), Below.refl _ _⟩

theorem spec_FormatInt (n : Int) (h0 : -9223372036854775808 ≤ n) (h1 : n ≤ 9223372036854775807) (w : World) :
    Calls Tryd.prog 40 #[.int .i64 n] w fun e w' => e = .returned (.string (fmtI n)) ∧ Below w.heap.size w w' := by
  by_cases hz : n = 0
  · subst hz; exact spec_FormatInt_zero w
  · by_cases hp : 0 ≤ n
    · obtain ⟨u, rfl⟩ := Int.eq_ofNat_of_zero_le hp
      exact spec_FormatInt_pos u (by omega) h1 w
    · obtain ⟨u, hu⟩ := Int.eq_ofNat_of_zero_le (show 0 ≤ -n by omega)
      obtain rfl : n = -(u : Int) := by omega
      exact spec_FormatInt_neg u (by omega) (by omega) w
end Go.Proofs.YtimlpdcambmcjaaDoor
