/- What the two functions DecodeFixed answer. Conditions: none beyond each theorem's own. -/
import Derived.Test.YtnngpppfagiikaaDoorNum
namespace Go.Proofs.YtnngpppfagiikaaDoor
open Go.ChangeShapes Go.WideShapes Go.ChangeAt Go.RowKit

set_option linter.unusedVariables false
set_option maxHeartbeats 400000 in
theorem impl_DecodeFixed_in (s : ByteArray) (wd : Nat) (hm : s.size ≤ 140737488355328) (h1 : 1 ≤ wd) (h2 : wd ≤ 7) (h3 : wd ≤ s.size) (w : World) :
    Calls Tryd.prog 13 #[.string s, .int .i64 wd] w fun e w' => e = .returned (.tuple #[.int .i64 (decN s wd), .bool true]) ∧ w = w' := by
  go_enter Tryd.func13, Tryd.ntmps13
  go_wp2
  go_loop [6, 18] (fun n i => ∃ k : Nat, k ≤ wd ∧ i = .int .i64 k ∧ n = .int .i64 (decN s k)) (fun _ i => wd - (intOf i).toNat)
  case atStart => exact ⟨0, by omega, rfl, rfl⟩
  case round =>
    obtain ⟨k, hk, rfl, rfl⟩ := hrel
    by_cases hlt : k < wd
    · have hd := decN_le s (show k ≤ 6 by omega)
      have hb := bn_le s k
      have hg := get_bn s
      go_wp2
      go_round
      case rel => exact ⟨k + 1, by omega, by go_num, by rw [or_dec _ _ hd hb]; rfl⟩
      case measure => simp [intOf]; omega
    · obtain rfl : k = wd := by omega
      go_wp2
      go_ret2
      exact ⟨rfl, rfl⟩

def dFixN (s : ByteArray) (wd : Int) : Int := if 1 ≤ wd ∧ wd ≤ 7 ∧ wd ≤ (s.size : Int) then (decN s wd.toNat : Int) else 0
def dFixB (s : ByteArray) (wd : Int) : Bool := decide (1 ≤ wd ∧ wd ≤ 7 ∧ wd ≤ (s.size : Int))

theorem impl_DecodeFixed_out (s : ByteArray) (wd : Int) (hm : s.size ≤ 140737488355328) (hw : -9223372036854775808 ≤ wd ∧ wd ≤ 9223372036854775807) (h : wd < 1 ∨ 7 < wd ∨ (s.size : Int) < wd) (w : World) :
    Calls Tryd.prog 13 #[.string s, .int .i64 wd] w fun e w' => e = .returned (.tuple #[.int .i64 0, .bool false]) ∧ w = w' := by
  by_cases c1 : wd < 1
  · have c1' : ¬ 1 ≤ wd := by omega
    go_enter Tryd.func13, Tryd.ntmps13
    go_wp2
    go_ret2
    exact ⟨rfl, rfl⟩
  · have c1' : 1 ≤ wd := by omega
    by_cases c2 : 7 < wd
    · have c2' : ¬ wd ≤ 7 := by omega
      go_enter Tryd.func13, Tryd.ntmps13
      go_wp2
      go_ret2
      exact ⟨rfl, rfl⟩
    · have c2' : wd ≤ 7 := by omega
      have c3 : (s.size : Int) < wd := by omega
      go_enter Tryd.func13, Tryd.ntmps13
      go_wp2
      go_ret2
      exact ⟨rfl, rfl⟩

/-- What DecodeFixed answers. -/
theorem impl_DecodeFixed (s : ByteArray) (wd : Int) (hm : s.size ≤ 140737488355328) (hw : -9223372036854775808 ≤ wd ∧ wd ≤ 9223372036854775807) (w : World) :
    Calls Tryd.prog 13 #[.string s, .int .i64 wd] w fun e w' => e = .returned (.tuple #[.int .i64 (dFixN s wd), .bool (dFixB s wd)]) ∧ w = w' := by
  by_cases h : wd < 1 ∨ 7 < wd ∨ (s.size : Int) < wd
  · rw [dFixN, dFixB, if_neg (by omega), decide_eq_false (by omega)]; exact impl_DecodeFixed_out s wd hm hw h w
  · obtain ⟨b, rfl⟩ := Int.eq_ofNat_of_zero_le (show 0 ≤ wd by omega)
    rw [dFixN, dFixB, if_pos (by omega), decide_eq_true (by omega)]
    exact impl_DecodeFixed_in s b hm (by omega) (by omega) (by omega) w
end Go.Proofs.YtnngpppfagiikaaDoor
