/- What the two functions EncodeHex answer. Conditions: none beyond each theorem's own. -/
import Derived.Test.YtnngpppfagiikaaEncVar
import Derived.Test.YtnngpppfagiikaaStep
import Derived.StillTailTactics
import Derived.Deep.DeepCutAuto
import Derived.Deep.RegionWith
namespace Go.Proofs.Ytnngpppfagiikaa
open Go.ChangeShapes Go.WideShapes Go.ChangeAt Go.RowKit
set_option linter.unusedVariables false

theorem l1Digit_any (k : Nat) (hk : k < 16) (w : World) :
    Calls Try.prog 23 #[.int .i64 k] w fun e w' => e = .returned (.int .u8 (hx k)) ∧ w = w' := by
  have hh := get_hx
  go_enter Try.func23, Try.ntmps23
  go_wp2
  go_ret
  exact ⟨rfl, rfl⟩

theorem l1Digit_int (x : Int) (k : Nat) (e : x = k) (hk : k < 16) (w : World) :
    Calls Try.prog 23 #[.int .i64 x] w fun e w' => e = .returned (.int .u8 (hx k)) ∧ w = w' := by
  subst e
  exact l1Digit_any k hk w

set_option maxRecDepth 100000 in
set_option maxHeartbeats 400000 in
theorem impl_EncodeHex (s : ByteArray) (hm : s.size ≤ 1048576) (w : World) :
    Calls Try.prog 18 #[.string s] w fun e w' => e = .returned (.string (hexS s)) ∧ Below w.heap.size w w' := by
  obtain ⟨i0, hi, hz0, hz1, hz2⟩ := info_parts u8_info
  have hm' : (s.size : Int) ≤ 1048576 := by omega
  have hg := get_bn s
  have hh := get_hx
  obtain ⟨C, hC, hmk⟩ : ∃ C : Array Value, C.size = 2 * s.size ∧ ∀ W : World, (Instr.makeSlice 36 (.int .i64 0) (.int .i64 (2 * (s.size : Int)))).run Try.prog W = .ok (.slice (some ⟨W.heap.size, 0, none⟩) 0 (2 * s.size)) (W.alloc (.cells C 5)) := by
    refine ⟨madeCells #[.int .u8 0] (2 * s.size), size_madeCells _ _, fun W => ?_⟩
    have h := run_make (P := Try.prog) W 36 5 i0 (.int .u8 0) Try.underlying36 hi hz0 .i64 .i64 0 (2 * (s.size : Int)) (by omega) (by omega) (by rw [hz2]; omega) (by omega)
    rw [hz1, show (2 * (s.size : Int)).toNat = 2 * s.size by omega, Nat.mul_one] at h
    exact h
  have HC := Lib.hid hC
  clear hC
  go_enter Try.func18, Try.ntmps18
  go_wp2
  go_loopw [3, 11] (fun v c wr => ∃ k : Nat, k ≤ s.size ∧ c = .int .i64 k ∧ wr.ownsRow w.heap.size 5 1 v (2 * k) ((hxs s k).map (Value.int .u8)) ∧ Below w.heap.size w wr) (fun _ c _ => s.size - (intOf c).toNat)
  case atStart => exact ⟨0, by omega, rfl, World.ownsRow_made w C _ (Nat.le_refl _) (by unfold maxLen; omega) (by rw [HC.out, Nat.mul_one]), (Below.refl _ _).alloc (Nat.le_refl _) _⟩
  case round =>
    obtain ⟨k, hk, rfl, hown, hb⟩ := hrel
    by_cases hlt : k < s.size
    · have hbk := bn_le s k
      have q0 : IntKind.u8.wrap ((bn s k : Int) / 16) = (bn s k : Int) / 16 := IntWalk.u8_in _ ⟨by omega, by omega⟩
      have q1 : (bn s k : Int) / 16 < 16 := by omega
      have q2 : 0 ≤ (bn s k : Int) / 16 := by omega
      have q3 : ((bn s k : Int) / 16).toNat = bn s k / 16 := by omega
      have r0 : IntKind.u8.wrap ((bn s k : Int) % 16) = (bn s k : Int) % 16 := IntWalk.u8_in _ ⟨by omega, by omega⟩
      have r1 : (bn s k : Int) % 16 < 16 := by omega
      have r2 : 0 ≤ (bn s k : Int) % 16 := by omega
      have r3 : ((bn s k : Int) % 16).toNat = bn s k % 16 := by omega
      have r4 : ((bn s k : Int)).tmod 16 = (bn s k : Int) % 16 := Int.tmod_eq_emod_of_nonneg (by omega)
      go_wp2
      go_region_law (refine step_app2 rfl _ _ _ 5 rfl i0 Try.underlying36 hi hz0 hz1 hz2 w.heap.size (2 * k) _ (hxs s k) _ 2 (hx (bn s k / 16) : Int) (hx (bn s k % 16) : Int) rfl rfl (by first | exact (hown.alloc _).drew | exact hown.drew.alloc _) (by first | exact (hb.alloc hb.size _).drew | exact hb.drew.alloc hb.size _) (by have := hb.size; simp; omega) (by omega) (by simp [Addr.add]) (by simp [Addr.add]) ?_; intro v' w' hown' hb')
      all_goals
        go_wp2
        go_roundw
        case rel => exact ⟨k + 1, by omega, by go_num, hown', hb'⟩
        case measure => simp [intOf]; omega
    · obtain rfl : k = s.size := by omega
      have hcv := convOwn Try.prog 36 5 9 Try.underlying36 Try.underlying5 Try.underlying9 hown
      go_wp2
      go_ret
      exact ⟨rfl, hb⟩

set_option maxRecDepth 100000 in
set_option maxHeartbeats 400000 in
theorem spec_EncodeHex (s : ByteArray) (hm : s.size ≤ 1048576) (w : World) :
    Calls Try.prog 17 #[.string s] w fun e w' => e = .returned (.string (hexS s)) ∧ Below w.heap.size w w' := by
  obtain ⟨i0, hi, hz0, hz1, hz2⟩ := info_parts u8_info
  have hm' : (s.size : Int) ≤ 1048576 := by omega
  have hg := get_bn s
  go_enter Try.func17, Try.ntmps17
  go_wp2
  go_loopw [3, 4] (fun v c wr => ∃ k : Nat, k ≤ s.size ∧ c = .int .i64 k ∧ wr.ownsRow w.heap.size 5 1 v (2 * k) ((hxs s k).map (Value.int .u8)) ∧ Below w.heap.size w wr) (fun _ c _ => s.size - (intOf c).toNat)
  case atStart => exact ⟨0, by omega, rfl, World.ownsRow_lit _ #[] 0 (Nat.le_refl _) (by unfold maxLen; omega) rfl, (Below.refl _ _).alloc (Nat.le_refl _) _⟩
  case round =>
    obtain ⟨k, hk, rfl, hown, hb⟩ := hrel
    by_cases hlt : k < s.size
    · have hbk := bn_le s k
      have q6 : IntKind.i64.wrap (bn s k : Int) = (bn s k : Int) := IntWalk.i64_in _ ⟨by omega, by omega⟩
      have q0 : IntKind.i64.wrap ((bn s k : Int) / 16) = (bn s k : Int) / 16 := IntWalk.i64_in _ ⟨by omega, by omega⟩
      have q5 : ((bn s k : Int)).tdiv 16 = (bn s k : Int) / 16 := Int.tdiv_eq_ediv_of_nonneg (by omega)
      have r0 : IntKind.i64.wrap ((bn s k : Int) % 16) = (bn s k : Int) % 16 := IntWalk.i64_in _ ⟨by omega, by omega⟩
      have r4 : ((bn s k : Int)).tmod 16 = (bn s k : Int) % 16 := Int.tmod_eq_emod_of_nonneg (by omega)
      have d1 := fun W => l1Digit_int ((bn s k : Int) / 16) (bn s k / 16) (by omega) (by omega) W
      have d2 := fun W => l1Digit_int ((bn s k : Int) % 16) (bn s k % 16) (by omega) (by omega) W
      have D1 := Lib.hid d1
      have D2 := Lib.hid d2
      clear d1 d2
      go_wp2
      go_region_law (first | (refine step_call1 rfl 23 _ _ rfl (.int .i64 ((bn s k : Int) / 16)) _ rfl (by kernel_rfl) (D1.out _) ?_) | (refine step_call1 rfl 23 _ _ rfl (.int .i64 ((bn s k : Int) % 16)) _ rfl (by kernel_rfl) (D2.out _) ?_) | (refine step_app2 rfl _ _ _ 5 rfl i0 Try.underlying36 hi hz0 hz1 hz2 w.heap.size (2 * k) _ (hxs s k) _ 2 (hx (bn s k / 16) : Int) (hx (bn s k % 16) : Int) rfl rfl (by first | exact (hown.alloc _).drew | exact hown.drew.alloc _) (by first | exact (hb.alloc hb.size _).drew | exact hb.drew.alloc hb.size _) (by have := hb.size; simp; omega) (by omega) (by simp [Addr.add]) (by simp [Addr.add]) ?_; intro v' w' hown' hb'))
      all_goals
        go_wp2
        go_roundw
        case rel => exact ⟨k + 1, by omega, by go_num, hown', hb'⟩
        case measure => simp [intOf]; omega
    · obtain rfl : k = s.size := by omega
      have hcv := convOwn Try.prog 36 5 9 Try.underlying36 Try.underlying5 Try.underlying9 hown
      go_wp2
      go_ret
      exact ⟨rfl, hb⟩

end Go.Proofs.Ytnngpppfagiikaa
