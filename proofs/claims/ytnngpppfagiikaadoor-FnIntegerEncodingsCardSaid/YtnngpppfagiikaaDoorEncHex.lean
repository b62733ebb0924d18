/- What the two functions EncodeHex answer. Conditions: none beyond each theorem's own. -/
import Derived.Test.YtnngpppfagiikaaDoorEncVar
import Derived.Test.YtnngpppfagiikaaDoorStep
import Derived.StillTailTactics
import Derived.Deep.DeepCutAuto
import Derived.Deep.RegionWith
namespace Go.Proofs.YtnngpppfagiikaaDoor
open Go.ChangeShapes Go.WideShapes Go.ChangeAt Go.RowKit
set_option linter.unusedVariables false

set_option maxRecDepth 100000 in
set_option maxHeartbeats 400000 in
theorem impl_EncodeHex (s : ByteArray) (hm : s.size ≤ 1048576) (w : World) :
    Calls Tryd.prog 15 #[.string s] w fun e w' => e = .returned (.string (hexS s)) ∧ Below w.heap.size w w' := by
  obtain ⟨i0, hi, hz0, hz1, hz2⟩ := info_parts u8_info
  have hm' : (s.size : Int) ≤ 1048576 := by omega
  have hg := get_bn s
  have hh := get_hx
  obtain ⟨C, hC, hmk⟩ : ∃ C : Array Value, C.size = 2 * s.size ∧ ∀ W : World, (Instr.makeSlice 22 (.int .i64 0) (.int .i64 (2 * (s.size : Int)))).run Tryd.prog W = .ok (.slice (some ⟨W.heap.size, 0, none⟩) 0 (2 * s.size)) (W.alloc (.cells C 5)) := by
    refine ⟨madeCells #[.int .u8 0] (2 * s.size), size_madeCells _ _, fun W => ?_⟩
    have h := run_make (P := Tryd.prog) W 22 5 i0 (.int .u8 0) Tryd.underlying22 hi hz0 .i64 .i64 0 (2 * (s.size : Int)) (by omega) (by omega) (by rw [hz2]; omega) (by omega)
    rw [hz1, show (2 * (s.size : Int)).toNat = 2 * s.size by omega, Nat.mul_one] at h
    exact h
  have HC := Lib.hid hC
  clear hC
  go_enter Tryd.func15, Tryd.ntmps15
  go_wp2
  go_loopw [3, 11] (fun v c wr => ∃ k : Nat, k ≤ s.size ∧ c = .int .i64 k ∧ wr.ownsRow w.heap.size 5 1 v (2 * k) ((hxs s k).map (Value.int .u8)) ∧ Below w.heap.size w wr) (fun _ c _ => s.size - (intOf c).toNat)
  case atStart => exact ⟨0, by omega, rfl, World.ownsRow_made w C _ (Nat.le_refl _) (by unfold maxLen; omega) (by rw [HC.out, Nat.mul_one]), (Below.refl _ _).alloc (Nat.le_refl _) _⟩
  case round =>
    obtain ⟨k, hk, rfl, hown, hb⟩ := hrel
    by_cases hlt : k < s.size
    · have hbk := bn_le s k
      have q0 : IntKind.u8.wrap ((bn s k : Int) / 16) = (bn s k : Int) / 16 := IntWalk.u8_in _ ⟨by omega, by omega⟩
      have q1 : (bn s k : Int) / 16 < 16 := by omega
      have q2 : 0 ≤ (bn s k : Int) / 16 := by omega
      have q3 : ((bn s k : Int) / 16).toNat = bn s k / 16 := by omega
      have r0 : IntKind.u8.wrap ((bn s k : Int) % 16) = (bn s k : Int) % 16 := IntWalk.u8_in _ ⟨by omega, by omega⟩
      have r1 : (bn s k : Int) % 16 < 16 := by omega
      have r2 : 0 ≤ (bn s k : Int) % 16 := by omega
      have r3 : ((bn s k : Int) % 16).toNat = bn s k % 16 := by omega
      have r4 : ((bn s k : Int)).tmod 16 = (bn s k : Int) % 16 := Int.tmod_eq_emod_of_nonneg (by omega)
      go_wp2
      go_region_law (refine step_app2 rfl _ _ _ 5 rfl i0 Tryd.underlying22 hi hz0 hz1 hz2 w.heap.size (2 * k) _ (hxs s k) _ 2 (hx (bn s k / 16) : Int) (hx (bn s k % 16) : Int) rfl rfl (by first | exact (hown.alloc _).drew | exact hown.drew.alloc _) (by first | exact (hb.alloc hb.size _).drew | exact hb.drew.alloc hb.size _) (by have := hb.size; simp; omega) (by omega) (by simp [Addr.add]) (by simp [Addr.add]) ?_; intro v' w' hown' hb')
      all_goals
        go_wp2
        go_roundw
        case rel => exact ⟨k + 1, by omega, by go_num, hown', hb'⟩
        case measure => simp [intOf]; omega
    · obtain rfl : k = s.size := by omega
      have hcv := convOwn Tryd.prog 22 5 9 Tryd.underlying22 Tryd.underlying5 Tryd.underlying9 hown
      go_wp2
      go_ret
      exact ⟨rfl, hb⟩

end Go.Proofs.YtnngpppfagiikaaDoor
