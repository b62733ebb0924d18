/- What the two functions DecodeVarint answer. Conditions: none beyond each theorem's own. -/
import Derived.Test.YtnngpppfagiikaaDoorDecVarMath
import Derived.Test.YtnngpppfagiikaaDoorEncVar
import Derived.Deep.RegionWith
import Derived.Deep.DeepCutAuto
import Derived.Deep.RegionHeld3
namespace Go.Proofs.YtnngpppfagiikaaDoor
open Go.ChangeShapes Go.WideShapes Go.ChangeAt Go.RowKit
set_option linter.unusedVariables false

theorem or_va0b (s : ByteArray) : bits .or .i64 ((va s 0 0 : Nat) : Int) ((bn s 0 : Int) % 128) = ((va s 0 1 : Nat) : Int) := by
  have hb := bn_le s 0
  rw [show ((bn s 0 : Int) % 128) = ((bn s 0 % 128 : Nat) : Int) by omega, i64_or_nat _ _ (by simp [va]) (by omega)]
  simp [va]
theorem or_va0a (s : ByteArray) (h : bn s 0 = 0) : bits .or .i64 ((va s 0 0 : Nat) : Int) 0 = ((va s 0 1 : Nat) : Int) := by
  have := or_va0b s
  rwa [show ((bn s 0 : Int) % 128) = 0 by omega] at this
theorem eq_good (s : ByteArray) {k : Nat} (h : k ≤ 7) : ((varI (va s 0 k)).toList == (s.extract 0 k).toList) = decide (good s k) := by
  have hv := va_le s 0 h
  rw [ByteArray.toList_eq, ByteArray.toList_eq, varI, if_pos (by omega)]
  have e1 : (s.extract 0 k).data.toList = tk s k := by simp [tk]
  rw [e1, Int.toNat_natCast]
  show (vb (va s 0 k) == tk s k) = _
  rw [Bool.eq_iff_iff, decide_eq_true_iff]
  exact beq_iff_eq
theorem ret_ii {a b c d : Int} (h : a = b) (k : c = d) : Ending.returned (.tuple #[.int .i64 a, .int .i64 c]) = .returned (.tuple #[.int .i64 b, .int .i64 d]) := by rw [h, k]
theorem or_va (s : ByteArray) (k : Nat) (hk : k ≤ 6) : bits .or .i64 ((va s 0 k : Nat) : Int) (wrap64 ((bn s k : Int) % 128 * 2 ^ (7 * k))) = ((va s 0 (k + 1) : Nat) : Int) := by
  have e : 128 ^ k = 2 ^ (7 * k) := by rw [Nat.pow_mul]
  have h2 : 128 ^ k ≤ 128 ^ 6 := Nat.pow_le_pow_right (by omega) hk
  have ha := va_lt s k 0
  simp only [Nat.reducePow] at h2
  have hm : bn s k % 128 * 128 ^ k ≤ 127 * 4398046511104 := Nat.mul_le_mul (by omega) h2
  have e2 : (bn s k : Int) % 128 * 2 ^ (7 * k) = ((bn s k % 128 * 128 ^ k : Nat) : Int) := by
    rw [e, Int.natCast_mul, Int.natCast_pow]; rfl
  rw [e2, IntWalk.wrap64_in _ ⟨by omega, by omega⟩, i64_or_nat _ _ (by omega) (by omega)]
  rw [Nat.or_comm, e, or_low (bn s k % 128) _ (7 * k) (by rw [← e]; exact ha), va_top, Nat.zero_add, ← e, Nat.add_comm]

set_option maxRecDepth 100000 in
set_option maxHeartbeats 400000 in
theorem impl_DecodeVarint (s : ByteArray) (hm : s.size ≤ 140737488355328) (w : World) :
    Calls Tryd.prog 10 #[.string s] w fun e w' => e = .returned (.tuple #[.int .i64 (dvN s), .int .i64 (dvK s)]) ∧ w = w' := by
  have hg := get_bn s
  by_cases h7 : s.size ≤ 7
  · go_enter Tryd.func10, Tryd.ntmps10
    go_wp2
    go_loop [4, 9] (fun n i => ∃ k : Nat, k ≤ s.size ∧ i = .int .i64 k ∧ n = .int .i64 (va s 0 k) ∧ Hid (∀ j, j < k → 128 ≤ bn s j)) (fun _ i => s.size - (intOf i).toNat)
    case atStart => exact ⟨0, by omega, rfl, rfl, Lib.hid (by omega)⟩
    case round =>
      obtain ⟨k, hk, rfl, rfl, hH⟩ := hrel
      by_cases hlt : k < s.size
      · have hd := va_le6 s 0 (show k ≤ 6 by omega)
        have hb := bn_le s k
        have hks : k < s.size := by omega
        by_cases hbig : 128 ≤ bn s k
        · go_wp2
          go_round
          case rel => exact ⟨k + 1, by omega, by go_num, by rw [or_va s k (by omega)], Lib.hid (by
            intro j hj
            by_cases e : j = k
            · rw [e]; exact hbig
            · exact hH.out j (by omega))⟩
          case measure => simp [intOf]; omega
        · have hl : bn s k < 128 := by omega
          by_cases hk0 : k = 0
          · have e := dvK_hit hks (by omega) (fun j hj => hH.out j hj) hl (Or.inl hk0)
            have E := Lib.hid e
            subst hk0
            clear e
            go_wp2
            all_goals
              go_ret2
              exact ⟨ret_ii (by first | (rw [or_va0a s (by assumption), dvN, E.out]) | (rw [or_va0b, dvN, E.out])) (by rw [E.out]; rfl), rfl⟩
          · by_cases h0 : bn s k = 0
            · have e := dvK_bad hks (fun j hj => hH.out j hj) hl (by omega)
              have E := Lib.hid e
              clear e
              go_wp2
              all_goals
                go_ret2
                exact ⟨ret_ii (by rw [dvN, E.out]; rfl) (by rw [E.out]; rfl), rfl⟩
            · have e := dvK_hit hks (by omega) (fun j hj => hH.out j hj) hl (Or.inr h0)
              have E := Lib.hid e
              clear e
              go_wp2
              all_goals
                go_ret2
                exact ⟨ret_ii (by rw [or_va s k (by omega), dvN, E.out]) (by rw [E.out]; go_num), rfl⟩
      · have e := dvK_none (s := s) (fun j hj h7 => hH.out j (by omega))
        have E := Lib.hid e
        clear e
        go_wp2
        go_ret2
        exact ⟨ret_ii (by rw [dvN, E.out]; rfl) (by rw [E.out]; rfl), rfl⟩
  · go_enter Tryd.func10, Tryd.ntmps10
    go_wp2
    go_loop [4, 9] (fun n i => ∃ k : Nat, k ≤ 7 ∧ i = .int .i64 k ∧ n = .int .i64 (va s 0 k) ∧ Hid (∀ j, j < k → 128 ≤ bn s j)) (fun _ i => 7 - (intOf i).toNat)
    case atStart => exact ⟨0, by omega, rfl, rfl, Lib.hid (by omega)⟩
    case round =>
      obtain ⟨k, hk, rfl, rfl, hH⟩ := hrel
      by_cases hlt : k < 7
      · have hd := va_le6 s 0 (show k ≤ 6 by omega)
        have hb := bn_le s k
        have hks : k < s.size := by omega
        by_cases hbig : 128 ≤ bn s k
        · go_wp2
          go_round
          case rel => exact ⟨k + 1, by omega, by go_num, by rw [or_va s k (by omega)], Lib.hid (by
            intro j hj
            by_cases e : j = k
            · rw [e]; exact hbig
            · exact hH.out j (by omega))⟩
          case measure => simp [intOf]; omega
        · have hl : bn s k < 128 := by omega
          by_cases hk0 : k = 0
          · have e := dvK_hit hks (by omega) (fun j hj => hH.out j hj) hl (Or.inl hk0)
            have E := Lib.hid e
            subst hk0
            clear e
            go_wp2
            all_goals
              go_ret2
              exact ⟨ret_ii (by first | (rw [or_va0a s (by assumption), dvN, E.out]) | (rw [or_va0b, dvN, E.out])) (by rw [E.out]; rfl), rfl⟩
          · by_cases h0 : bn s k = 0
            · have e := dvK_bad hks (fun j hj => hH.out j hj) hl (by omega)
              have E := Lib.hid e
              clear e
              go_wp2
              all_goals
                go_ret2
                exact ⟨ret_ii (by rw [dvN, E.out]; rfl) (by rw [E.out]; rfl), rfl⟩
            · have e := dvK_hit hks (by omega) (fun j hj => hH.out j hj) hl (Or.inr h0)
              have E := Lib.hid e
              clear e
              go_wp2
              all_goals
                go_ret2
                exact ⟨ret_ii (by rw [or_va s k (by omega), dvN, E.out]) (by rw [E.out]; go_num), rfl⟩
      · have e := dvK_none (s := s) (fun j hj h7 => hH.out j (by omega))
        have E := Lib.hid e
        clear e
        go_wp2
        go_ret2
        exact ⟨ret_ii (by rw [dvN, E.out]; rfl) (by rw [E.out]; rfl), rfl⟩

end Go.Proofs.YtnngpppfagiikaaDoor
