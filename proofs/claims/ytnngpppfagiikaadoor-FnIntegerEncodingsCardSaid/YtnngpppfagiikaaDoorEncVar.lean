/- What the two functions EncodeVarint answer. Conditions: none beyond each theorem's own. -/
import Derived.Test.YtnngpppfagiikaaDoorNum
namespace Go.Proofs.YtnngpppfagiikaaDoor
open Go.ChangeShapes Go.WideShapes Go.ChangeAt Go.RowKit
set_option linter.unusedVariables false

theorem u8_info : (Tryd.prog.info? 5).map (fun i => (i.zero, i.size, i.bytes)) = some (some (.int .u8 0), 1, 1) := by kernel_rfl
theorem l1In_yes (x lo hi : Int) (h1 : lo ≤ x) (h2 : x ≤ hi) (w : World) :
    Calls Tryd.prog 26 #[.int .i64 x, .int .i64 lo, .int .i64 hi] w fun e w' => e = .returned (.bool true) ∧ w = w' := by
  go_enter Tryd.func26, Tryd.ntmps26
  go_wp2
  go_ret
  exact ⟨rfl, rfl⟩

set_option maxRecDepth 100000 in
set_option maxHeartbeats 400000 in
theorem impl_EncodeVarint_in (n : Nat) (hn : n ≤ 562949953421311) (w : World) :
    Calls Tryd.prog 9 #[.int .i64 n] w fun e w' => e = .returned (.string ⟨(vb n).toArray⟩) ∧ Below w.heap.size w w' := by
  obtain ⟨i0, hi, hz0, hz1, hz2⟩ := info_parts u8_info
  have hn' : (n : Int) ≤ 562949953421311 := by omega
  go_enter Tryd.func9, Tryd.ntmps9
  go_wp2
  go_loopw [3, 0] (fun v c wr => ∃ (xs : List Int) (cur : Nat), c = .int .i64 cur ∧ wr.ownsRow w.heap.size 5 1 v xs.length (xs.map (Value.int .u8)) ∧ Below w.heap.size w wr ∧ (xs.map fun n => UInt8.ofNat n.toNat) ++ vb cur = vb n ∧ cur ≤ n) (fun _ c _ => (intOf c).toNat)
  case atStart => exact ⟨[], n, rfl, World.ownsRow_nil _ _ _ _, Below.refl _ _, by simp, Nat.le_refl _⟩
  case round =>
    obtain ⟨xs, cur, rfl, hown, hb, hv, hle⟩ := hrel
    have hlen : xs.length ≤ 7 := by
      have := vb_len7 hn
      rw [← hv] at this
      simp at this
      omega
    have HV := Lib.hid hv
    clear hv hn
    have hc' : (cur : Int) ≤ 562949953421311 := by omega
    by_cases hlt : 128 ≤ cur
    · go_wp2_with (at_builtin; refine wpList_app1 rfl _ _ _ _ rfl i0 Tryd.underlying22 hi hz0 hz1 hz2 rfl rfl hown hb hb.size (by omega) ?_; intro v' w' hown' hb')
      go_roundw
      case rel => exact ⟨xs ++ [(cur : Int) % 128 + 128], cur / 128, by go_num, by rw [List.length_append]; exact hown', hb', by rw [← HV.out, vb_big (n := cur) (by omega), List.map_append, List.append_assoc]; simp only [List.map_cons, List.map_nil, List.cons_append, List.nil_append]; rw [show ((cur : Int) % 128 + 128).toNat = cur % 128 + 128 by omega], by omega⟩
      case measure => simp [intOf]; omega
    · go_wp2_with (at_builtin; refine wpList_app1 rfl _ _ _ _ rfl i0 Tryd.underlying22 hi hz0 hz1 hz2 rfl rfl hown hb hb.size (by omega) ?_; intro v' w' hown' hb'; have hcv := convOwn Tryd.prog 22 5 9 Tryd.underlying22 Tryd.underlying5 Tryd.underlying9 hown')
      go_ret
      exact ⟨ret_str (by rw [← HV.out, vb_small (n := cur) (by omega)]), hb'⟩

set_option maxRecDepth 100000 in
theorem impl_EncodeVarint_out (n : Int) (hn : n < 0 ∨ 562949953421311 < n) (w : World) :
    Calls Tryd.prog 9 #[.int .i64 n] w fun e w' => e = .returned (.string ⟨#[]⟩) ∧ Below w.heap.size w w' := by
  rcases hn with h | h
  · have h' : ¬ 0 ≤ n := by omega
    go_enter Tryd.func9, Tryd.ntmps9
    go_wp2
    go_ret
    exact ⟨rfl, Below.refl _ _⟩
  · have h' : ¬ n ≤ 562949953421311 := by omega
    have h'' : 0 ≤ n := by omega
    go_enter Tryd.func9, Tryd.ntmps9
    go_wp2
    go_ret
    exact ⟨rfl, Below.refl _ _⟩

theorem impl_EncodeVarint (n : Int) (w : World) :
    Calls Tryd.prog 9 #[.int .i64 n] w fun e w' => e = .returned (.string (varI n)) ∧ Below w.heap.size w w' := by
  by_cases h : 0 ≤ n ∧ n ≤ 562949953421311
  · obtain ⟨a, rfl⟩ := Int.eq_ofNat_of_zero_le h.1
    rw [varI, if_pos h]
    exact impl_EncodeVarint_in a (by omega) w
  · rw [varI, if_neg h]
    exact impl_EncodeVarint_out n (by omega) w

end Go.Proofs.YtnngpppfagiikaaDoor
