/- What the model's DecodeHex answers. Conditions: none beyond each theorem's own. -/
import Derived.Test.YtnngpppfagiikaaHexMath
import Derived.Test.YtnngpppfagiikaaEncHex
namespace Go.Proofs.Ytnngpppfagiikaa
open Go.ChangeShapes Go.WideShapes Go.ChangeAt Go.RowKit
set_option linter.unusedVariables false

set_option maxHeartbeats 400000 in
theorem l1FromHex_any (b : Nat) (hb : b ≤ 255) (w : World) :
    Calls Try.prog 24 #[.int .u8 b] w fun e w' => e = .returned (.int .i64 (hv b)) ∧ w = w' := by
  go_enter Try.func24, Try.ntmps24
  go_wp2
  go_loop [3] (fun c => ∃ k : Nat, k ≤ 16 ∧ c = .int .i64 k ∧ Hid (∀ j, j < k → hx j ≠ b)) (fun c => 16 - (intOf c).toNat)
  case atStart => exact ⟨0, by omega, rfl, Lib.hid (by omega)⟩
  case round =>
    obtain ⟨k, hk, rfl, hH⟩ := hrel
    by_cases hlt : k < 16
    · have hle := hx_le hlt
      by_cases he : hx k = b
      · have E := Lib.hid (hv_hit hlt he)
        have he' : ((hx k : Int) == (b : Int)) = true := by simp [he]
        have he2 : hx k = b := he
        clear he
        go_wp2_with (go_at_call 23; refine (l1Digit_int _ k rfl hlt _).mono ?_; rintro e w' ⟨rfl, rfl⟩)
        go_ret
        exact ⟨ret_int E.out.symm, rfl⟩
      · go_wp2_with (go_at_call 23; refine (l1Digit_int _ k rfl hlt _).mono ?_; rintro e w' ⟨rfl, rfl⟩)
        go_round
        case rel => exact ⟨k + 1, by omega, by go_num, Lib.hid (fun j hj => by
          by_cases e : j = k
          · rw [e]; exact he
          · exact hH.out j (by omega))⟩
        case measure => simp [intOf]; omega
    · obtain rfl : k = 16 := by omega
      have E := Lib.hid (hv_none hH.out)
      go_wp2
      go_ret
      exact ⟨ret_int E.out.symm, rfl⟩

theorem spec_DecodeHex_odd (s : ByteArray) (hm : s.size ≤ 1048576) (h1 : s.size % 2 = 1) (w : World) :
    Calls Try.prog 19 #[.string s] w fun e w' => e = .returned (.tuple #[.string (hexD s), .bool (hexOk s)]) ∧ Below w.heap.size w w' := by
  have E := Lib.hid (hexOk_odd (s := s) (by omega))
  have hm' : (s.size : Int) ≤ 1048576 := by omega
  have h1' : (s.size : Int) % 2 = 1 := by omega
  go_enter Try.func19, Try.ntmps19
  go_wp2
  go_ret2
  exact ⟨ret_sb (hexD_no E.out).symm E.out.symm, (Below.refl _ _).alloc (Nat.le_refl _) _⟩

set_option maxRecDepth 100000 in
set_option maxHeartbeats 400000 in
theorem spec_DecodeHex_even (s : ByteArray) (m : Nat) (hsz : s.size = 2 * m) (hm : s.size ≤ 1048576) (w : World) :
    Calls Try.prog 19 #[.string s] w fun e w' => e = .returned (.tuple #[.string (hexD s), .bool (hexOk s)]) ∧ Below w.heap.size w w' := by
  obtain ⟨i0, hi, hz0, hz1, hz2⟩ := info_parts u8_info
  have hm' : (s.size : Int) ≤ 1048576 := by omega
  have hg := get_bn s
  have h1' : (((s.size : Int) % 2) == 1) = false := by simp; omega
  have SZ := Lib.hid hsz
  have hle1 : s.size ≤ 2 * m := by omega
  have hle2 : 2 * m ≤ s.size := by omega
  clear hsz
  go_enter Try.func19, Try.ntmps19
  go_wp2
  go_loopw [4, 5] (fun v c wr => ∃ k : Nat, k ≤ m ∧ c = .int .i64 ((2 * k : Nat) : Int) ∧ wr.ownsRow w.heap.size 5 1 v k ((dhx s k).map (Value.int .u8)) ∧ Below w.heap.size w wr ∧ Hid (∀ j, j < 2 * k → 0 ≤ hv (bn s j))) (fun _ c _ => 2 * m - (intOf c).toNat)
  case atStart => exact ⟨0, by omega, rfl, World.ownsRow_lit _ #[] 0 (Nat.le_refl _) (by unfold maxLen; omega) rfl, (Below.refl _ _).alloc (Nat.le_refl _) _, Lib.hid (by omega)⟩
  case round =>
    obtain ⟨k, hk, rfl, hown, hb, hH⟩ := hrel
    by_cases hlt : k < m
    · have hk1 : 2 * k < s.size := by omega
      have hk2 : 2 * k + 1 < s.size := by omega
      have hr1 := hv_rng (bn s (2 * k))
      have hr2 := hv_rng (bn s (2 * k + 1))
      have hb1 := bn_le s (2 * k)
      have hb2 := bn_le s (2 * k + 1)
      by_cases ha : 0 ≤ hv (bn s (2 * k))
      · by_cases hc : 0 ≤ hv (bn s (2 * k + 1))
        · go_wp2_with fail
          refine (l1FromHex_any _ hb1 _).mono ?_
          rintro e w' ⟨rfl, rfl⟩
          go_wp2_with fail
          refine (l1FromHex_any _ hb2 _).mono ?_
          rintro e w' ⟨rfl, rfl⟩
          go_wp2_with (at_builtin; refine wpList_app1 rfl _ _ _ _ rfl i0 Try.underlying36 hi hz0 hz1 hz2 rfl rfl hown hb hb.size (by omega) ?_; intro v' w' hown' hb')
          go_roundw
          case rel => exact ⟨k + 1, by omega, by go_num, hown', hb', Lib.hid (fun j hj => by
            by_cases e1 : j = 2 * k
            · rw [e1]; exact ha
            · by_cases e2 : j = 2 * k + 1
              · rw [e2]; exact hc
              · exact hH.out j (by omega))⟩
          case measure => simp [intOf]; omega
        · have hc' : hv (bn s (2 * k + 1)) < 0 := by omega
          have E := Lib.hid (hexOk_bad hk2 hc')
          go_wp2_with fail
          refine (l1FromHex_any _ hb1 _).mono ?_
          rintro e w' ⟨rfl, rfl⟩
          go_wp2_with fail
          refine (l1FromHex_any _ hb2 _).mono ?_
          rintro e w' ⟨rfl, rfl⟩
          go_wp2
          go_ret2
          exact ⟨ret_sb (hexD_no E.out).symm E.out.symm, hb⟩
      · have ha' : hv (bn s (2 * k)) < 0 := by omega
        have E := Lib.hid (hexOk_bad hk1 ha')
        go_wp2_with fail
        refine (l1FromHex_any _ hb1 _).mono ?_
        rintro e w' ⟨rfl, rfl⟩
        go_wp2_with fail
        refine (l1FromHex_any _ hb2 _).mono ?_
        rintro e w' ⟨rfl, rfl⟩
        go_wp2
        go_ret2
        exact ⟨ret_sb (hexD_no E.out).symm E.out.symm, hb⟩
    · obtain rfl : k = m := by omega
      have E := Lib.hid (hexOk_all (s := s) (by omega) fun j hj => hH.out j (by omega))
      have hcv := convOwn Try.prog 36 5 9 Try.underlying36 Try.underlying5 Try.underlying9 hown
      go_wp2
      go_ret2
      exact ⟨ret_sb (by rw [hexD_yes E.out, show s.size / 2 = k by omega]) E.out.symm, hb⟩

theorem spec_DecodeHex (s : ByteArray) (hm : s.size ≤ 1048576) (w : World) :
    Calls Try.prog 19 #[.string s] w fun e w' => e = .returned (.tuple #[.string (hexD s), .bool (hexOk s)]) ∧ Below w.heap.size w w' := by
  by_cases h1 : s.size % 2 = 1
  · exact spec_DecodeHex_odd s hm h1 w
  · exact spec_DecodeHex_even s (s.size / 2) (by omega) hm w
end Go.Proofs.Ytnngpppfagiikaa
