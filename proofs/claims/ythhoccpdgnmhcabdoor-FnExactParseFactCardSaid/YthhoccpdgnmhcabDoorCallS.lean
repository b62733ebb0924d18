/- What the model's l2Call answers. Conditions: none beyond each theorem's own. -/
import Derived.Test.YthhoccpdgnmhcabDoorCutS
namespace Go.Proofs.YthhoccpdgnmhcabDoor
open Go.ChangeShapes Go.WideShapes Go.ChangeAt Go.RowKit Go.Sort
set_option linter.unusedVariables false
set_option linter.unusedSimpArgs false

def isCall (s : ByteArray) (i : Nat) : Prop := i < s.size ∧ bn s i = 40 ∧ bn s (s.size - 1) = 41
def CallIs (s H : ByteArray) (ws : List ByteArray) : Prop :=
  (∃ i, isCall s i ∧ (∀ j, j < i → ¬ isCall s j) ∧ H = s.extract 0 i ∧ ws = cutW (s.extract (i + 1) (s.size - 1))) ∨ ((∀ i, ¬ isCall s i) ∧ H = ⟨#[]⟩ ∧ ws = [])
theorem CallIs.le {s H : ByteArray} {ws : List ByteArray} (h : CallIs s H ws) : H.size ≤ s.size ∧ ws.length ≤ s.size + 1 ∧ ∀ x ∈ ws, x.size ≤ s.size := by
  rcases h with ⟨i, h1, h2, rfl, rfl⟩ | ⟨h1, rfl, rfl⟩
  · have e : (s.extract (i + 1) (s.size - 1)).size ≤ s.size := by rw [ByteArray.size_extract]; omega
    refine ⟨by rw [ByteArray.size_extract]; omega, by have := cutW_len (s.extract (i + 1) (s.size - 1)); omega, fun x hx => by have := cutW_size hx; omega⟩
  · exact ⟨by show 0 ≤ _; omega, by simp, fun x h => by simp at h⟩

def CallOut (w : World) (s : ByteArray) (e : Ending) (w' : World) : Prop := ∃ H ws A c, e = .returned (.tuple #[.string H, .slice A ws.length c]) ∧ StrsAt w' A ws ∧ Below w.heap.size w w' ∧ CallIs s H ws

set_option maxRecDepth 100000 in
set_option maxHeartbeats 1000000 in
theorem l2Call_any (s : ByteArray) (hs : s.size ≤ 1048576) (w : World) :
    Calls Tryd.prog 38 #[.string s] w (CallOut w s) := by
  have hs' : (s.size : Int) ≤ 1048576 := by omega
  go_enter Tryd.func38, Tryd.ntmps38
  go_wp2
  go_loop [4] (fun i => ∃ k : Nat, k ≤ s.size ∧ i = .int .i64 k ∧ Hid (∀ j, j < k → ¬ isCall s j)) (fun i => s.size - (intOf i).toNat)
  case atStart => exact ⟨0, by omega, rfl, Lib.hid (fun j hj => by omega)⟩
  case round =>
    obtain ⟨k, hk, rfl, hno⟩ := hrel
    by_cases hlt : k < s.size
    · have hbn := bn_le s k
      have hg := get_bn s k hlt
      by_cases h40 : bn s k = 40
      · have hbn2 := bn_le s (s.size - 1)
        have hg2 := get_bn s (s.size - 1) (by omega)
        by_cases h41 : bn s (s.size - 1) = 41
        · have hks : k + 1 ≤ s.size - 1 := by
            rcases Nat.lt_or_ge k (s.size - 1) with h | h
            · omega
            · have : k = s.size - 1 := by omega
              rw [this] at h40
              omega
          have IC := Lib.hid (show isCall s k from ⟨hlt, h40, h41⟩)
          have HK := Lib.hid hks
          have hks' : (k : Int) + 1 ≤ (s.size : Int) - 1 := by omega
          have CU := Lib.hid (l2Cut_any (s.extract (k + 1) (s.size - 1)) (by rw [ByteArray.size_extract]; omega))
          rw [h40] at hg
          rw [h41] at hg2
          have e0 : (0 : Int) ≤ (k : Int) := by omega
          have e1 : (k : Int) ≤ (s.size : Int) := by omega
          have e2 : IntKind.i64.wrap ((k : Int) + 1) = (k : Int) + 1 := IntWalk.i64_in _ ⟨by omega, by omega⟩
          have e3 : IntKind.i64.wrap ((s.size : Int) - 1) = (s.size : Int) - 1 := IntWalk.i64_in _ ⟨by omega, by omega⟩
          have e4 : (0 : Int) ≤ (k : Int) + 1 := by omega
          have e5 : (s.size : Int) - 1 ≤ (s.size : Int) := by omega
          have e6 : (0 : Int) ≤ (s.size : Int) - 1 := by omega
          have e7 : ((k : Int) + 1).toNat = k + 1 := by omega
          have e8 : ((s.size : Int) - 1).toNat = s.size - 1 := by omega
          clear h40 h41 hks
          go_wp2
          go_region_held3 (fun _ => True)
            (first
              | trivial)
            (first
              | (go_at_call 63
                 refine (CU.out _).mono ?_
                 rintro e u ⟨A, c, rfl, hst, d⟩
                 have d' : Below w.heap.size w u := by first | exact d | exact und d
                 have HST := Lib.hid hst
                 clear hst d))
          go_wp2
          go_ret2
          refine ⟨s.extract 0 k, cutW (s.extract (k + 1) (s.size - 1)), A, c, rfl, HST.out, d', .inl ⟨k, IC.out, hno.out, rfl, rfl⟩⟩
        · have NC := Lib.hid (show ¬ isCall s k from fun h => h41 h.2.2)
          have h41' : ¬ ((bn s (s.size - 1) : Nat) : Int) = 41 := by omega
          rw [h40] at hg
          clear h40 h41
          go_wp2
          go_round
          case rel => exact ⟨k + 1, by omega, by go_num, Lib.hid (fun j hj => by
            by_cases e : j = k
            · rw [e]; exact NC.out
            · exact hno.out j (by omega))⟩
          case measure => simp [intOf]; omega
      · have NC := Lib.hid (show ¬ isCall s k from fun h => h40 h.2.1)
        have h40' : ¬ ((bn s k : Nat) : Int) = 40 := by omega
        clear h40
        go_wp2
        go_round
        case rel => exact ⟨k + 1, by omega, by go_num, Lib.hid (fun j hj => by
          by_cases e : j = k
          · rw [e]; exact NC.out
          · exact hno.out j (by omega))⟩
        case measure => simp [intOf]; omega
    · have NC := Lib.hid (show ∀ i, ¬ isCall s i from fun i h => hno.out i (by have := h.1; omega) h)
      go_wp2
      go_ret2
      exact ⟨⟨#[]⟩, [], _, 0, rfl, fun h => absurd rfl h, below_alloc _ _, .inr ⟨NC.out, rfl, rfl⟩⟩
end Go.Proofs.YthhoccpdgnmhcabDoor
