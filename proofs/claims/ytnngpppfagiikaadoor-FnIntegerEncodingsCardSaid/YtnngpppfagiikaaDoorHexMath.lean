/- What DecodeHex answers, on lists. Conditions: none beyond each theorem's own. -/
import Derived.Test.YtnngpppfagiikaaDoorNum
namespace Go.Proofs.YtnngpppfagiikaaDoor
open Go.RowKit
set_option linter.unusedVariables false

/-- The value of a hex digit's byte; -1 of any other. -/
def hv (b : Nat) : Int := if 48 ≤ b ∧ b ≤ 57 then (b : Int) - 48 else if 97 ≤ b ∧ b ≤ 102 then (b : Int) - 87 else -1
theorem hv_rng (b : Nat) : -1 ≤ hv b ∧ hv b ≤ 15 := by unfold hv; split <;> (try split) <;> omega
theorem hv_hit {k b : Nat} (hk : k < 16) (h : hx k = b) : hv b = k := by
  subst h; unfold hx hv; split <;> split <;> (try split) <;> omega
theorem hv_none {b : Nat} (h : ∀ j, j < 16 → hx j ≠ b) : hv b = -1 := by
  unfold hv
  split
  · exact absurd (by unfold hx; rw [if_pos (by omega)]; omega) (h (b - 48) (by omega))
  · split
    · exact absurd (by unfold hx; rw [if_neg (by omega)]; omega) (h (b - 87) (by omega))
    · rfl
def dhx (s : ByteArray) : Nat → List Int
  | 0 => []
  | k + 1 => dhx s k ++ [16 * hv (bn s (2 * k)) + hv (bn s (2 * k + 1))]
theorem dhx_length (s : ByteArray) : ∀ k, (dhx s k).length = k
  | 0 => rfl
  | k + 1 => by simp [dhx, dhx_length s k]
theorem dhx_get (s : ByteArray) : ∀ (k j : Nat), j < k → (dhx s k).getD j 0 = 16 * hv (bn s (2 * j)) + hv (bn s (2 * j + 1))
  | 0, j, h => by omega
  | k + 1, j, h => by
    by_cases e : j = k
    · subst e
      simp [dhx, List.getD_eq_getElem?_getD, dhx_length]
    · have ih := dhx_get s k j (by omega)
      simp only [dhx, List.getD_eq_getElem?_getD] at ih ⊢
      rw [List.getElem?_append_left (by rw [dhx_length]; omega)]
      exact ih
def hexOk (s : ByteArray) : Bool := decide (s.size % 2 = 0 ∧ ∀ j, j < s.size → 0 ≤ hv (bn s j))
def hexD (s : ByteArray) : ByteArray := ⟨(if hexOk s = true then (dhx s (s.size / 2)).map fun n => UInt8.ofNat n.toNat else []).toArray⟩
theorem hexOk_odd {s : ByteArray} (h : s.size % 2 ≠ 0) : hexOk s = false := decide_eq_false fun hh => h hh.1
theorem hexOk_bad {s : ByteArray} {j : Nat} (hj : j < s.size) (h : hv (bn s j) < 0) : hexOk s = false := decide_eq_false fun hh => by have := hh.2 j hj; omega
theorem hexOk_all {s : ByteArray} (h0 : s.size % 2 = 0) (h : ∀ j, j < s.size → 0 ≤ hv (bn s j)) : hexOk s = true := decide_eq_true ⟨h0, h⟩
theorem hexD_no {s : ByteArray} (h : hexOk s = false) : hexD s = ⟨#[]⟩ := by unfold hexD; rw [h]; rfl
theorem hexD_yes {s : ByteArray} (h : hexOk s = true) : hexD s = ⟨((dhx s (s.size / 2)).map fun n => UInt8.ofNat n.toNat).toArray⟩ := by unfold hexD; rw [h]; rfl
theorem ret_sb {a b : ByteArray} {p q : Bool} (h : a = b) (k : p = q) : Ending.returned (.tuple #[.string a, .bool p]) = .returned (.tuple #[.string b, .bool q]) := by rw [h, k]
end Go.Proofs.YtnngpppfagiikaaDoor
