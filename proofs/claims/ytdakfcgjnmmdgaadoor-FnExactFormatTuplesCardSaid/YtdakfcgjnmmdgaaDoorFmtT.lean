/- What the functions on the text of a term and of a list of terms answer. Conditions: none beyond each theorem's own. -/
import Derived.Test.YtdakfcgjnmmdgaaDoorFmtG
namespace Go.Proofs.YtdakfcgjnmmdgaaDoor
open Go.ChangeShapes Go.WideShapes Go.ChangeAt Go.RowKit Go.Sort
set_option linter.unusedVariables false
set_option linter.unusedSimpArgs false

/-- The text of a term. -/
def tw (x : Int) : List UInt8 := if inB x 10 17 = true then [120, dg (x - 10)] else Lib.itoa x
theorem tw_yes {x : Int} (h : inB x 10 17 = true) : tw x = [120, dg (x - 10)] := if_pos h
theorem tw_no {x : Int} (h : inB x 10 17 = false) : tw x = Lib.itoa x := if_neg (by simp [h])
theorem itoa_digit {x : Int} (h0 : 0 ≤ x) (h1 : x ≤ 9) : Lib.itoa x = [dg x] := by
  have h := fmt_digit h0 h1
  unfold fmtI at h
  injection h with h
  have := congrArg Array.toList h
  simpa using this
theorem itoa_len {n : Int} (h0 : -9223372036854775808 ≤ n) (h1 : n ≤ 9223372036854775807) : (Lib.itoa n).length ≤ 20 := by
  by_cases hz : n = 0
  · subst hz
    rw [itoa_digit (by omega) (by omega)]
    simp
  · by_cases hp : 0 ≤ n
    · obtain ⟨u, rfl⟩ := Int.eq_ofNat_of_zero_le hp
      have h := itoa_pos (u := u) (by omega)
      unfold fmtI at h
      injection h with h
      have h2 : Lib.itoa (u : Int) = dd0 u := by simpa using congrArg Array.toList h
      have := dd0_len19 (u := u) (by omega)
      rw [h2]; omega
    · obtain ⟨u, hu⟩ := Int.eq_ofNat_of_zero_le (show 0 ≤ -n by omega)
      obtain rfl : n = -(u : Int) := by omega
      have h := itoa_neg (u := u) (by omega)
      unfold fmtI at h
      injection h with h
      have h2 : Lib.itoa (-(u : Int)) = 45 :: dd0 u := by simpa using congrArg Array.toList h
      have := dd0_len19 (u := u) (by omega)
      rw [h2, List.length_cons]; omega
theorem tw_len {x : Int} (h0 : -9223372036854775808 ≤ x) (h1 : x ≤ 9223372036854775807) : (tw x).length ≤ 20 := by
  unfold tw
  split
  · simp
  · exact itoa_len h0 h1
/-- Are all numbers such as an int holds? -/
abbrev allR (xs : List Int) : Prop := allB (-9223372036854775808) 9223372036854775807 xs = true
theorem allR_of {xs : List Int} (h : allB 0 17 xs = true) : allR xs := by
  unfold allR allB at *
  rw [List.all_eq_true] at h ⊢
  intro x hx
  have := h x hx
  simp [inB] at this ⊢
  omega
theorem allR_len {xs : List Int} (h : allR xs) : ∀ x ∈ xs, (tw x).length ≤ 20 := fun x hx => by
  unfold allR allB at h
  rw [List.all_eq_true] at h
  have := h x hx
  simp [inB] at this
  exact tw_len this.1 this.2
/-- The terms' texts, commas between. -/
def commaT : List Int → List UInt8
  | [] => []
  | [x] => tw x
  | x :: y :: r => tw x ++ 44 :: commaT (y :: r)
theorem commaT_snoc : ∀ (l : List Int) (x : Int), l ≠ [] → commaT (l ++ [x]) = commaT l ++ 44 :: tw x
  | [], x, h => absurd rfl h
  | [y], x, _ => rfl
  | y :: z :: r, x, _ => by
    have ih := commaT_snoc (z :: r) x (by simp)
    simp only [List.cons_append] at ih ⊢
    rw [commaT, commaT, ih]
    simp
theorem commaT_take (l : List Int) (k : Nat) (hk : k < l.length) : commaT (l.take (k + 1)) = if k = 0 then tw (l.getD k 0) else commaT (l.take k) ++ 44 :: tw (l.getD k 0) := by
  have e : l[k] = l.getD k 0 := by simp [List.getD_eq_getElem?_getD, hk]
  rw [List.take_succ_eq_append_getElem hk, e]
  by_cases h0 : k = 0
  · subst h0; simp [commaT]
  · rw [if_neg h0, commaT_snoc]
    intro h
    have := congrArg List.length h
    rw [List.length_take, List.length_nil] at this
    omega
theorem commaT_len : ∀ l : List Int, (∀ x ∈ l, (tw x).length ≤ 20) → (commaT l).length ≤ 21 * l.length
  | [], _ => by simp [commaT]
  | [x], h => by have := h x (by simp); simp [commaT]; omega
  | x :: y :: r, h => by
    have h1 := commaT_len (y :: r) fun z hz => h z (by simp at hz ⊢; exact .inr hz)
    have h2 := h x (by simp)
    simp only [commaT, List.length_cons, List.length_append] at *
    omega
theorem commaT_join : ∀ l : List Int, Lib.join (l.map tw) [44] = commaT l
  | [] => rfl
  | [x] => by simp [Lib.join_one, commaT]
  | x :: y :: r => by
    have ih := commaT_join (y :: r)
    simp only [List.map_cons] at ih ⊢
    rw [Lib.join_cons] at ih ⊢
    rw [commaT, ← ih]
    simp [Lib.joinTail]

end Go.Proofs.YtdakfcgjnmmdgaaDoor
