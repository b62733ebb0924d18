/- Which strings are varints: plain facts on lists of bytes. Conditions: none beyond each theorem's own. -/
import Derived.Test.YtnngpppfagiikaaDoorNum
namespace Go.Proofs.YtnngpppfagiikaaDoor
open Go.RowKit
set_option linter.unusedVariables false

/-- The number of m groups of seven bits from place j on, the lowest first. -/
def va (s : ByteArray) : Nat → Nat → Nat
  | _, 0 => 0
  | j, m + 1 => bn s j % 128 + 128 * va s (j + 1) m
theorem va_lt (s : ByteArray) : ∀ m j, va s j m < 128 ^ m
  | 0, j => by simp [va]
  | m + 1, j => by
    have := va_lt s m (j + 1)
    simp only [va, Nat.pow_succ]
    omega
theorem va_le (s : ByteArray) {m : Nat} (j : Nat) (h : m ≤ 7) : va s j m ≤ 562949953421311 := by
  have h1 := va_lt s m j
  have h2 : 128 ^ m ≤ 128 ^ 7 := Nat.pow_le_pow_right (by omega) h
  simp only [Nat.reducePow] at h2
  omega
theorem va_le6 (s : ByteArray) {m : Nat} (j : Nat) (h : m ≤ 6) : va s j m ≤ 4398046511103 := by
  have h1 := va_lt s m j
  have h2 : 128 ^ m ≤ 128 ^ 6 := Nat.pow_le_pow_right (by omega) h
  simp only [Nat.reducePow] at h2
  omega
/-- One more group at the top. -/
theorem va_top (s : ByteArray) : ∀ m j, va s j (m + 1) = va s j m + bn s (j + m) % 128 * 128 ^ m
  | 0, j => by simp [va]
  | m + 1, j => by
    have h := va_top s m (j + 1)
    rw [va, h, va, Nat.mul_add, show j + 1 + m = j + (m + 1) by omega, Nat.pow_succ, ← Nat.mul_assoc, Nat.mul_comm 128 (bn s (j + (m + 1)) % 128), Nat.mul_assoc, Nat.mul_comm 128 (128 ^ m)]
    omega

/-- The same of a list. -/
def vl : List UInt8 → Nat
  | [] => 0
  | b :: l => b.toNat % 128 + 128 * vl l
/-- A varint without unnecessary bytes. -/
def can : List UInt8 → Prop
  | [] => False
  | [b] => b.toNat < 128
  | b :: c :: l => 128 ≤ b.toNat ∧ can (c :: l) ∧ c :: l ≠ [0]
theorem vb_ne (n : Nat) : vb n ≠ [] := by
  by_cases h : n < 128
  · rw [vb_small h]; simp
  · rw [vb_big h]; simp
theorem u8_eq {a b : UInt8} : a = b ↔ a.toNat = b.toNat := UInt8.toNat_inj.symm
theorem ofNat_toNat {n : Nat} (h : n < 256) : (UInt8.ofNat n).toNat = n := by simp; omega
theorem can_iff : ∀ l : List UInt8, vb (vl l) = l ↔ can l
  | [] => by simp [can, vb_ne]
  | [b] => by
    have h : vl [b] < 128 := by simp only [vl]; omega
    rw [vb_small h]
    simp only [can, List.cons.injEq, and_true, u8_eq]
    rw [ofNat_toNat (by omega)]
    simp only [vl]
    omega
  | b :: c :: l => by
    have ih := can_iff (c :: l)
    have hb := b.toNat_lt
    have e : vl (b :: c :: l) = b.toNat % 128 + 128 * vl (c :: l) := rfl
    have e1 : vl (b :: c :: l) % 128 = b.toNat % 128 := by omega
    have e2 : vl (b :: c :: l) / 128 = vl (c :: l) := by omega
    by_cases hv : vl (b :: c :: l) < 128
    · rw [vb_small hv]
      constructor
      · intro h; simp at h
      · intro h
        have h0 : vl (c :: l) = 0 := by omega
        have h1 := ih.2 h.2.1
        rw [h0, vb_small (by omega)] at h1
        exact absurd h1.symm h.2.2
    · rw [vb_big hv, e1, e2]
      constructor
      · intro h
        have h1 : UInt8.ofNat (b.toNat % 128 + 128) = b := (List.cons.inj h).1
        have h2 : vb (vl (c :: l)) = c :: l := (List.cons.inj h).2
        have h3 := congrArg UInt8.toNat h1
        rw [ofNat_toNat (by omega)] at h3
        refine ⟨by omega, ih.1 h2, fun h4 => ?_⟩
        have : vl (c :: l) = 0 := by rw [h4]; rfl
        omega
      · intro h
        rw [ih.2 h.2.1]
        congr 1
        rw [u8_eq, ofNat_toNat (by omega)]
        have := h.1
        omega
theorem can_all_big : ∀ l : List UInt8, (∀ b ∈ l, 128 ≤ b.toNat) → ¬ can l
  | [], _ => id
  | [b], h => fun hc => by have := h b (by simp); simp only [can] at hc; omega
  | b :: c :: l, h => fun hc => can_all_big (c :: l) (fun x hx => h x (by simp at hx ⊢; right; exact hx)) hc.2.1
theorem can_mid : ∀ (p : List UInt8) (x y : UInt8) (q : List UInt8), can (p ++ x :: y :: q) → 128 ≤ x.toNat
  | [], x, y, q, h => h.1
  | [a], x, y, q, h => h.2.1.1
  | a :: b :: p, x, y, q, h => can_mid (b :: p) x y q h.2.1
theorem can_snoc : ∀ (p : List UInt8) (x : UInt8), (∀ b ∈ p, 128 ≤ b.toNat) → x.toNat < 128 → (can (p ++ [x]) ↔ p = [] ∨ x ≠ 0)
  | [], x, _, hx => by simp [can, hx]
  | [a], x, h, hx => by
    have := h a (by simp)
    simp [can, hx, this]
  | a :: b :: p, x, h, hx => by
    have ih := can_snoc (b :: p) x (fun y hy => h y (by simp at hy ⊢; right; exact hy)) hx
    have ha := h a (by simp)
    show (128 ≤ a.toNat ∧ can (b :: (p ++ [x])) ∧ b :: (p ++ [x]) ≠ [0]) ↔ _
    have e : can (b :: (p ++ [x])) ↔ can ((b :: p) ++ [x]) := Iff.rfl
    rw [e, ih]
    simp [ha]

/-- The first k bytes. -/
def tk (s : ByteArray) (k : Nat) : List UInt8 := s.data.toList.take k
theorem tk_len (s : ByteArray) {k : Nat} (h : k ≤ s.size) : (tk s k).length = k := by
  unfold tk; rw [List.length_take]; simp only [Array.length_toList]; show min k s.size = k; omega
theorem get_tk (s : ByteArray) {k j : Nat} (h : j < k) (hk : k ≤ s.size) : ∃ b, (tk s k)[j]? = some b ∧ b.toNat = bn s j := by
  refine ⟨s[j]'(by omega), ?_, by rw [get_bn]⟩
  unfold tk
  rw [List.getElem?_take_of_lt h]
  have : j < s.data.toList.length := by simp only [Array.length_toList]; show j < s.size; omega
  rw [List.getElem?_eq_getElem this]
  rfl
theorem tk_succ (s : ByteArray) {k : Nat} (h : k < s.size) : ∃ b, tk s (k + 1) = tk s k ++ [b] ∧ b.toNat = bn s k := by
  have : k < s.data.toList.length := by simp only [Array.length_toList]; show k < s.size; omega
  refine ⟨s.data.toList[k], ?_, ?_⟩
  · unfold tk; rw [List.take_succ_eq_append_getElem this]
  · rw [← get_bn s k h]; rfl
theorem vl_snoc : ∀ (l : List UInt8) (b : UInt8), vl (l ++ [b]) = vl l + b.toNat % 128 * 128 ^ l.length
  | [], b => by simp [vl]
  | a :: l, b => by
    have := vl_snoc l b
    simp only [List.cons_append, vl, this, List.length_cons, Nat.pow_succ]
    rw [Nat.mul_add, ← Nat.mul_assoc, Nat.mul_comm 128 (b.toNat % 128), Nat.mul_assoc, Nat.mul_comm 128 (128 ^ l.length)]
    omega
theorem vl_tk (s : ByteArray) : ∀ k, k ≤ s.size → vl (tk s k) = va s 0 k
  | 0, _ => by simp [tk, vl, va]
  | k + 1, h => by
    obtain ⟨b, e, hb⟩ := tk_succ s (show k < s.size by omega)
    rw [e, vl_snoc, vl_tk s k (by omega), va_top, tk_len s (by omega), hb]
    simp
/-- The model's test at k. -/
def good (s : ByteArray) (k : Nat) : Prop := vb (va s 0 k) = tk s k
instance (s : ByteArray) (k : Nat) : Decidable (good s k) := by unfold good; infer_instance
theorem good_iff (s : ByteArray) {k : Nat} (h : k ≤ s.size) : good s k ↔ can (tk s k) := by
  unfold good; rw [← vl_tk s k h]; exact can_iff _
/-- The search for the first good place. -/
def sr (s : ByteArray) : Nat → Nat → Nat
  | 0, _ => 0
  | f + 1, k => if k ≤ s.size ∧ good s k then k else sr s f (k + 1)
theorem sr_none (s : ByteArray) : ∀ f k, (∀ j, k ≤ j → j < k + f → j ≤ s.size → ¬ good s j) → sr s f k = 0
  | 0, _, _ => rfl
  | f + 1, k, h => by
    rw [sr, if_neg (fun hh => h k (Nat.le_refl _) (by omega) hh.1 hh.2)]
    exact sr_none s f (k + 1) fun j h1 h2 h3 => h j (by omega) (by omega) h3
theorem sr_one (s : ByteArray) : ∀ f k p, k ≤ p → p < k + f → p ≤ s.size → good s p → (∀ j, k ≤ j → j < p → j ≤ s.size → ¬ good s j) → sr s f k = p
  | 0, _, _, h1, h2, _, _, _ => by omega
  | f + 1, k, p, h1, h2, h3, h4, h => by
    by_cases e : k = p
    · subst e; rw [sr, if_pos ⟨h3, h4⟩]
    · rw [sr, if_neg (fun hh => h k (Nat.le_refl _) (by omega) hh.1 hh.2)]
      exact sr_one s f (k + 1) p (by omega) (by omega) h3 h4 fun j a b c => h j (by omega) b c
/-- How many bytes DecodeVarint takes; 0 if none. -/
def dvK (s : ByteArray) : Nat := sr s 7 1
def dvN (s : ByteArray) : Nat := va s 0 (dvK s)
theorem mem_tk {s : ByteArray} {i : Nat} (hi : i ≤ s.size) (h : ∀ j, j < i → 128 ≤ bn s j) : ∀ b ∈ tk s i, 128 ≤ b.toNat := by
  intro b hb
  obtain ⟨j, hj, rfl⟩ := List.getElem_of_mem hb
  have hl := tk_len s hi
  obtain ⟨c, hc, hcb⟩ := get_tk s (show j < i by omega) hi
  rw [List.getElem?_eq_getElem hj] at hc
  injection hc with hc
  rw [hc, hcb]
  exact h j (by omega)
theorem not_good_big {s : ByteArray} {k : Nat} (hk : k ≤ s.size) (h : ∀ j, j < k → 128 ≤ bn s j) : ¬ good s k := by
  rw [good_iff s hk]; exact can_all_big _ (mem_tk hk h)
theorem not_good_past {s : ByteArray} {i k : Nat} (hk : k ≤ s.size) (hi : i + 1 < k) (h : bn s i < 128) : ¬ good s k := by
  rw [good_iff s hk]
  intro hc
  obtain ⟨x, ex, hx⟩ := tk_succ s (show i < s.size by omega)
  obtain ⟨y, ey, _⟩ := tk_succ s (show i + 1 < s.size by omega)
  have e : tk s k = tk s (i + 2) ++ (s.data.toList.take k).drop (i + 2) := by
    unfold tk
    conv => lhs; rw [← List.take_append_drop (i + 2) (s.data.toList.take k)]
    rw [List.take_take, show min (i + 2) k = i + 2 by omega]
  rw [e, ey, ex, List.append_assoc, List.append_assoc] at hc
  have := can_mid _ _ _ _ hc
  omega
theorem good_at {s : ByteArray} {i : Nat} (hi : i < s.size) (h : ∀ j, j < i → 128 ≤ bn s j) (hx : bn s i < 128) : good s (i + 1) ↔ i = 0 ∨ bn s i ≠ 0 := by
  rw [good_iff s (by omega)]
  obtain ⟨x, ex, e⟩ := tk_succ s hi
  rw [ex, can_snoc _ _ (mem_tk (by omega) h) (by omega)]
  have e1 : tk s i = [] ↔ i = 0 := by
    rw [← List.length_eq_zero_iff, tk_len s (by omega)]
  have e2 : x ≠ 0 ↔ bn s i ≠ 0 := by rw [← e, Ne, Ne, u8_eq]; rfl
  rw [e1, e2]
theorem dvK_hit {s : ByteArray} {i : Nat} (hi : i < s.size) (h7 : i < 7) (h : ∀ j, j < i → 128 ≤ bn s j) (hx : bn s i < 128) (h0 : i = 0 ∨ bn s i ≠ 0) : dvK s = i + 1 :=
  sr_one s 7 1 (i + 1) (by omega) (by omega) (by omega) ((good_at hi h hx).2 h0) fun j _ h2 h3 => not_good_big h3 fun t ht => h t (by omega)
theorem dvK_bad {s : ByteArray} {i : Nat} (hi : i < s.size) (h : ∀ j, j < i → 128 ≤ bn s j) (hx : bn s i < 128) (h0 : ¬ (i = 0 ∨ bn s i ≠ 0)) : dvK s = 0 := by
  refine sr_none s 7 1 fun j h1 _ h3 => ?_
  by_cases e : j ≤ i
  · exact not_good_big h3 fun t ht => h t (by omega)
  · by_cases e1 : j = i + 1
    · subst e1; rw [good_at hi h hx]; exact h0
    · exact not_good_past h3 (by omega) hx
theorem dvK_none {s : ByteArray} (h : ∀ j, j < s.size → j < 7 → 128 ≤ bn s j) : dvK s = 0 :=
  sr_none s 7 1 fun j h1 h2 h3 => not_good_big h3 fun t ht => h t (by omega) (by omega)
end Go.Proofs.YtnngpppfagiikaaDoor
