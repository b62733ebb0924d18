/- Which strings are numerals: plain facts. Conditions: none beyond each theorem's own. -/
import Derived.Test.YtenondgjipmhnaaDoorFmt
namespace Go.Proofs.YtenondgjipmhnaaDoor
open Go.RowKit
set_option linter.unusedVariables false

def isD (b : Nat) : Prop := 48 ≤ b ∧ b ≤ 57
instance (b : Nat) : Decidable (isD b) := by unfold isD; infer_instance
/-- The number of the digits among the first i bytes. -/
def pn (s : ByteArray) : Nat → Nat
  | 0 => 0
  | i + 1 => if isD (bn s i) then pn s i * 10 + (bn s i - 48) else pn s i
def pk (s : ByteArray) : Nat → Nat
  | 0 => 0
  | i + 1 => if isD (bn s i) then pk s i + 1 else pk s i
theorem pn_lt (s : ByteArray) : ∀ i, pn s i < 10 ^ i
  | 0 => by simp [pn]
  | i + 1 => by
    have h := pn_lt s i
    unfold pn
    split
    · rename_i hd; unfold isD at hd; rw [Nat.pow_succ]; omega
    · rw [Nat.pow_succ]; omega
theorem pn_le (s : ByteArray) {i : Nat} (h : i ≤ 11) : pn s i ≤ 99999999999 := by
  have h1 := pn_lt s i
  have h2 : 10 ^ i ≤ 10 ^ 11 := Nat.pow_le_pow_right (by omega) h
  have h3 : 10 ^ 11 = 100000000000 := by decide
  omega
theorem pk_le (s : ByteArray) : ∀ i, pk s i ≤ i
  | 0 => by simp [pk]
  | i + 1 => by have := pk_le s i; unfold pk; split <;> omega
theorem pk_all (s : ByteArray) : ∀ i, (∀ j, j < i → isD (bn s j)) → pk s i = i
  | 0, _ => rfl
  | i + 1, h => by unfold pk; rw [if_pos (h i (by omega)), pk_all s i fun j hj => h j (by omega)]
theorem pn_succ (s : ByteArray) (i : Nat) : pn s (i + 1) = if isD (bn s i) then pn s i * 10 + (bn s i - 48) else pn s i := rfl
theorem pk_succ (s : ByteArray) (i : Nat) : pk s (i + 1) = if isD (bn s i) then pk s i + 1 else pk s i := rfl
theorem shift_pn {s t : ByteArray} (h0 : ¬ isD (bn s 0)) : ∀ i, (∀ j, j < i → bn s (j + 1) = bn t j) → pn s (i + 1) = pn t i ∧ pk s (i + 1) = pk t i
  | 0, _ => by simp [pn, pk, h0]
  | i + 1, h => by
    have ih := shift_pn h0 i fun j hj => h j (by omega)
    have e := h i (by omega)
    rw [pn_succ s (i + 1), pn_succ t i, pk_succ s (i + 1), pk_succ t i, e, ih.1, ih.2]
    exact ⟨rfl, rfl⟩
def isNeg (s : ByteArray) : Prop := 0 < s.size ∧ bn s 0 = 45
instance (s : ByteArray) : Decidable (isNeg s) := by unfold isNeg; infer_instance
/-- The number that ParseInt holds against the text. -/
def pN (s : ByteArray) : Int := if isNeg s then -(pn s (min s.size 11) : Int) else (pn s (min s.size 11) : Int)
theorem pN_rng (s : ByteArray) : -9223372036854775808 ≤ pN s ∧ pN s ≤ 9223372036854775807 := by
  have := pn_le s (show min s.size 11 ≤ 11 by omega)
  unfold pN; split <;> omega
def okP (s : ByteArray) : Prop := pk s (min s.size 11) ≤ 9 ∧ s.size ≤ 10 ∧ fmtI (pN s) = s
noncomputable instance (s : ByteArray) : Decidable (okP s) := Classical.propDecidable _
noncomputable def parB (s : ByteArray) : Bool := decide (okP s)
noncomputable def parN (s : ByteArray) : Int := if okP s then pN s else 0
theorem par_no {s : ByteArray} (h : ¬ okP s) : parB s = false ∧ parN s = 0 := ⟨decide_eq_false h, if_neg h⟩
theorem par_yes {s : ByteArray} (h : okP s) : parB s = true ∧ parN s = pN s := ⟨decide_eq_true h, if_pos h⟩

theorem dd_digits : ∀ (f u : Nat), u < f → ∀ b ∈ Lib.decDigits u, isD b.toNat
  | 0, u, h => by omega
  | f + 1, u, h => by
    intro b hb
    by_cases h1 : u < 10
    · rw [Lib.decDigits_one h1] at hb
      simp at hb
      subst hb
      unfold isD
      simp
      omega
    · rw [Lib.decDigits, dif_neg h1, List.mem_append] at hb
      rcases hb with hb | hb
      · exact dd_digits f (u / 10) (by omega) b hb
      · simp at hb
        subst hb
        unfold isD
        simp
        omega
theorem itoa_shape (n : Int) : (∃ l, Lib.itoa n = 45 :: l ∧ ∀ b ∈ l, isD b.toNat) ∨ (∀ b ∈ Lib.itoa n, isD b.toNat) := by
  unfold Lib.itoa
  split
  · exact .inl ⟨_, rfl, dd_digits _ _ (Nat.lt_succ_self _)⟩
  · exact .inr (dd_digits _ _ (Nat.lt_succ_self _))
theorem bn_list {s : ByteArray} {j : Nat} (h : j < s.size) : ∃ b, s.data.toList[j]? = some b ∧ b.toNat = bn s j := by
  refine ⟨s[j]'h, ?_, by rw [get_bn]⟩
  have : j < s.data.toList.length := by simp only [Array.length_toList]; exact h
  rw [List.getElem?_eq_getElem this]
  rfl
/-- What a numeral looks like. -/
theorem shape {s : ByteArray} {n : Int} (e : fmtI n = s) {j : Nat} (hj : j < s.size) : (j = 0 ∧ bn s 0 = 45) ∨ isD (bn s j) := by
  obtain ⟨b, hb, hbn⟩ := bn_list hj
  have el : s.data.toList = Lib.itoa n := by rw [← e]; rfl
  rw [el] at hb
  rcases itoa_shape n with ⟨l, h1, h2⟩ | h
  · rw [h1] at hb
    cases j with
    | zero =>
      left
      simp at hb
      subst hb
      exact ⟨rfl, hbn.symm⟩
    | succ j =>
      right
      simp only [List.getElem?_cons_succ] at hb
      rw [← hbn]
      exact h2 b (List.mem_of_getElem? hb)
  · right
    rw [← hbn]
    exact h b (List.mem_of_getElem? hb)

/-- s without its sign. -/
structure Cut (s t : ByteArray) (d : Nat) : Prop where
  size : s.size = t.size + d
  le : d ≤ 1
  byte : ∀ j, j < t.size → bn s (j + d) = bn t j
  neg : d = 1 → bn s 0 = 45
  pos : d = 0 → ¬ isNeg s
theorem Cut.bad {s t : ByteArray} {d : Nat} (c : Cut s t d) {j : Nat} (hj : j < t.size) (h : ¬ isD (bn t j)) : ¬ okP s := by
  intro ok
  rw [← c.byte j hj] at h
  rcases shape ok.2.2 (show j + d < s.size by have := c.size; omega) with ⟨h1, h2⟩ | h1
  · obtain rfl : d = 0 := by omega
    exact c.pos rfl ⟨by have := c.size; omega, h2⟩
  · exact h h1
theorem Cut.long {s t : ByteArray} {d : Nat} (c : Cut s t d) (h : 9 < t.size) : ¬ okP s := by
  intro ok
  have hs := c.size
  have h10 := ok.2.1
  have hd := c.le
  obtain rfl : d = 0 := by omega
  have hall : ∀ j, j < s.size → isD (bn s j) := fun j hj => by
    rcases shape ok.2.2 hj with ⟨h1, h2⟩ | h1
    · exact absurd ⟨by omega, h2⟩ (c.pos rfl)
    · exact h1
  have h1 := ok.1
  rw [show min s.size 11 = s.size by omega, pk_all s _ hall] at h1
  omega
theorem Cut.num {s t : ByteArray} {d : Nat} (c : Cut s t d) (h : t.size ≤ 9) (hall : ∀ j, j < t.size → isD (bn t j)) :
    pk s (min s.size 11) ≤ 9 ∧ s.size ≤ 10 ∧ pN s = if d = 1 then -(pn t t.size : Int) else (pn t t.size : Int) := by
  have hs := c.size
  have hd := c.le
  by_cases e : d = 1
  · subst e
    have h0 : ¬ isD (bn s 0) := by rw [c.neg rfl]; unfold isD; omega
    have sh := shift_pn (s := s) (t := t) h0 t.size fun j hj => c.byte j hj
    have hn : isNeg s := ⟨by omega, c.neg rfl⟩
    rw [show min s.size 11 = t.size + 1 by omega, pN, if_pos hn, show min s.size 11 = t.size + 1 by omega, sh.1, sh.2, if_pos rfl, pk_all t _ hall]
    exact ⟨h, by omega, rfl⟩
  · obtain rfl : d = 0 := by omega
    have hall' : ∀ j, j < s.size → isD (bn s j) := fun j hj => by
      have := c.byte j (by omega)
      rw [Nat.add_zero] at this
      rw [this]; exact hall j (by omega)
    have same : ∀ i, i ≤ t.size → pn s i = pn t i := by
      intro i
      induction i with
      | zero => intro _; rfl
      | succ i ih =>
        intro hi
        have := c.byte i (by omega)
        rw [Nat.add_zero] at this
        rw [pn, pn, this, ih (by omega)]
    rw [show min s.size 11 = s.size by omega, pN, if_neg (c.pos rfl), show min s.size 11 = s.size by omega, if_neg (by omega), pk_all s _ hall', hs, Nat.add_zero, same _ (Nat.le_refl _)]
    exact ⟨by omega, by omega, rfl⟩
theorem bn_eq (s : ByteArray) (j : Nat) : bn s j = ((s.data.toList[j]?).map UInt8.toNat).getD 0 := by
  by_cases h : j < s.size
  · obtain ⟨b, hb, e⟩ := bn_list h
    rw [hb, ← e]; rfl
  · unfold bn
    rw [dif_neg h]
    have : s.data.toList.length ≤ j := by simp only [Array.length_toList]; show s.size ≤ j; omega
    rw [List.getElem?_eq_none this]; rfl
theorem size_eq' (s : ByteArray) : s.size = s.data.toList.length := by simp only [Array.length_toList]; rfl
/-- The trimmed text. -/
theorem cut_of (s : ByteArray) : ∃ (t : ByteArray) (d : Nat), (⟨(Lib.trimPrefix s.data.toList (⟨#[45]⟩ : ByteArray).data.toList).toArray⟩ : ByteArray) = t ∧ Cut s t d := by
  have hsz := size_eq' s
  have hb0 := bn_eq s 0
  rcases hl : s.data.toList with _ | ⟨b, l⟩
  · refine ⟨s, 0, ?_, ⟨by omega, by omega, fun j _ => rfl, fun h => by omega, fun _ h => ?_⟩⟩
    · apply ByteArray.ext; apply Array.toList_inj.1
      rw [hl]; rfl
    · have h1 : s.size = 0 := by rw [hsz, hl]; rfl
      have := h.1
      omega
  · rw [hl] at hsz hb0
    by_cases hb : b = 45
    · subst hb
      refine ⟨⟨l.toArray⟩, 1, ?_, ⟨by rw [size_eq' ⟨l.toArray⟩, hsz]; simp, by omega, fun j _ => ?_, fun _ => hb0, fun h => by omega⟩⟩
      · apply ByteArray.ext; apply Array.toList_inj.1; rfl
      · rw [bn_eq s, bn_eq ⟨l.toArray⟩, hl]; simp
    · refine ⟨s, 0, ?_, ⟨by omega, by omega, fun j _ => rfl, fun h => by omega, fun _ h => ?_⟩⟩
      · apply ByteArray.ext; apply Array.toList_inj.1
        rw [hl]
        have : Lib.hasPrefix (b :: l) [45] = false := by
          unfold Lib.hasPrefix
          have hb' : ((45 : UInt8) == b) = false := by simp; exact fun e => hb e.symm
          simp [List.isPrefixOf, hb']
        show Lib.trimPrefix (b :: l) [45] = b :: l
        unfold Lib.trimPrefix
        rw [this]; rfl
      · have h2 := h.2
        rw [hb0] at h2
        apply hb
        apply UInt8.toNat_inj.1
        simpa using h2
end Go.Proofs.YtenondgjipmhnaaDoor
