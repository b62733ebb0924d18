/- Which strings are numerals: plain facts. Conditions: none beyond each theorem's own. What the model's ParseInt answers. Conditions: none beyond each theorem's own. What the program's ParseInt answers. Conditions: none beyond each theorem's own. -/
import Derived.Test.YtigakhkhjjbboaaGreatDoorFmt
import Derived.Laws.RangeAny

namespace Go.Proofs.YtigakhkhjjbboaaGreatDoor
open Go.RowKit
set_option linter.unusedVariables false

def isD (b : Nat) : Prop := 48 ≤ b ∧ b ≤ 57
instance (b : Nat) : Decidable (isD b) := by unfold isD; infer_instance
/-- The number of the digits among the first i bytes. -/
def pn (s : ByteArray) : Nat → Nat
  | 0 => 0
  | i + 1 => if isD (bn s i) then pn s i * 10 + (bn s i - 48) else pn s i
def pk (s : ByteArray) : Nat → Nat
  | 0 => 0
  | i + 1 => if isD (bn s i) then pk s i + 1 else pk s i
theorem pn_lt (s : ByteArray) : ∀ i, pn s i < 10 ^ i
  | 0 => by simp [pn]
  | i + 1 => by
    have h := pn_lt s i
    unfold pn
    split
    · rename_i hd; unfold isD at hd; rw [Nat.pow_succ]; omega
    · rw [Nat.pow_succ]; omega
theorem pn_le (s : ByteArray) {i : Nat} (h : i ≤ 11) : pn s i ≤ 99999999999 := by
  have h1 := pn_lt s i
  have h2 : 10 ^ i ≤ 10 ^ 11 := Nat.pow_le_pow_right (by omega) h
  have h3 : 10 ^ 11 = 100000000000 := by decide
  omega
theorem pk_le (s : ByteArray) : ∀ i, pk s i ≤ i
  | 0 => by simp [pk]
  | i + 1 => by have := pk_le s i; unfold pk; split <;> omega
theorem pk_all (s : ByteArray) : ∀ i, (∀ j, j < i → isD (bn s j)) → pk s i = i
  | 0, _ => rfl
  | i + 1, h => by unfold pk; rw [if_pos (h i (by omega)), pk_all s i fun j hj => h j (by omega)]
theorem pn_succ (s : ByteArray) (i : Nat) : pn s (i + 1) = if isD (bn s i) then pn s i * 10 + (bn s i - 48) else pn s i := rfl
theorem pk_succ (s : ByteArray) (i : Nat) : pk s (i + 1) = if isD (bn s i) then pk s i + 1 else pk s i := rfl
theorem shift_pn {s t : ByteArray} (h0 : ¬ isD (bn s 0)) : ∀ i, (∀ j, j < i → bn s (j + 1) = bn t j) → pn s (i + 1) = pn t i ∧ pk s (i + 1) = pk t i
  | 0, _ => by simp [pn, pk, h0]
  | i + 1, h => by
    have ih := shift_pn h0 i fun j hj => h j (by omega)
    have e := h i (by omega)
    rw [pn_succ s (i + 1), pn_succ t i, pk_succ s (i + 1), pk_succ t i, e, ih.1, ih.2]
    exact ⟨rfl, rfl⟩
def isNeg (s : ByteArray) : Prop := 0 < s.size ∧ bn s 0 = 45
instance (s : ByteArray) : Decidable (isNeg s) := by unfold isNeg; infer_instance
/-- The number that ParseInt holds against the text. -/
def pN (s : ByteArray) : Int := if isNeg s then -(pn s (min s.size 11) : Int) else (pn s (min s.size 11) : Int)
theorem pN_rng (s : ByteArray) : -9223372036854775808 ≤ pN s ∧ pN s ≤ 9223372036854775807 := by
  have := pn_le s (show min s.size 11 ≤ 11 by omega)
  unfold pN; split <;> omega
def okP (s : ByteArray) : Prop := pk s (min s.size 11) ≤ 9 ∧ s.size ≤ 10 ∧ fmtI (pN s) = s
noncomputable instance (s : ByteArray) : Decidable (okP s) := Classical.propDecidable _
noncomputable def parB (s : ByteArray) : Bool := decide (okP s)
noncomputable def parN (s : ByteArray) : Int := if okP s then pN s else 0
theorem par_no {s : ByteArray} (h : ¬ okP s) : parB s = false ∧ parN s = 0 := ⟨decide_eq_false h, if_neg h⟩
theorem par_yes {s : ByteArray} (h : okP s) : parB s = true ∧ parN s = pN s := ⟨decide_eq_true h, if_pos h⟩

theorem dd_digits : ∀ (f u : Nat), u < f → ∀ b ∈ Lib.decDigits u, isD b.toNat
  | 0, u, h => by omega
  | f + 1, u, h => by
    intro b hb
    by_cases h1 : u < 10
    · rw [Lib.decDigits_one h1] at hb
      simp at hb
      subst hb
      unfold isD
      simp
      omega
    · rw [Lib.decDigits, dif_neg h1, List.mem_append] at hb
      rcases hb with hb | hb
      · exact dd_digits f (u / 10) (by omega) b hb
      · simp at hb
        subst hb
        unfold isD
        simp
        omega
theorem itoa_shape (n : Int) : (∃ l, Lib.itoa n = 45 :: l ∧ ∀ b ∈ l, isD b.toNat) ∨ (∀ b ∈ Lib.itoa n, isD b.toNat) := by
  unfold Lib.itoa
  split
  · exact .inl ⟨_, rfl, dd_digits _ _ (Nat.lt_succ_self _)⟩
  · exact .inr (dd_digits _ _ (Nat.lt_succ_self _))
theorem bn_list {s : ByteArray} {j : Nat} (h : j < s.size) : ∃ b, s.data.toList[j]? = some b ∧ b.toNat = bn s j := by
  refine ⟨s[j]'h, ?_, by rw [get_bn]⟩
  have : j < s.data.toList.length := by simp only [Array.length_toList]; exact h
  rw [List.getElem?_eq_getElem this]
  rfl
/-- What a numeral looks like. -/
theorem shape {s : ByteArray} {n : Int} (e : fmtI n = s) {j : Nat} (hj : j < s.size) : (j = 0 ∧ bn s 0 = 45) ∨ isD (bn s j) := by
  obtain ⟨b, hb, hbn⟩ := bn_list hj
  have el : s.data.toList = Lib.itoa n := by rw [← e]; rfl
  rw [el] at hb
  rcases itoa_shape n with ⟨l, h1, h2⟩ | h
  · rw [h1] at hb
    cases j with
    | zero =>
      left
      simp at hb
      subst hb
      exact ⟨rfl, hbn.symm⟩
    | succ j =>
      right
      simp only [List.getElem?_cons_succ] at hb
      rw [← hbn]
      exact h2 b (List.mem_of_getElem? hb)
  · right
    rw [← hbn]
    exact h b (List.mem_of_getElem? hb)

/-- s without its sign. -/
structure Cut (s t : ByteArray) (d : Nat) : Prop where
  size : s.size = t.size + d
  le : d ≤ 1
  byte : ∀ j, j < t.size → bn s (j + d) = bn t j
  neg : d = 1 → bn s 0 = 45
  pos : d = 0 → ¬ isNeg s
theorem Cut.bad {s t : ByteArray} {d : Nat} (c : Cut s t d) {j : Nat} (hj : j < t.size) (h : ¬ isD (bn t j)) : ¬ okP s := by
  intro ok
  rw [← c.byte j hj] at h
  rcases shape ok.2.2 (show j + d < s.size by have := c.size; omega) with ⟨h1, h2⟩ | h1
  · obtain rfl : d = 0 := by omega
    exact c.pos rfl ⟨by have := c.size; omega, h2⟩
  · exact h h1
theorem Cut.long {s t : ByteArray} {d : Nat} (c : Cut s t d) (h : 9 < t.size) : ¬ okP s := by
  intro ok
  have hs := c.size
  have h10 := ok.2.1
  have hd := c.le
  obtain rfl : d = 0 := by omega
  have hall : ∀ j, j < s.size → isD (bn s j) := fun j hj => by
    rcases shape ok.2.2 hj with ⟨h1, h2⟩ | h1
    · exact absurd ⟨by omega, h2⟩ (c.pos rfl)
    · exact h1
  have h1 := ok.1
  rw [show min s.size 11 = s.size by omega, pk_all s _ hall] at h1
  omega
theorem Cut.num {s t : ByteArray} {d : Nat} (c : Cut s t d) (h : t.size ≤ 9) (hall : ∀ j, j < t.size → isD (bn t j)) :
    pk s (min s.size 11) ≤ 9 ∧ s.size ≤ 10 ∧ pN s = if d = 1 then -(pn t t.size : Int) else (pn t t.size : Int) := by
  have hs := c.size
  have hd := c.le
  by_cases e : d = 1
  · subst e
    have h0 : ¬ isD (bn s 0) := by rw [c.neg rfl]; unfold isD; omega
    have sh := shift_pn (s := s) (t := t) h0 t.size fun j hj => c.byte j hj
    have hn : isNeg s := ⟨by omega, c.neg rfl⟩
    rw [show min s.size 11 = t.size + 1 by omega, pN, if_pos hn, show min s.size 11 = t.size + 1 by omega, sh.1, sh.2, if_pos rfl, pk_all t _ hall]
    exact ⟨h, by omega, rfl⟩
  · obtain rfl : d = 0 := by omega
    have hall' : ∀ j, j < s.size → isD (bn s j) := fun j hj => by
      have := c.byte j (by omega)
      rw [Nat.add_zero] at this
      rw [this]; exact hall j (by omega)
    have same : ∀ i, i ≤ t.size → pn s i = pn t i := by
      intro i
      induction i with
      | zero => intro _; rfl
      | succ i ih =>
        intro hi
        have := c.byte i (by omega)
        rw [Nat.add_zero] at this
        rw [pn, pn, this, ih (by omega)]
    rw [show min s.size 11 = s.size by omega, pN, if_neg (c.pos rfl), show min s.size 11 = s.size by omega, if_neg (by omega), pk_all s _ hall', hs, Nat.add_zero, same _ (Nat.le_refl _)]
    exact ⟨by omega, by omega, rfl⟩
theorem bn_eq (s : ByteArray) (j : Nat) : bn s j = ((s.data.toList[j]?).map UInt8.toNat).getD 0 := by
  by_cases h : j < s.size
  · obtain ⟨b, hb, e⟩ := bn_list h
    rw [hb, ← e]; rfl
  · unfold bn
    rw [dif_neg h]
    have : s.data.toList.length ≤ j := by simp only [Array.length_toList]; show s.size ≤ j; omega
    rw [List.getElem?_eq_none this]; rfl
theorem size_eq' (s : ByteArray) : s.size = s.data.toList.length := by simp only [Array.length_toList]; rfl
/-- The trimmed text. -/
theorem cut_of (s : ByteArray) : ∃ (t : ByteArray) (d : Nat), (⟨(Lib.trimPrefix s.data.toList (⟨#[45]⟩ : ByteArray).data.toList).toArray⟩ : ByteArray) = t ∧ Cut s t d := by
  have hsz := size_eq' s
  have hb0 := bn_eq s 0
  rcases hl : s.data.toList with _ | ⟨b, l⟩
  · refine ⟨s, 0, ?_, ⟨by omega, by omega, fun j _ => rfl, fun h => by omega, fun _ h => ?_⟩⟩
    · apply ByteArray.ext; apply Array.toList_inj.1
      rw [hl]; rfl
    · have h1 : s.size = 0 := by rw [hsz, hl]; rfl
      have := h.1
      omega
  · rw [hl] at hsz hb0
    by_cases hb : b = 45
    · subst hb
      refine ⟨⟨l.toArray⟩, 1, ?_, ⟨by rw [size_eq' ⟨l.toArray⟩, hsz]; simp, by omega, fun j _ => ?_, fun _ => hb0, fun h => by omega⟩⟩
      · apply ByteArray.ext; apply Array.toList_inj.1; rfl
      · rw [bn_eq s, bn_eq ⟨l.toArray⟩, hl]; simp
    · refine ⟨s, 0, ?_, ⟨by omega, by omega, fun j _ => rfl, fun h => by omega, fun _ h => ?_⟩⟩
      · apply ByteArray.ext; apply Array.toList_inj.1
        rw [hl]
        have : Lib.hasPrefix (b :: l) [45] = false := by
          unfold Lib.hasPrefix
          have hb' : ((45 : UInt8) == b) = false := by simp; exact fun e => hb e.symm
          simp [List.isPrefixOf, hb']
        show Lib.trimPrefix (b :: l) [45] = b :: l
        unfold Lib.trimPrefix
        rw [this]; rfl
      · have h2 := h.2
        rw [hb0] at h2
        apply hb
        apply UInt8.toNat_inj.1
        simpa using h2
end Go.Proofs.YtigakhkhjjbboaaGreatDoor

namespace Go.Proofs.YtigakhkhjjbboaaGreatDoor
open Go.ChangeShapes Go.WideShapes Go.ChangeAt Go.RowKit
set_option linter.unusedVariables false

theorem ret_ib {a b : Int} {p q : Bool} (h : a = b) (k : p = q) : Ending.returned (.tuple #[.int .i64 a, .bool p]) = .returned (.tuple #[.int .i64 b, .bool q]) := by rw [h, k]

set_option maxRecDepth 100000 in
set_option maxHeartbeats 400000 in
theorem spec_ParseInt (s : ByteArray) (hm : s.size ≤ 1048576) (w : World) :
    Calls Tryz.prog 122 #[.string s] w fun e w' => e = .returned (.tuple #[.int .i64 (parN s), .bool (parB s)]) ∧ Below w.heap.size w w' := by
  have hm' : (s.size : Int) ≤ 1048576 := by omega
  have hg := get_bn s
  go_enter Tryz.func122, Tryz.ntmps122
  go_wp2
  go_loop [4, 5, 6] (fun n k i => ∃ j : Nat, j ≤ min s.size 11 ∧ i = .int .i64 j ∧ n = .int .i64 (pn s j) ∧ k = .int .i64 (pk s j)) (fun _ _ i => 11 - (intOf i).toNat)
  case atStart => exact ⟨0, by omega, rfl, rfl, rfl⟩
  case round =>
    obtain ⟨j, hj, rfl, rfl, rfl⟩ := hrel
    have hb := bn_le s j
    have hn := pn_le s (show j ≤ 11 by omega)
    have hn' : ((pn s j : Nat) : Int) ≤ 99999999999 := by omega
    have hk := pk_le s j
    clear hn
    by_cases hlt : j < s.size
    · by_cases h11 : j < 11
      · have P := Lib.hid (pn_succ s j)
        have K := Lib.hid (pk_succ s j)
        by_cases d1 : 48 ≤ bn s j
        · by_cases d2 : bn s j ≤ 57
          · have D : Hid (isD (bn s j)) := Lib.hid ⟨d1, d2⟩
            go_wp2
            go_round
            case rel => exact ⟨j + 1, by omega, by go_num, by rw [P.out, if_pos D.out]; go_num, by rw [K.out, if_pos D.out]; go_num⟩
            case measure => simp [intOf]; omega
          · have D : Hid (¬ isD (bn s j)) := Lib.hid (by unfold isD; omega)
            go_wp2
            go_round
            case rel => exact ⟨j + 1, by omega, by go_num, by rw [P.out, if_neg D.out], by rw [K.out, if_neg D.out]⟩
            case measure => simp [intOf]; omega
        · have D : Hid (¬ isD (bn s j)) := Lib.hid (by unfold isD; omega)
          go_wp2
          go_round
          case rel => exact ⟨j + 1, by omega, by go_num, by rw [P.out, if_neg D.out], by rw [K.out, if_neg D.out]⟩
          case measure => simp [intOf]; omega
      · have JM : Hid (j = min s.size 11) := Lib.hid (by omega)
        by_cases h45 : bn s 0 = 45
        · have N : Hid (isNeg s) := Lib.hid ⟨by omega, h45⟩
          have PN := Lib.hid (show pN s = -(pn s j : Int) by rw [pN, if_pos N.out, ← JM.out])
          by_cases c1 : pk s j ≤ 9
          · by_cases c2 : s.size ≤ 10
            · exact absurd c2 (by omega)
            · have E := Lib.hid (par_no (s := s) fun h => c2 h.2.1)
              go_wp2
              go_ret2
              exact ⟨ret_ib E.out.2.symm E.out.1.symm, Below.refl _ _⟩
          · have E := Lib.hid (par_no (s := s) fun h => c1 (by rw [JM.out]; exact h.1))
            go_wp2
            go_ret2
            exact ⟨ret_ib E.out.2.symm E.out.1.symm, Below.refl _ _⟩
        · have N : Hid (¬ isNeg s) := Lib.hid fun h => h45 h.2
          have PN := Lib.hid (show pN s = (pn s j : Int) by rw [pN, if_neg N.out, ← JM.out])
          by_cases c1 : pk s j ≤ 9
          · by_cases c2 : s.size ≤ 10
            · exact absurd c2 (by omega)
            · have E := Lib.hid (par_no (s := s) fun h => c2 h.2.1)
              go_wp2
              go_ret2
              exact ⟨ret_ib E.out.2.symm E.out.1.symm, Below.refl _ _⟩
          · have E := Lib.hid (par_no (s := s) fun h => c1 (by rw [JM.out]; exact h.1))
            go_wp2
            go_ret2
            exact ⟨ret_ib E.out.2.symm E.out.1.symm, Below.refl _ _⟩
    · have JM : Hid (j = min s.size 11) := Lib.hid (by omega)
      have hje : s.size ≤ j := by omega
      have hje2 : j ≤ s.size := by omega
      by_cases hz : 0 < s.size
      · by_cases h45 : bn s 0 = 45
        · have N : Hid (isNeg s) := Lib.hid ⟨hz, h45⟩
          have PN := Lib.hid (show pN s = -(pn s j : Int) by rw [pN, if_pos N.out, ← JM.out])
          by_cases c1 : pk s j ≤ 9
          · by_cases c2 : s.size ≤ 10
            · by_cases c3 : fmtI (-(pn s j : Int)) = s
              · have OK := Lib.hid (par_yes (s := s) ⟨by rw [← JM.out]; exact c1, c2, by rw [PN.out]; exact c3⟩)
                have c4 : ((fmtI (-(pn s j : Int))).toList == s.toList) = true := by rw [c3]; simp
                have c5 : (fmtI (-(pn s j : Int))).toList = s.toList := by rw [c3]
                clear c3
                go_wp2_with (go_at_call 61; refine (spec_FormatInt (-(pn s j : Int)) (by omega) (by omega) _).mono ?_; rintro e w' ⟨rfl, hb1⟩)
                all_goals go_ret2
                all_goals exact ⟨ret_ib (by rw [OK.out.2, PN.out]) OK.out.1.symm, hb1⟩
              · have E := Lib.hid (par_no (s := s) fun h => c3 (by rw [← PN.out]; exact h.2.2))
                have c5 : ¬ (fmtI (-(pn s j : Int))).toList = s.toList := fun h => c3 (by
                  rw [ByteArray.toList_eq, ByteArray.toList_eq] at h
                  apply ByteArray.ext; apply Array.toList_inj.1; exact h)
                have c6 : ((fmtI (-(pn s j : Int))).toList == s.toList) = false := by simpa using c5
                have c7 : ((fmtI (-(pn s j : Int))).toList != s.toList) = true := by simpa using c5
                clear c3
                go_wp2_with (go_at_call 61; refine (spec_FormatInt (-(pn s j : Int)) (by omega) (by omega) _).mono ?_; rintro e w' ⟨rfl, hb1⟩)
                all_goals go_ret2
                all_goals exact ⟨ret_ib E.out.2.symm E.out.1.symm, hb1⟩
            · have E := Lib.hid (par_no (s := s) fun h => c2 h.2.1)
              go_wp2
              go_ret2
              exact ⟨ret_ib E.out.2.symm E.out.1.symm, Below.refl _ _⟩
          · have E := Lib.hid (par_no (s := s) fun h => c1 (by rw [JM.out]; exact h.1))
            go_wp2
            go_ret2
            exact ⟨ret_ib E.out.2.symm E.out.1.symm, Below.refl _ _⟩
        · have N : Hid (¬ isNeg s) := Lib.hid fun h => h45 h.2
          have PN := Lib.hid (show pN s = (pn s j : Int) by rw [pN, if_neg N.out, ← JM.out])
          by_cases c1 : pk s j ≤ 9
          · by_cases c2 : s.size ≤ 10
            · by_cases c3 : fmtI ((pn s j : Int)) = s
              · have OK := Lib.hid (par_yes (s := s) ⟨by rw [← JM.out]; exact c1, c2, by rw [PN.out]; exact c3⟩)
                have c4 : ((fmtI ((pn s j : Int))).toList == s.toList) = true := by rw [c3]; simp
                have c5 : (fmtI ((pn s j : Int))).toList = s.toList := by rw [c3]
                clear c3
                go_wp2_with (go_at_call 61; refine (spec_FormatInt ((pn s j : Int)) (by omega) (by omega) _).mono ?_; rintro e w' ⟨rfl, hb1⟩)
                all_goals go_ret2
                all_goals exact ⟨ret_ib (by rw [OK.out.2, PN.out]) OK.out.1.symm, hb1⟩
              · have E := Lib.hid (par_no (s := s) fun h => c3 (by rw [← PN.out]; exact h.2.2))
                have c5 : ¬ (fmtI ((pn s j : Int))).toList = s.toList := fun h => c3 (by
                  rw [ByteArray.toList_eq, ByteArray.toList_eq] at h
                  apply ByteArray.ext; apply Array.toList_inj.1; exact h)
                have c6 : ((fmtI ((pn s j : Int))).toList == s.toList) = false := by simpa using c5
                have c7 : ((fmtI ((pn s j : Int))).toList != s.toList) = true := by simpa using c5
                clear c3
                go_wp2_with (go_at_call 61; refine (spec_FormatInt ((pn s j : Int)) (by omega) (by omega) _).mono ?_; rintro e w' ⟨rfl, hb1⟩)
                all_goals go_ret2
                all_goals exact ⟨ret_ib E.out.2.symm E.out.1.symm, hb1⟩
            · have E := Lib.hid (par_no (s := s) fun h => c2 h.2.1)
              go_wp2
              go_ret2
              exact ⟨ret_ib E.out.2.symm E.out.1.symm, Below.refl _ _⟩
          · have E := Lib.hid (par_no (s := s) fun h => c1 (by rw [JM.out]; exact h.1))
            go_wp2
            go_ret2
            exact ⟨ret_ib E.out.2.symm E.out.1.symm, Below.refl _ _⟩
      · have N : Hid (¬ isNeg s) := Lib.hid fun h => hz h.1
        have PN := Lib.hid (show pN s = (pn s j : Int) by rw [pN, if_neg N.out, ← JM.out])
        have c1 : pk s j ≤ 9 := by omega
        have c2 : s.size ≤ 10 := by omega
        by_cases c3 : fmtI ((pn s j : Int)) = s
        · have OK := Lib.hid (par_yes (s := s) ⟨by rw [← JM.out]; exact c1, c2, by rw [PN.out]; exact c3⟩)
          have c4 : ((fmtI ((pn s j : Int))).toList == s.toList) = true := by rw [c3]; simp
          have c5 : (fmtI ((pn s j : Int))).toList = s.toList := by rw [c3]
          clear c3
          go_wp2_with (go_at_call 61; refine (spec_FormatInt ((pn s j : Int)) (by omega) (by omega) _).mono ?_; rintro e w' ⟨rfl, hb1⟩)
          all_goals go_ret2
          all_goals exact ⟨ret_ib (by rw [OK.out.2, PN.out]) OK.out.1.symm, hb1⟩
        · have E := Lib.hid (par_no (s := s) fun h => c3 (by rw [← PN.out]; exact h.2.2))
          have c5 : ¬ (fmtI ((pn s j : Int))).toList = s.toList := fun h => c3 (by
            rw [ByteArray.toList_eq, ByteArray.toList_eq] at h
            apply ByteArray.ext; apply Array.toList_inj.1; exact h)
          have c6 : ((fmtI ((pn s j : Int))).toList == s.toList) = false := by simpa using c5
          have c7 : ((fmtI ((pn s j : Int))).toList != s.toList) = true := by simpa using c5
          clear c3
          go_wp2_with (go_at_call 61; refine (spec_FormatInt ((pn s j : Int)) (by omega) (by omega) _).mono ?_; rintro e w' ⟨rfl, hb1⟩)
          all_goals go_ret2
          all_goals exact ⟨ret_ib E.out.2.symm E.out.1.symm, hb1⟩
end Go.Proofs.YtigakhkhjjbboaaGreatDoor

namespace Go.Proofs.YtigakhkhjjbboaaGreatDoor
open Go.ChangeShapes Go.WideShapes Go.ChangeAt Go.RowKit
set_option linter.unusedVariables false

theorem pn_le9 (s : ByteArray) {i : Nat} (h : i ≤ 9) : pn s i ≤ 999999999 := by
  have h1 := pn_lt s i
  have h2 : 10 ^ i ≤ 10 ^ 9 := Nat.pow_le_pow_right (by omega) h
  have h3 : 10 ^ 9 = 1000000000 := by decide
  omega
theorem trim_at (s t : ByteArray) (et : (⟨(Lib.trimPrefix s.data.toList (⟨#[45]⟩ : ByteArray).data.toList).toArray⟩ : ByteArray) = t) (W : World) :
    Calls Tryz.prog 95 #[.string s, .string ⟨#[45]⟩] W fun e w' => e = .returned (.string t) ∧ W = w' := by
  refine (Tryz.strings_TrimPrefix s ⟨#[45]⟩ W).mono ?_
  rintro e w' ⟨rfl, rfl⟩
  exact ⟨ret_str et, rfl⟩

set_option maxRecDepth 100000 in
set_option maxHeartbeats 400000 in
theorem impl_ParseInt_long (s t : ByteArray) (d : Nat) (et : (⟨(Lib.trimPrefix s.data.toList (⟨#[45]⟩ : ByteArray).data.toList).toArray⟩ : ByteArray) = t) (c : Cut s t d) (hm : s.size ≤ 1048576) (hl : 9 < t.size) (w : World) :
    Calls Tryz.prog 55 #[.string s] w fun e w' => e = .returned (.tuple #[.int .i64 (parN s), .bool (parB s)]) ∧ Below w.heap.size w w' := by
  have TP := Lib.hid (trim_at s t et)
  have E := Lib.hid (par_no (c.long hl))
  have hts : t.size ≤ 1048576 := by have := c.size; omega
  clear et c
  go_enter Tryz.func55, Tryz.ntmps55
  go_wp2_with (go_at_call 95; refine (TP.out _).mono ?_; rintro e w' ⟨rfl, rfl⟩)
  go_ret2
  exact ⟨ret_ib E.out.2.symm E.out.1.symm, Below.refl _ _⟩

set_option maxRecDepth 100000 in
set_option maxHeartbeats 400000 in
theorem impl_ParseInt_short (s t : ByteArray) (d : Nat) (et : (⟨(Lib.trimPrefix s.data.toList (⟨#[45]⟩ : ByteArray).data.toList).toArray⟩ : ByteArray) = t) (c : Cut s t d) (hm : s.size ≤ 1048576) (hl : t.size ≤ 9) (w : World) (ht : Tab w) :
    Calls Tryz.prog 55 #[.string s] w fun e w' => e = .returned (.tuple #[.int .i64 (parN s), .bool (parB s)]) ∧ Below w.heap.size w w' := by
  have TP := Lib.hid (trim_at s t et)
  have HT := Lib.hid (Lib.tabBelow_of_tabIs ht)
  have C := Lib.hid c
  clear et ht c
  go_enter Tryz.func55, Tryz.ntmps55
  go_wp2_with (go_at_call 95; refine (TP.out _).mono ?_; rintro e w' ⟨rfl, rfl⟩)
  go_loopw [5] (fun n wr => ∃ pos : Nat, pos ≤ t.size ∧ wr = w.iter t pos ∧ n = .int .i64 (pn t pos) ∧ Hid (∀ j, j < pos → isD (bn t j))) (fun _ wr => t.size - wr.iterPos w.heap.size)
  case atStart => exact ⟨0, by omega, rfl, rfl, Lib.hid (by omega)⟩
  case round =>
    obtain ⟨pos, hp, rfl, rfl, hH⟩ := hrel
    have hn := pn_le9 t (show pos ≤ 9 by omega)
    have hn' : ((pn t pos : Nat) : Int) ≤ 999999999 := by omega
    clear hn
    by_cases hlt : pos < t.size
    · have hb := bn_le t pos
      have hg := get_bn t pos hlt
      by_cases hlow : bn t pos < 128
      · have hnx := fun ty => run_next_ascii (P := Tryz.prog) w t pos ty hlt (by rw [hg]; exact hlow)
        rw [hg] at hnx
        clear hg
        by_cases hd : isD (bn t pos)
        · have P := Lib.hid (pn_succ t pos)
          have D := Lib.hid hd
          have d1 : 48 ≤ bn t pos := hd.1
          have d2 : bn t pos ≤ 57 := hd.2
          clear hd
          go_wp2
          go_roundw
          case rel => exact ⟨pos + 1, by omega, rfl, by rw [P.out, if_pos D.out]; go_num, Lib.hid (fun j hj => by
            by_cases e : j = pos
            · rw [e]; exact D.out
            · exact hH.out j (by omega))⟩
          case measure => simp; omega
        · have E := Lib.hid (par_no (C.out.bad hlt hd))
          by_cases d1 : 48 ≤ bn t pos
          · have d2 : ¬ bn t pos ≤ 57 := fun h => hd ⟨d1, h⟩
            clear hd
            go_wp2
            go_ret2
            exact ⟨ret_ib E.out.2.symm E.out.1.symm, (Below.refl _ _).alloc (Nat.le_refl _) _⟩
          · clear hd
            go_wp2
            go_ret2
            exact ⟨ret_ib E.out.2.symm E.out.1.symm, (Below.refl _ _).alloc (Nat.le_refl _) _⟩
      · have hdh := decode_high t pos hlt (by rw [hg]; omega)
        have hdl := decode_le t pos
        have hnx := fun ty => run_next_any (P := Tryz.prog) w t pos ty hlt
        obtain ⟨r, er⟩ : ∃ r, (Utf8.decode t pos).1 = r := ⟨_, rfl⟩
        rw [er] at hdh hdl hnx
        have hr1 := hdh.1
        have E := Lib.hid (par_no (C.out.bad hlt (by unfold isD; omega)))
        clear hg er hdh hlow
        go_wp2
        go_ret2
        exact ⟨ret_ib E.out.2.symm E.out.1.symm, (Below.refl _ _).alloc (Nat.le_refl _) _⟩
    · have hnx := fun ty => run_next_end (P := Tryz.prog) w t pos ty hlt
      obtain rfl : pos = t.size := by omega
      have cn := C.out.num hl hH.out
      have csz := C.out.size
      have cle := C.out.le
      have HT1 := Lib.hid (HT.out (w.iter t t.size) ((Below.refl _ _).alloc (Nat.le_refl _) _))
      by_cases hd1 : d = 1
      · have PN : Hid (pN s = -(pn t t.size : Int)) := Lib.hid (by rw [cn.2.2, if_pos hd1])
        have hlen : t.size < s.size := by omega
        clear csz cle hd1
        by_cases c3 : fmtI (-(pn t t.size : Int)) = s
        · have OK := Lib.hid (par_yes (s := s) ⟨cn.1, cn.2.1, by rw [PN.out]; exact c3⟩)
          have c4 : ((fmtI (-(pn t t.size : Int))).toList == s.toList) = true := by rw [c3]; simp
          have c5 : (fmtI (-(pn t t.size : Int))).toList = s.toList := by rw [c3]
          clear c3 cn
          go_wp2_with (go_at_call 53; refine (impl_FormatInt (-(pn t t.size : Int)) (by omega) (by omega) _ HT1.out).mono ?_; rintro e w' ⟨rfl, hb1⟩)
          go_ret2
          exact ⟨ret_ib (by rw [OK.out.2, PN.out]) OK.out.1.symm, ((Below.refl _ _).alloc (Nat.le_refl _) _).trans (hb1.mono (by simp [World.iter]))⟩
        · have E := Lib.hid (par_no (s := s) fun h => c3 (by rw [← PN.out]; exact h.2.2))
          have c5 : ¬ (fmtI (-(pn t t.size : Int))).toList = s.toList := fun h => c3 (by
            rw [ByteArray.toList_eq, ByteArray.toList_eq] at h
            apply ByteArray.ext; apply Array.toList_inj.1; exact h)
          have c6 : ((fmtI (-(pn t t.size : Int))).toList == s.toList) = false := by simpa using c5
          have c7 : ((fmtI (-(pn t t.size : Int))).toList != s.toList) = true := by simpa using c5
          clear c3 cn
          go_wp2_with (go_at_call 53; refine (impl_FormatInt (-(pn t t.size : Int)) (by omega) (by omega) _ HT1.out).mono ?_; rintro e w' ⟨rfl, hb1⟩)
          go_ret2
          exact ⟨ret_ib E.out.2.symm E.out.1.symm, ((Below.refl _ _).alloc (Nat.le_refl _) _).trans (hb1.mono (by simp [World.iter]))⟩
      · have PN : Hid (pN s = (pn t t.size : Int)) := Lib.hid (by rw [cn.2.2, if_neg hd1])
        have hlen : ¬ t.size < s.size := by omega
        clear csz cle hd1
        by_cases c3 : fmtI ((pn t t.size : Int)) = s
        · have OK := Lib.hid (par_yes (s := s) ⟨cn.1, cn.2.1, by rw [PN.out]; exact c3⟩)
          have c4 : ((fmtI ((pn t t.size : Int))).toList == s.toList) = true := by rw [c3]; simp
          have c5 : (fmtI ((pn t t.size : Int))).toList = s.toList := by rw [c3]
          clear c3 cn
          go_wp2_with (go_at_call 53; refine (impl_FormatInt ((pn t t.size : Int)) (by omega) (by omega) _ HT1.out).mono ?_; rintro e w' ⟨rfl, hb1⟩)
          go_ret2
          exact ⟨ret_ib (by rw [OK.out.2, PN.out]) OK.out.1.symm, ((Below.refl _ _).alloc (Nat.le_refl _) _).trans (hb1.mono (by simp [World.iter]))⟩
        · have E := Lib.hid (par_no (s := s) fun h => c3 (by rw [← PN.out]; exact h.2.2))
          have c5 : ¬ (fmtI ((pn t t.size : Int))).toList = s.toList := fun h => c3 (by
            rw [ByteArray.toList_eq, ByteArray.toList_eq] at h
            apply ByteArray.ext; apply Array.toList_inj.1; exact h)
          have c6 : ((fmtI ((pn t t.size : Int))).toList == s.toList) = false := by simpa using c5
          have c7 : ((fmtI ((pn t t.size : Int))).toList != s.toList) = true := by simpa using c5
          clear c3 cn
          go_wp2_with (go_at_call 53; refine (impl_FormatInt ((pn t t.size : Int)) (by omega) (by omega) _ HT1.out).mono ?_; rintro e w' ⟨rfl, hb1⟩)
          go_ret2
          exact ⟨ret_ib E.out.2.symm E.out.1.symm, ((Below.refl _ _).alloc (Nat.le_refl _) _).trans (hb1.mono (by simp [World.iter]))⟩

theorem impl_ParseInt (s : ByteArray) (hm : s.size ≤ 1048576) (w : World) (ht : Tab w) :
    Calls Tryz.prog 55 #[.string s] w fun e w' => e = .returned (.tuple #[.int .i64 (parN s), .bool (parB s)]) ∧ Below w.heap.size w w' := by
  obtain ⟨t, d, et, c⟩ := cut_of s
  by_cases hl : 9 < t.size
  · exact impl_ParseInt_long s t d et c hm hl w
  · exact impl_ParseInt_short s t d et c hm (by omega) w ht
end Go.Proofs.YtigakhkhjjbboaaGreatDoor
