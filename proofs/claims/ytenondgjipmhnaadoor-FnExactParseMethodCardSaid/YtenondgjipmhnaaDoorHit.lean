/- The texts of facts, parsed both ways: plain facts. Conditions: none beyond each theorem's own. -/
import Derived.Test.YtenondgjipmhnaaDoorCallS
namespace Go.Proofs.YtenondgjipmhnaaDoor
open Go.ChangeShapes Go.WideShapes Go.ChangeAt Go.RowKit Go.Sort
set_option linter.unusedVariables false
set_option linter.unusedSimpArgs false

theorem digits10 {d : Int} (h0 : 0 ≤ d) (h1 : d ≤ 9) : d = 0 ∨ d = 1 ∨ d = 2 ∨ d = 3 ∨ d = 4 ∨ d = 5 ∨ d = 6 ∨ d = 7 ∨ d = 8 ∨ d = 9 := by omega
theorem dg_ne {d : Int} (h0 : 0 ≤ d) (h1 : d ≤ 9) : dg d ≠ 40 ∧ dg d ≠ 44 := by
  rcases digits10 h0 h1 with rfl | rfl | rfl | rfl | rfl | rfl | rfl | rfl | rfl | rfl <;> decide
theorem pN_digit {d : Int} (h0 : 0 ≤ d) (h1 : d ≤ 9) : pN ⟨#[dg d]⟩ = d ∧ pk ⟨#[dg d]⟩ (min (⟨#[dg d]⟩ : ByteArray).size 11) ≤ 9 := by
  rcases digits10 h0 h1 with rfl | rfl | rfl | rfl | rfl | rfl | rfl | rfl | rfl | rfl <;> decide +kernel
theorem par_digit {d : Int} (h0 : 0 ≤ d) (h1 : d ≤ 9) : parB ⟨#[dg d]⟩ = true ∧ parN ⟨#[dg d]⟩ = d := by
  obtain ⟨e1, e2⟩ := pN_digit h0 h1
  have h := par_yes (s := ⟨#[dg d]⟩) ⟨e2, by show 1 ≤ 10; omega, by rw [e1]; exact fmt_digit h0 h1⟩
  exact ⟨h.1, by rw [h.2, e1]⟩
theorem numS_digit {d : Int} (h0 : 0 ≤ d) (h1 : d ≤ 9) : numS ⟨#[dg d]⟩ = d := by
  obtain ⟨e1, e2⟩ := par_digit h0 h1
  unfold numS
  rw [if_pos e1, e2]

theorem ba_ext {a b : ByteArray} (h : a.data.toList = b.data.toList) : a = b := by
  apply ByteArray.ext; apply Array.toList_inj.1; exact h
theorem extract_list (L : List UInt8) (a b : Nat) : (⟨L.toArray⟩ : ByteArray).extract a b = ⟨((L.drop a).take (b - a)).toArray⟩ := by
  apply ba_ext
  rw [Lib.extract_data]
theorem bn_mk (L : List UInt8) (j : Nat) : bn ⟨L.toArray⟩ j = ((L[j]?).map UInt8.toNat).getD 0 := bn_eq _ _
theorem size_mk (L : List UInt8) : (⟨L.toArray⟩ : ByteArray).size = L.length := by rw [size_eq']

def wrd (xs : List Int) : List ByteArray := xs.map fun x => ⟨#[dg x]⟩
theorem all_cons {x : Int} {xs : List Int} (h : allB 0 9 (x :: xs) = true) : 0 ≤ x ∧ x ≤ 9 ∧ allB 0 9 xs = true := by
  unfold allB at h ⊢
  rw [List.all_cons, Bool.and_eq_true] at h
  have := h.1
  simp [inB] at this
  exact ⟨this.1, this.2, h.2⟩
theorem words_comma : ∀ xs : List Int, xs ≠ [] → allB 0 9 xs = true → wordsI ⟨(commaL xs).toArray⟩ = wrd xs
  | [], h, _ => absurd rfl h
  | [x], _, h => by
    obtain ⟨h0, h1, _⟩ := all_cons h
    have hne := (dg_ne h0 h1).2
    have hi : Lib.indexB ⟨(commaL [x]).toArray⟩ ⟨#[44]⟩ = -1 := by
      show Lib.index [dg x] [44] = -1
      rw [Lib.index_one]
      simp [Lib.indexByte, hne]
    unfold wordsI
    rw [Lib.splitB_miss _ _ _ _ hi]
    rfl
  | x :: y :: r, _, h => by
    obtain ⟨h0, h1, h2⟩ := all_cons h
    have ih := words_comma (y :: r) (by simp) h2
    have hne := (dg_ne h0 h1).2
    have hi : Lib.indexB ⟨(commaL (x :: y :: r)).toArray⟩ ⟨#[44]⟩ = ((1 : Nat) : Int) := by
      show Lib.index (dg x :: 44 :: commaL (y :: r)) [44] = 1
      rw [Lib.index_one]
      simp [Lib.indexByte, hne]
    have hx : (⟨(commaL (x :: y :: r)).toArray⟩ : ByteArray).extract (1 + (⟨#[44]⟩ : ByteArray).size) (⟨(commaL (x :: y :: r)).toArray⟩ : ByteArray).size = ⟨(commaL (y :: r)).toArray⟩ := by
      rw [size_mk, extract_list]
      show (⟨(((dg x :: 44 :: commaL (y :: r)).drop 2).take ((dg x :: 44 :: commaL (y :: r)).length - 2)).toArray⟩ : ByteArray) = _
      rw [List.take_of_length_le (by simp)]
      rfl
    have hx0 : (⟨(commaL (x :: y :: r)).toArray⟩ : ByteArray).extract 0 (1 + 0) = ⟨#[dg x]⟩ := by
      rw [extract_list]; rfl
    unfold wordsI at ih ⊢
    rw [Lib.countB_hit _ _ 1 (by decide) hi, hx, Nat.add_comm, Lib.splitB_hit _ _ _ _ 1 hi, hx, hx0, ih]
    rfl

theorem num_words {xs : List Int} (h : allB 0 9 xs = true) : allN (wrd xs) ∧ nums (wrd xs) = xs ∧ (wrd xs).map numS = xs := by
  induction xs with
  | nil => exact ⟨fun x hx => by simp [wrd] at hx, rfl, rfl⟩
  | cons x xs ih =>
    obtain ⟨h0, h1, h2⟩ := all_cons h
    obtain ⟨i1, i2, i3⟩ := ih h2
    obtain ⟨e1, e2⟩ := par_digit h0 h1
    refine ⟨fun y hy => ?_, ?_, ?_⟩
    · rcases List.mem_cons.1 (show y ∈ (⟨#[dg x]⟩ : ByteArray) :: wrd xs from hy) with rfl | hy
      · exact e1
      · exact i1 y hy
    · show parN ⟨#[dg x]⟩ :: nums (wrd xs) = _
      rw [e2, i2]
    · show numS ⟨#[dg x]⟩ :: (wrd xs).map numS = _
      rw [numS_digit h0 h1, i3]

theorem fmtOk_parts {r : Int} {xs : List Int} (h : fmtOk r xs = true) : 0 ≤ r ∧ r ≤ 2 ∧ xs ≠ [] ∧ allB 0 9 xs = true := by
  unfold fmtOk at h
  rw [Bool.and_eq_true, Bool.and_eq_true] at h
  obtain ⟨⟨h1, h2⟩, h3⟩ := h
  have h1' : 0 ≤ r ∧ r ≤ 2 := by simpa [inB] using h1
  have h2' : 1 ≤ (xs.length : Int) ∧ (xs.length : Int) ≤ 3 := by simpa [inB] using h2
  refine ⟨h1'.1, h1'.2, fun e => ?_, h3⟩
  subst e
  simp at h2'

theorem hit_impl {r : Int} {xs : List Int} {s : ByteArray} (h : fmtOk r xs = true) (e : fmtF r xs = s) : numI s = ⟨#[dg r]⟩ ∧ bodyI s = ⟨(commaL xs).toArray⟩ := by
  obtain ⟨h0, h1, h2, h3⟩ := fmtOk_parts h
  have hne := (dg_ne h0 (show r ≤ 9 by omega)).1
  rw [fmtF_yes h] at e
  have ed : s.data.toList = 114 :: dg r :: 40 :: (commaL xs ++ [41]) := by subst e; simp
  have hi : Lib.index s.data.toList [40] = 2 := by
    rw [ed, Lib.index_one]
    simp [Lib.indexByte, hne]
  have hc : Lib.cut s.data.toList [40] = ([114, dg r], commaL xs ++ [41], true) := by
    unfold Lib.cut
    rw [hi, if_pos (by decide), ed]
    rfl
  have e1 : hdI s = ⟨#[114, dg r]⟩ := by unfold hdI; rw [hc]
  have e2 : tlI s = ⟨(commaL xs ++ [41]).toArray⟩ := by unfold tlI; rw [hc]
  refine ⟨?_, ?_⟩
  · unfold numI
    rw [e1]
    rfl
  · unfold bodyI
    rw [e2]
    have hs : Lib.hasSuffix (commaL xs ++ [41]) [41] = true := by
      unfold Lib.hasSuffix
      rw [List.isSuffixOf_iff_suffix]
      exact List.suffix_append _ _
    show (⟨(Lib.trimSuffix (commaL xs ++ [41]) [41]).toArray⟩ : ByteArray) = _
    unfold Lib.trimSuffix
    rw [if_pos hs]
    congr 2
    rw [List.length_append, List.length_singleton, Nat.add_sub_cancel, List.take_left']
    rfl

/-- One byte more. -/
def stepC (p : List ByteArray × ByteArray) (b : UInt8) : List ByteArray × ByteArray := if b = 44 then (p.1 ++ [p.2], ⟨#[]⟩) else (p.1, p.2 ++ ⟨#[b]⟩)
theorem cutS_fold (L : List UInt8) : ∀ i, i ≤ L.length → cutS ⟨L.toArray⟩ i = (L.take i).foldl stepC ([], ⟨#[]⟩)
  | 0, _ => rfl
  | i + 1, h => by
    have ih := cutS_fold L i (by omega)
    have hb : bn ⟨L.toArray⟩ i = (L[i]'(by omega)).toNat := by rw [bn_mk, List.getElem?_eq_getElem (by omega)]; rfl
    rw [List.take_succ_eq_append_getElem (by omega), List.foldl_append, ← ih]
    show _ = stepC _ _
    by_cases e : L[i]'(by omega) = 44
    · rw [cutS_hit (by rw [hb, e]; rfl)]
      unfold stepC
      rw [if_pos e]
    · rw [cutS_miss (by rw [hb]; intro h; exact e (UInt8.toNat_inj.1 h))]
      unfold stepC
      rw [if_neg e, extract_list]
      have : (L.drop i).take (i + 1 - i) = [L[i]'(by omega)] := by
        rw [show i + 1 - i = 1 by omega, List.drop_eq_getElem_cons (by omega)]
        rfl
      rw [this]
theorem fold_comma : ∀ (xs : List Int) (acc : List ByteArray), xs ≠ [] → allB 0 9 xs = true → ((commaL xs).foldl stepC (acc, ⟨#[]⟩)).1 ++ [((commaL xs).foldl stepC (acc, ⟨#[]⟩)).2] = acc ++ wrd xs
  | [], _, h, _ => absurd rfl h
  | [x], acc, _, h => by
    obtain ⟨h0, h1, _⟩ := all_cons h
    have hne := (dg_ne h0 h1).2
    show (stepC (acc, ⟨#[]⟩) (dg x)).1 ++ [(stepC (acc, ⟨#[]⟩) (dg x)).2] = _
    unfold stepC
    rw [if_neg hne]
    rfl
  | x :: y :: r, acc, _, h => by
    obtain ⟨h0, h1, h2⟩ := all_cons h
    have hne := (dg_ne h0 h1).2
    have ih := fold_comma (y :: r) (acc ++ [⟨#[dg x]⟩]) (by simp) h2
    have e : stepC (stepC (acc, ⟨#[]⟩) (dg x)) 44 = (acc ++ [⟨#[dg x]⟩], ⟨#[]⟩) := by
      unfold stepC
      rw [if_neg hne]
      rfl
    show ((commaL (y :: r)).foldl stepC (stepC (stepC (acc, ⟨#[]⟩) (dg x)) 44)).1 ++ [((commaL (y :: r)).foldl stepC (stepC (stepC (acc, ⟨#[]⟩) (dg x)) 44)).2] = _
    rw [e, ih, List.append_assoc]
    rfl
theorem cutW_comma {xs : List Int} (h : xs ≠ []) (h2 : allB 0 9 xs = true) : cutW ⟨(commaL xs).toArray⟩ = wrd xs := by
  have e := fold_comma xs [] h h2
  unfold cutW
  rw [size_mk, cutS_fold _ _ (Nat.le_refl _), List.take_length, e]
  rfl

theorem hit_spec {r : Int} {xs : List Int} {s H : ByteArray} {ws : List ByteArray} (h : fmtOk r xs = true) (e : fmtF r xs = s) (hc : CallIs s H ws) : relS H = r ∧ ws.map numS = xs := by
  obtain ⟨h0, h1, h2, h3⟩ := fmtOk_parts h
  have hne := (dg_ne h0 (show r ≤ 9 by omega)).1
  rw [fmtF_yes h] at e
  have ed : s = ⟨(114 :: dg r :: 40 :: (commaL xs ++ [41])).toArray⟩ := by rw [← e]; simp
  have hsz : s.size = (commaL xs).length + 4 := by rw [ed, size_mk]; simp
  have b0 : bn s 0 = 114 := by rw [ed, bn_mk]; rfl
  have b1 : bn s 1 ≠ 40 := by
    rw [ed, bn_mk]
    show (dg r).toNat ≠ 40
    intro h
    exact hne (UInt8.toNat_inj.1 h)
  have b2 : bn s 2 = 40 := by rw [ed, bn_mk]; rfl
  have bl : bn s (s.size - 1) = 41 := by
    rw [hsz, ed, bn_mk, show (commaL xs).length + 4 - 1 = (commaL xs).length + 3 by omega]
    simp [List.getElem?_append_right]
  have h2c : isCall s 2 := ⟨by omega, b2, bl⟩
  rcases hc with ⟨i, hi, hno, rfl, rfl⟩ | ⟨hno, _⟩
  · have hi2 : i = 2 := by
      have a : ¬ 2 < i := fun h => hno 2 h h2c
      have hb := hi.2.1
      rcases (show i = 0 ∨ i = 1 ∨ i = 2 by omega) with rfl | rfl | rfl
      · omega
      · exact absurd hb b1
      · rfl
    subst hi2
    have eH : s.extract 0 2 = ⟨#[114, dg r]⟩ := by rw [ed, extract_list]; rfl
    have eW : s.extract (2 + 1) (s.size - 1) = ⟨(commaL xs).toArray⟩ := by
      rw [hsz, ed, extract_list]
      show (⟨((commaL xs ++ [41]).take ((commaL xs).length + 4 - 1 - 3)).toArray⟩ : ByteArray) = _
      rw [show (commaL xs).length + 4 - 1 - 3 = (commaL xs).length by omega, List.take_left']
      rfl
    rw [eH, eW, cutW_comma h2 h3]
    refine ⟨?_, (num_words h3).2.2⟩
    unfold relS
    rw [if_pos ⟨by show 2 ≤ 2; omega, rfl⟩]
    show numS ((⟨[114, dg r].toArray⟩ : ByteArray).extract 1 2) = r
    rw [extract_list]
    exact numS_digit h0 (by omega)
  · exact absurd h2c (hno 2)

theorem prs_of {S : List Int} {r : Int} {xs : List Int} {s : ByteArray} (h : factB S r xs = true) (e : fmtF r xs = s) : prs S s = (r, xs, true) := by
  have hf := (factB_len h).2
  obtain ⟨h0, h1, h2, h3⟩ := fmtOk_parts hf
  obtain ⟨e1, e2⟩ := hit_impl hf e
  obtain ⟨p1, p2⟩ := par_digit h0 (show r ≤ 9 by omega)
  obtain ⟨n1, n2, _⟩ := num_words h3
  have ew : wordsI (bodyI s) = wrd xs := by rw [e2, words_comma xs h2 h3]
  have ok : okPI S s := ⟨by rw [e1]; exact p1, by rw [ew]; exact n1, by rw [e1, p2, ew, n2]; exact h, by rw [e1, p2, ew, n2]; exact e⟩
  rw [prs_yes ok, e1, p2, ew, n2]
theorem prs_not {S : List Int} {s H : ByteArray} {ws : List ByteArray} (hc : CallIs s H ws) (h : ¬ (factB S (relS H) (ws.map numS) = true ∧ fmtF (relS H) (ws.map numS) = s)) : prs S s = (0, [], false) := by
  refine prs_no fun ok => h ?_
  obtain ⟨e1, e2⟩ := hit_spec (factB_len ok.2.2.1).2 ok.2.2.2 hc
  rw [e1, e2]
  exact ⟨ok.2.2.1, ok.2.2.2⟩
end Go.Proofs.YtenondgjipmhnaaDoor
