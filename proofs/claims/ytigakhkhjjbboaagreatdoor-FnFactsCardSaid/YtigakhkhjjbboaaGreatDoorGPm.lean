/- What the model's ParseFact answers. Conditions: none beyond each theorem's own. Marks in one fact of the call's own. Conditions: none beyond each theorem's own. What the law of facts wants of numbers: a fact is in the list to which it has been added; a text is read back. Conditions: none beyond each theorem's own. -/
import Derived.Test.YtigakhkhjjbboaaGreatDoorGHit
import Derived.Deep.RegionLaw
import Derived.Deep.RegionHeld3
import Derived.Test.YtigakhkhjjbboaaGreatDoorMark2
import Derived.Test.YtigakhkhjjbboaaGreatDoorGDrX
import Derived.Test.YtigakhkhjjbboaaGreatDoorAddM

namespace Go.Proofs.YtigakhkhjjbboaaGreatDoor
open Go.ChangeShapes Go.WideShapes Go.ChangeAt Go.RowKit Go.Sort
set_option linter.unusedVariables false
set_option linter.unusedSimpArgs false

theorem numsS_take (ws : List ByteArray) {k : Nat} (hk : k < ws.length) {x : ByteArray} (hx : ws.getD k ⟨#[]⟩ = x) : (ws.map numS).take (k + 1) = (ws.map numS).take k ++ [numS x] := by
  have hk' : k < (ws.map numS).length := by simpa using hk
  rw [List.take_succ_eq_append_getElem hk']
  subst hx
  simp [List.getD_eq_getElem?_getD, hk]
end Go.Proofs.YtigakhkhjjbboaaGreatDoor

namespace Go.Proofs.YtigakhkhjjbboaaGreatDoor
open Go.ChangeShapes Go.WideShapes Go.ChangeAt Go.RowKit Go.Sort
set_option linter.unusedVariables false
set_option linter.unusedSimpArgs false

theorem prs_len (S : List Int) (s : ByteArray) : (prs S s).2.1.length ≤ 3 := by
  by_cases h : okPI S s
  · rw [prs_yes h]; exact (factB_len h.2.2.1).1
  · rw [prs_no h]; simp

/-- What is turned lies from lo to below hi; new blocks may come. -/
structure Turned (lo hi : Nat) (w w' : World) : Prop where
  below : Below lo w w'
  size : w.heap.size ≤ w'.heap.size
  block : ∀ b, (b < lo ∨ hi ≤ b) → b < w.heap.size → w'.heap[b]? = w.heap[b]?

/-- A fact's numbers of the call's own, from lo to below hi. -/
def OV (w : World) (lo hi : Nat) (A : Option Addr) (c q : Nat) (xs : List Int) : Prop := OwnV w lo hi (.slice A xs.length c) q xs ∧ hi ≤ w.heap.size
theorem OV.ints {w : World} {lo hi c q : Nat} {A : Option Addr} {xs : List Int} (h : OV w lo hi A c q xs) : Ints w lo hi A xs := (OwnV.ints h.1).2.2.2
theorem OV.ri {w : World} {lo hi c q : Nat} {A : Option Addr} {xs : List Int} (h : OV w lo hi A c q xs) : RI w A xs := h.ints.mono (Nat.zero_le _) h.2
theorem OV.keep {w w' : World} {lo hi c q : Nat} {A : Option Addr} {xs : List Int} (h : OV w lo hi A c q xs) (hs : w.heap.size ≤ w'.heap.size) (hk : ∀ b, lo ≤ b → b < hi → w'.heap[b]? = w.heap[b]?) : OV w' lo hi A c q xs :=
  ⟨h.1.keep fun a b _ => hk q a b, Nat.le_trans h.2 hs⟩
theorem OV.step {w w' : World} {lo hi c q : Nat} {A : Option Addr} {xs : List Int} (h : OV w lo hi A c q xs) (b : Below w.heap.size w w') : OV w' lo hi A c q xs := h.keep b.size fun k _ hk => b.block k (by have := h.2; omega)
/-- Marks in it. -/
def MI (w : World) (lo hi : Nat) (A : Option Addr) (k : Int) (n : Nat) : Prop := Ints w lo hi A (marks k n) ∧ hi ≤ w.heap.size
theorem MI.step {w w' : World} {lo hi n : Nat} {A : Option Addr} {k : Int} (h : MI w lo hi A k n) (b : Below w.heap.size w w') : MI w' lo hi A k n := ⟨h.1.below b h.2, Nat.le_trans h.2 b.size⟩
theorem RB.step {w u u' : World} (h : Below w.heap.size w u) (b : Below u.heap.size u u') : Below w.heap.size w u' := h.trans (b.mono h.size)
end Go.Proofs.YtigakhkhjjbboaaGreatDoor

namespace Go.Proofs.YtigakhkhjjbboaaGreatDoor
open Go.ChangeShapes Go.WideShapes Go.ChangeAt Go.RowKit Go.Sort
set_option linter.unusedVariables false

theorem hasB_addI : ∀ (l : FL) (r : Int) (xs : List Int), hasB (addI l r xs) r xs = true
  | [], r, xs => by simp [addI, hasB, sameB]
  | g :: t, r, xs => by
    have ih := hasB_addI t r xs
    unfold hasB at ih ⊢
    unfold addI
    split
    · rw [List.any_cons, ih, Bool.or_true]
    · simp [sameB]
theorem hasB_add (l : FL) (r : Int) (xs : List Int) : hasB (addF l r xs) r xs = true := by
  cases h : hasB l r xs with
  | true => rw [addF_yes h]; exact h
  | false => rw [addF_no h]; exact hasB_addI l r xs
theorem addI_len : ∀ (l : FL) (r : Int) (xs : List Int), (addI l r xs).length = l.length + 1
  | [], r, xs => rfl
  | g :: t, r, xs => by
    have ih := addI_len t r xs
    unfold addI
    split
    · rw [List.length_cons, ih, List.length_cons]
    · rfl
theorem addF_len (l : FL) (r : Int) (xs : List Int) : (addF l r xs).length = l.length + (if hasB l r xs = true then 0 else 1) := by
  cases h : hasB l r xs with
  | true => rw [addF_yes h]; rfl
  | false => rw [addF_no h, addI_len]; rfl
theorem sameL_self (l : FL) : sameL l l = true := decide_eq_true rfl

/-- A text of a fact is read back if the fact is lawful, and not otherwise. -/
theorem prs_fmt_yes {S : List Int} {r : Int} {xs : List Int} (h : factB S r xs = true) : prs S (fmtF r xs) = (r, xs, true) := prs_of h rfl
theorem prs_fmt_no {S : List Int} {r : Int} {xs : List Int} (h : factB S r xs = false) : prs S (fmtF r xs) = (0, [], false) := by
  refine prs_no fun ok => ?_
  obtain ⟨_, _, h3, h4⟩ := ok
  cases hf : fmtOk r xs with
  | true =>
    obtain ⟨h0, h1, h2, h5⟩ := fmtOk_parts hf
    obtain ⟨e1, e2⟩ := hit_impl hf rfl
    obtain ⟨p1, p2⟩ := par_digit h0 (show r ≤ 9 by omega)
    obtain ⟨n1, n2, _⟩ := num_words h5
    have ew : wordsI (bodyI (fmtF r xs)) = wrd xs := by rw [e2, words_comma xs h2 h5]
    rw [e1, p2, ew, n2, h] at h3
    cases h3
  | false =>
    rw [fmtF_no hf, fmtF_yes (factB_len (by rw [fmtF_no hf] at h3; exact h3)).2] at h4
    exact absurd (congrArg ByteArray.size h4) (by simp [ByteArray.size])
theorem prs_fmt (S : List Int) (r : Int) (xs : List Int) : (prs S (fmtF r xs)).2.2 = factB S r xs ∧ (factB S r xs = true → fmtF (prs S (fmtF r xs)).1 (prs S (fmtF r xs)).2.1 = fmtF r xs) ∧ (prs S (fmtF r xs)).2.1.length ≤ xs.length := by
  cases h : factB S r xs with
  | true => rw [prs_fmt_yes h]; exact ⟨rfl, fun _ => rfl, Nat.le_refl _⟩
  | false => rw [prs_fmt_no h]; exact ⟨rfl, (fun e => nomatch e), Nat.zero_le _⟩
theorem commaL_le : ∀ xs : List Int, (commaL xs).length ≤ 2 * xs.length
  | [] => by simp [commaL]
  | [x] => by simp [commaL]
  | x :: y :: r => by
    have ih := commaL_le (y :: r)
    simp only [commaL, List.length_cons] at ih ⊢
    omega
theorem fmtF_size (r : Int) (xs : List Int) : (fmtF r xs).size ≤ 4 + 2 * xs.length := by
  have := commaL_le xs
  unfold fmtF
  split
  · simp only [ByteArray.size, List.size_toArray, List.length_append, List.length_cons, List.length_nil]
    omega
  · simp [ByteArray.size]
end Go.Proofs.YtigakhkhjjbboaaGreatDoor
