/- What the functions on a query's variables and constants answer. Conditions: none beyond each theorem's own. -/
import Derived.Test.YtnmhppiccganoaaPut
namespace Go.Proofs.Ytnmhppiccganoaa
open Go.ChangeShapes Go.WideShapes Go.ChangeAt Go.RowKit Go.Sort
open Go.Deep (BT)
set_option linter.unusedVariables false
set_option linter.unusedSimpArgs false

/-- All terms of the atoms, in their order. -/
def terms (l : FL) : List Int := l.flatMap fun f => f.2
/-- Those from a to b, once each, ascending. -/
def wl (a b : Int) (ys : List Int) : List Int := (ys.filter fun x => inB x a b).foldl putI []
theorem wl_yes {a b x : Int} (ys : List Int) (h : inB x a b = true) : wl a b (ys ++ [x]) = putI (wl a b ys) x := by simp [wl, List.filter_append, h]
theorem wl_no {a b x : Int} (ys : List Int) (h : inB x a b = false) : wl a b (ys ++ [x]) = wl a b ys := by simp [wl, List.filter_append, h]
theorem foldl_asc : ∀ (ys acc : List Int), Asc acc → Asc (ys.foldl putI acc)
  | [], _, h => h
  | y :: ys, acc, h => foldl_asc ys _ (putI_asc h)
theorem wl_asc (a b : Int) (ys : List Int) : Asc (wl a b ys) := foldl_asc _ [] List.Pairwise.nil
theorem foldl_mem : ∀ (ys acc : List Int) (x : Int), x ∈ ys.foldl putI acc ↔ x ∈ ys ∨ x ∈ acc
  | [], _, _ => by simp
  | y :: ys, acc, x => by
    rw [List.foldl_cons, foldl_mem ys, putI_mem, List.mem_cons]
    constructor
    · rintro (h | h | h)
      · exact .inl (.inr h)
      · exact .inl (.inl h)
      · exact .inr h
    · rintro ((h | h) | h)
      · exact .inr (.inl h)
      · exact .inl h
      · exact .inr (.inr h)
theorem wl_mem (a b : Int) (ys : List Int) (x : Int) : x ∈ wl a b ys ↔ x ∈ ys ∧ inB x a b = true := by
  unfold wl
  rw [foldl_mem]
  simp
theorem asc_len : ∀ (l : List Int) (a b : Int), Asc l → (∀ x ∈ l, a ≤ x ∧ x ≤ b) → l.length ≤ (b - a + 1).toNat
  | [], a, b, _, _ => by simp
  | y :: ys, a, b, h, hr => by
    have h1 : (∀ c ∈ ys, y < c) ∧ Asc ys := by simpa [Asc, List.pairwise_cons] using h
    have h2 := asc_len ys (y + 1) b h1.2 fun x hx => ⟨by have := h1.1 x hx; omega, (hr x (by simp [hx])).2⟩
    have h3 := hr y (by simp)
    rw [List.length_cons]
    omega
theorem wl_len (a b : Int) (ys : List Int) : (wl a b ys).length ≤ (b - a + 1).toNat := asc_len _ a b (wl_asc a b ys) fun x hx => by
  have := ((wl_mem a b ys x).1 hx).2
  simpa [inB] using this
theorem terms_take (l : FL) {k : Nat} (hk : k < l.length) {r : Int} {xs : List Int} (hf : l.getD k (0, []) = (r, xs)) : terms (l.take (k + 1)) = terms (l.take k) ++ xs := by
  unfold terms
  rw [List.take_succ_eq_append_getElem hk, List.flatMap_append]
  have : l[k] = l.getD k (0, []) := by simp [List.getD_eq_getElem?_getD, hk]
  rw [this, hf]
  simp
theorem len_hid {a b : Int} {out ys : List Int} (h : out = wl a b ys) (hab : b - a + 1 ≤ 1000) : out.length ≤ 1000 := by
  have := wl_len a b ys
  rw [h]; omega

end Go.Proofs.Ytnmhppiccganoaa
