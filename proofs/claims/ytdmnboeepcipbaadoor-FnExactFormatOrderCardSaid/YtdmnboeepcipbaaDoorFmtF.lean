/- What the two functions FormatFact answer. Conditions: none beyond each theorem's own. -/
import Derived.Test.YtdmnboeepcipbaaDoorReads
import Derived.Test.YtdmnboeepcipbaaDoorFmt
import Derived.Lib.QuietBelow
namespace Go.Proofs.YtdmnboeepcipbaaDoor
open Go.ChangeShapes Go.WideShapes Go.ChangeAt Go.RowKit Go.Sort
set_option linter.unusedVariables false
set_option linter.unusedSimpArgs false

/-- The digit of d. -/
def dg (d : Int) : UInt8 := UInt8.ofNat (48 + d.toNat)
theorem fmt_digit {d : Int} (h0 : 0 ≤ d) (h1 : d ≤ 9) : fmtI d = ⟨#[dg d]⟩ := by
  unfold fmtI
  rw [Lib.itoa, if_neg (by omega), Lib.decDigits_one (by omega)]
  rfl
/-- The digits, commas between. -/
def commaL : List Int → List UInt8
  | [] => []
  | [x] => [dg x]
  | x :: y :: r => dg x :: 44 :: commaL (y :: r)
theorem commaL_snoc : ∀ (l : List Int) (x : Int), l ≠ [] → commaL (l ++ [x]) = commaL l ++ [44, dg x]
  | [], x, h => absurd rfl h
  | [y], x, _ => rfl
  | y :: z :: r, x, _ => by
    have ih := commaL_snoc (z :: r) x (by simp)
    simp only [List.cons_append] at ih ⊢
    rw [commaL, commaL, ih]
    rfl
theorem commaL_take (l : List Int) (k : Nat) (hk : k < l.length) : commaL (l.take (k + 1)) = if k = 0 then [dg (l.getD k 0)] else commaL (l.take k) ++ [44, dg (l.getD k 0)] := by
  have e : l[k] = l.getD k 0 := by simp [List.getD_eq_getElem?_getD, hk]
  rw [List.take_succ_eq_append_getElem hk, e]
  by_cases h0 : k = 0
  · subst h0; simp [commaL]
  · rw [if_neg h0, commaL_snoc]
    intro h
    have := congrArg List.length h
    rw [List.length_take, List.length_nil] at this
    omega
theorem commaL_len : ∀ l : List Int, (commaL l).length ≤ 2 * l.length
  | [] => by simp [commaL]
  | [x] => by simp [commaL]
  | x :: y :: r => by
    have := commaL_len (y :: r)
    simp only [commaL, List.length_cons] at this ⊢
    omega
theorem comma_join : ∀ l : List Int, Lib.join (l.map fun x => [dg x]) [44] = commaL l
  | [] => rfl
  | [x] => by simp [Lib.join_one, commaL]
  | x :: y :: r => by
    have ih := comma_join (y :: r)
    simp only [List.map_cons] at ih ⊢
    rw [Lib.join_cons] at ih ⊢
    rw [commaL, ← ih]
    simp [Lib.joinTail]

/-- Has the fact a text? -/
def fmtOk (r : Int) (xs : List Int) : Bool := inB r 0 2 && inB (xs.length : Int) 1 3 && allB 0 9 xs
/-- The text of a fact. -/
def fmtF (r : Int) (xs : List Int) : ByteArray := if fmtOk r xs = true then ⟨([114, dg r, 40] ++ commaL xs ++ [41]).toArray⟩ else ⟨#[]⟩
theorem fmtF_yes {r : Int} {xs : List Int} (h : fmtOk r xs = true) : fmtF r xs = ⟨([114, dg r, 40] ++ commaL xs ++ [41]).toArray⟩ := if_pos h
theorem fmtF_no {r : Int} {xs : List Int} (h : fmtOk r xs = false) : fmtF r xs = ⟨#[]⟩ := if_neg (by simp [h])

theorem allB_get {a b : Int} {xs : List Int} (h : allB a b xs = true) {k : Nat} (hk : k < xs.length) : a ≤ xs.getD k 0 ∧ xs.getD k 0 ≤ b := by
  unfold allB at h
  rw [List.all_eq_true] at h
  have := h xs[k] (List.getElem_mem _)
  have e : xs.getD k 0 = xs[k] := by simp [List.getD_eq_getElem?_getD, hk]
  rw [e]
  simpa [inB] using this

theorem string_info : (Tryd.prog.info? 9).map (fun i => (i.zero, i.size, i.bytes)) = some (some (.string ⟨#[]⟩), 1, 16) := by kernel_rfl
theorem makeStrs (n : Nat) (hn : n ≤ 1048576) :
    ∃ C : Array Value, (∀ i, i < n → C[i]? = some (.string ⟨#[]⟩)) ∧ C.size = n ∧ ∀ W : World, (Instr.makeSlice 41 (.int .i64 (n : Int)) (.int .i64 (n : Int))).run Tryd.prog W = .ok (.slice (some ⟨W.heap.size, 0, none⟩) n n) (W.alloc (.cells C 9)) := by
  obtain ⟨i0, hi, hz0, hz1, hz2⟩ := info_parts string_info
  refine ⟨madeCells #[.string ⟨#[]⟩] n, fun i hin => ?_, size_madeCells _ _, fun W => ?_⟩
  · simp [madeCells, hin, Nat.mod_one]
  · have h := run_make (P := Tryd.prog) W 41 9 i0 (.string ⟨#[]⟩) Tryd.underlying41 hi hz0 .i64 .i64 (n : Int) (n : Int) (by omega) (by omega) (by rw [hz2]; omega) (by omega)
    rw [hz1, show ((n : Int)).toNat = n by omega, Nat.mul_one] at h
    exact h

end Go.Proofs.YtdmnboeepcipbaaDoor
