/- What the two functions FormatFact answer. Conditions: none beyond each theorem's own. -/
import Derived.Test.YtimlpdcambmcjaaDoorReads
import Derived.Test.YtimlpdcambmcjaaDoorFmt
import Derived.Test.YtimlpdcambmcjaaDoorWds
import Derived.Lib.QuietBelow
namespace Go.Proofs.YtimlpdcambmcjaaDoor
open Go.ChangeShapes Go.WideShapes Go.ChangeAt Go.RowKit Go.Sort
set_option linter.unusedVariables false
set_option linter.unusedSimpArgs false

/-- The digit of d. -/
def dg (d : Int) : UInt8 := UInt8.ofNat (48 + d.toNat)
theorem fmt_digit {d : Int} (h0 : 0 ≤ d) (h1 : d ≤ 9) : fmtI d = ⟨#[dg d]⟩ := by
  unfold fmtI
  rw [Lib.itoa, if_neg (by omega), Lib.decDigits_one (by omega)]
  rfl
/-- The digits, commas between. -/
def commaL : List Int → List UInt8
  | [] => []
  | [x] => [dg x]
  | x :: y :: r => dg x :: 44 :: commaL (y :: r)
theorem commaL_snoc : ∀ (l : List Int) (x : Int), l ≠ [] → commaL (l ++ [x]) = commaL l ++ [44, dg x]
  | [], x, h => absurd rfl h
  | [y], x, _ => rfl
  | y :: z :: r, x, _ => by
    have ih := commaL_snoc (z :: r) x (by simp)
    simp only [List.cons_append] at ih ⊢
    rw [commaL, commaL, ih]
    rfl
theorem commaL_take (l : List Int) (k : Nat) (hk : k < l.length) : commaL (l.take (k + 1)) = if k = 0 then [dg (l.getD k 0)] else commaL (l.take k) ++ [44, dg (l.getD k 0)] := by
  have e : l[k] = l.getD k 0 := by simp [List.getD_eq_getElem?_getD, hk]
  rw [List.take_succ_eq_append_getElem hk, e]
  by_cases h0 : k = 0
  · subst h0; simp [commaL]
  · rw [if_neg h0, commaL_snoc]
    intro h
    have := congrArg List.length h
    rw [List.length_take, List.length_nil] at this
    omega
theorem commaL_len : ∀ l : List Int, (commaL l).length ≤ 2 * l.length
  | [] => by simp [commaL]
  | [x] => by simp [commaL]
  | x :: y :: r => by
    have := commaL_len (y :: r)
    simp only [commaL, List.length_cons] at this ⊢
    omega
theorem comma_join : ∀ l : List Int, Lib.join (l.map fun x => [dg x]) [44] = commaL l
  | [] => rfl
  | [x] => by simp [Lib.join_one, commaL]
  | x :: y :: r => by
    have ih := comma_join (y :: r)
    simp only [List.map_cons] at ih ⊢
    rw [Lib.join_cons] at ih ⊢
    rw [commaL, ← ih]
    simp [Lib.joinTail]

/-- Has the fact a text? -/
def fmtOk (r : Int) (xs : List Int) : Bool := inB r 0 2 && inB (xs.length : Int) 1 3 && allB 0 9 xs
/-- The text of a fact. -/
def fmtF (r : Int) (xs : List Int) : ByteArray := if fmtOk r xs = true then ⟨([114, dg r, 40] ++ commaL xs ++ [41]).toArray⟩ else ⟨#[]⟩
theorem fmtF_yes {r : Int} {xs : List Int} (h : fmtOk r xs = true) : fmtF r xs = ⟨([114, dg r, 40] ++ commaL xs ++ [41]).toArray⟩ := if_pos h
theorem fmtF_no {r : Int} {xs : List Int} (h : fmtOk r xs = false) : fmtF r xs = ⟨#[]⟩ := if_neg (by simp [h])

theorem allB_get {a b : Int} {xs : List Int} (h : allB a b xs = true) {k : Nat} (hk : k < xs.length) : a ≤ xs.getD k 0 ∧ xs.getD k 0 ≤ b := by
  unfold allB at h
  rw [List.all_eq_true] at h
  have := h xs[k] (List.getElem_mem _)
  have e : xs.getD k 0 = xs[k] := by simp [List.getD_eq_getElem?_getD, hk]
  rw [e]
  simpa [inB] using this

set_option maxRecDepth 100000 in
set_option maxHeartbeats 400000 in
theorem formatList_int (A : Option Addr) (c : Nat) (xs : List Int) (hl : xs.length ≤ 3) (hd : allB 0 9 xs = true) (w : World) (h : RI w A xs) (ht : Tab w) :
    Calls Tryd.prog 54 #[.slice A xs.length c, .func (.func 56) #[] #[]] w fun e w' => e = .returned (.string ⟨(commaL xs).toArray⟩) ∧ Below w.heap.size w w' := by
  have HT := Lib.hid (Lib.tabBelow_of_tabIs ht)
  have XF := Lib.hid fun (j : Nat) (hj : j < xs.length) (W : World) (hW : Below w.heap.size w W) => (show Calls Tryd.prog 56 #[.int .i64 (xs.getD j 0)] W fun e w' => e = .returned (.string ⟨#[dg (xs.getD j 0)]⟩) ∧ Below W.heap.size W w' by
    obtain ⟨d0, d1⟩ := allB_get hd hj
    have := impl_FormatInt (xs.getD j 0) (by omega) (by omega) W (HT.out _ hW)
    rwa [fmt_digit d0 d1] at this)
  have XE := Lib.hid (formatEach_int 56 (enters_of Tryd.func56 (by kernel_rfl) rfl) (fun x => ⟨#[dg x]⟩) ⟨#[44]⟩ A c xs (by omega) w h XF.out (commaL xs) (by rw [List.map_map]; exact comma_join xs) (by have := commaL_len xs; omega))
  clear h ht hd
  generalize commaL xs = L at XE ⊢
  go_enter Tryd.func54, Tryd.ntmps54
  go_wp2_with fail
  refine XE.out.mono ?_
  rintro e u ⟨rfl, d⟩
  go_wp2
  go_ret
  exact ⟨rfl, d⟩
end Go.Proofs.YtimlpdcambmcjaaDoor
