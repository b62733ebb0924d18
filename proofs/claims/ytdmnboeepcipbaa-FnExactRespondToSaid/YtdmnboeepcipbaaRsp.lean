/- What the two functions IsResponse answer. Conditions: none beyond each theorem's own. -/
import Derived.Test.YtdmnboeepcipbaaMtp
namespace Go.Proofs.Ytdmnboeepcipbaa
open Go.ChangeShapes Go.WideShapes Go.ChangeAt Go.RowKit Go.Sort
set_option linter.unusedVariables false
set_option linter.unusedSimpArgs false

theorem szF_filter (p : Int × List Int → Bool) (l : FL) : szF (l.filter p) ≤ szF l := by
  have h1 : sumN (l.filter p) ≤ sumN l := by
    unfold sumN
    induction l with
    | nil => simp
    | cons a t ih =>
      rw [List.filter_cons]
      split
      · simp only [List.map_cons, List.sum_cons]; omega
      · simp only [List.map_cons, List.sum_cons]; omega
  have h2 := List.length_filter_le p l
  unfold szF
  omega
theorem szF_matF {r : Int} {xs vs : List Int} {l : FL} (h : szF l ≤ 1048576) : szF (matF r xs vs l) ≤ 1048576 := Int.le_trans (szF_filter _ l) h
/-- Are the first n of the list among the facts M? -/
def hasN (M rs : FL) (n : Nat) : Bool := (List.range n).all fun k => hasB M (rs.getD k (0, [])).1 (rs.getD k (0, [])).2
theorem hasN_succ (M rs : FL) (k : Nat) : hasN M rs (k + 1) = (hasN M rs k && hasB M (rs.getD k (0, [])).1 (rs.getD k (0, [])).2) := by
  unfold hasN
  rw [List.range_succ, List.all_append]
  simp
theorem hasN_not (M rs : FL) (k n : Nat) (hk : k < n) (h : hasB M (rs.getD k (0, [])).1 (rs.getD k (0, [])).2 = false) : hasN M rs n = false := by
  unfold hasN
  rw [List.all_eq_false]
  exact ⟨k, by simpa using hk, by rw [h]; simp⟩
/-- How many facts a source tells. -/
def sizR (li : Int) (n : Nat) : Int := if li = 0 then (n : Int) else min (n : Int) li
def rspM (l : ML) (fs : FL) (m : Int) (vs : List Int) : FL := matF (l.getD m.toNat noM).1 (l.getD m.toNat noM).2.1 vs fs
def rspB (s : List Int) (l : ML) (fs : FL) (m : Int) (vs : List Int) (rs : FL) : Bool :=
  accB s l m vs && areB s fs && areB s rs && (hasN (rspM l fs m vs) rs rs.length && decide ((rs.length : Int) = sizR (l.getD m.toNat noM).2.2.1 (rspM l fs m vs).length))
theorem met_lim {s : List Int} {r : Int} {xs : List Int} {li co qu : Int} (h : methB s r xs li co qu = true) : 0 ≤ li ∧ li ≤ 9 := by
  unfold methB numB at h
  simp only [Bool.and_eq_true] at h
  have := h.1.2.1.1
  simpa [inB] using this

set_option maxRecDepth 100000 in
theorem sizeOfResponse_any (r : Int) (A : Option Addr) (n c : Nat) (li co qu : Int) (V : Option Addr) (nv cv : Nat) (k : Nat) (hk : k ≤ 1048576) (h0 : 0 ≤ li) (h9 : li ≤ 9) (w : World) :
    Calls Try.prog 69 #[.agg #[.int .i64 r, .slice A n c, .int .i64 li, .int .i64 co, .int .i64 qu, .slice V nv cv], .int .i64 k] w fun e w' => e = .returned (.int .i64 (sizR li k)) ∧ Below w.heap.size w w' := by
  have hk' : (k : Int) ≤ 1048576 := by omega
  by_cases hz : li = 0
  · have ES := Lib.hid (show sizR li k = (k : Int) by unfold sizR; rw [if_pos hz])
    have d0 : (li == 0) = true := by simpa using hz
    clear hz
    go_enter Try.func69, Try.ntmps69
    go_wp2
    go_ret
    exact ⟨ret_int ES.out.symm, below_alloc _ _⟩
  · have d0 : (li == 0) = false := by simpa using hz
    have ES := Lib.hid (show sizR li k = min (k : Int) li by unfold sizR; rw [if_neg hz])
    clear hz
    by_cases hc : (k : Int) ≤ li
    · have ET := Lib.hid (show sizR li k = (k : Int) by rw [ES.out]; omega)
      have d1 : min (k : Int) li = (k : Int) := by omega
      go_enter Try.func69, Try.ntmps69
      go_wp2
      go_ret
      exact ⟨ret_int ET.out.symm, below_alloc _ _⟩
    · have ET := Lib.hid (show sizR li k = li by rw [ES.out]; omega)
      have d1 : min (k : Int) li = li := by omega
      go_enter Try.func69, Try.ntmps69
      go_wp2
      go_ret
      exact ⟨ret_int ET.out.symm, below_alloc _ _⟩

end Go.Proofs.Ytdmnboeepcipbaa
