/- What the two functions SameSteps answer. Conditions: none beyond each theorem's own. -/
import Derived.Test.YtighalbnpgmdfaaStp
import Derived.Test.YtighalbnpgmdfaaSame
import Derived.Lib.QuietBelow
namespace Go.Proofs.Ytighalbnpgmdfaa
open Go.ChangeShapes Go.WideShapes Go.ChangeAt Go.RowKit Go.Sort
set_option linter.unusedVariables false
set_option linter.unusedSimpArgs false

set_option maxRecDepth 100000 in
theorem fields_step : Try.prog.fieldsOf 68 = #[{ name := "Atom", type := 3, offset := 0, embedded := false, tag := "", pkgPath := "", byteOffset := 0 }, { name := "Method", type := 3, offset := 1, embedded := false, tag := "", pkgPath := "", byteOffset := 8 }] := by kernel_rfl
set_option maxRecDepth 100000 in
theorem neq_stepT (a b a' b' : Int) (w : World) : (binOp .neq 68 (.agg #[.int .i64 a, .int .i64 b]) (.agg #[.int .i64 a', .int .i64 b'])).run Try.prog w = .ok (.bool (!(a == a' && b == b'))) w := by
  rw [run_neq_struct, run_equalIn_agg w 9999 68 _ _ (by kernel_rfl) (by kernel_rfl), fields_step]
  have h3 := Try.underlying3
  by_cases h1 : a = a' <;> by_cases h2 : b = b' <;> simp [Op.eqFields, go_sem, h3, h1, h2]
set_option maxRecDepth 100000 in
theorem eq_stepT (a b a' b' : Int) (w : World) : (binOp .eql 68 (.agg #[.int .i64 a, .int .i64 b]) (.agg #[.int .i64 a', .int .i64 b'])).run Try.prog w = .ok (.bool (a == a' && b == b')) w := by
  rw [run_eql_struct, run_equalIn_agg w 9999 68 _ _ (by kernel_rfl) (by kernel_rfl), fields_step]
  have h3 := Try.underlying3
  by_cases h1 : a = a' <;> by_cases h2 : b = b' <;> simp [Op.eqFields, go_sem, h3, h1, h2]
theorem stp_take (us bs : SL) (hl : us.length = bs.length) (k : Nat) (hk : k < us.length) (h : us.take k = bs.take k) {r x r' x' : Int} (ha : us.getD k (0, 0) = (r, x)) (hb : bs.getD k (0, 0) = (r', x')) (hs : r = r' ∧ x = x') : us.take (k + 1) = bs.take (k + 1) := by
  rw [List.take_succ_eq_append_getElem hk, List.take_succ_eq_append_getElem (by omega), h]
  have h1 : us[k] = us.getD k (0, 0) := by simp [List.getD_eq_getElem?_getD, hk]
  have h2 : bs[k]'(by omega) = bs.getD k (0, 0) := by simp [List.getD_eq_getElem?_getD, show k < bs.length by omega]
  rw [h1, h2, ha, hb, hs.1, hs.2]
theorem stp_differ (us bs : SL) (k : Nat) {r x r' x' : Int} (ha : us.getD k (0, 0) = (r, x)) (hb : bs.getD k (0, 0) = (r', x')) (hs : ¬ (r = r' ∧ x = x')) : decide (us = bs) = false := by
  rw [decide_eq_false]
  rintro rfl
  rw [ha] at hb
  injection hb with h1 h2
  exact hs ⟨h1, h2⟩

end Go.Proofs.Ytighalbnpgmdfaa
