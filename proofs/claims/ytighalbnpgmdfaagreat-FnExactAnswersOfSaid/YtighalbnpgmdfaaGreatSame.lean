/- Whether two facts are the same, and whether a list has a fact. Conditions: none beyond each theorem's own. -/
import Derived.Test.YtighalbnpgmdfaaGreatAre
import Derived.Laws.StructEq
import Derived.Laws.CopyOwn
import Derived.Deep.RegionLaw
namespace Go.Proofs.YtighalbnpgmdfaaGreat
open Go.ChangeShapes Go.WideShapes Go.ChangeAt Go.RowKit Go.Sort
set_option linter.unusedVariables false
set_option linter.unusedSimpArgs false

theorem eq_arr3 (d : Nat) (a b c a' b' c' : Int) (w : World) : (Op.equalIn (d + 1 + 1) 68 (.agg #[.int .i64 a, .int .i64 b, .int .i64 c]) (.agg #[.int .i64 a', .int .i64 b', .int .i64 c'])).run Tryz.prog w = .ok (a == a' && b == b' && c == c') w := by
  have h3 := Tryz.underlying3
  have hu := Tryz.underlying68
  have hsz : ∀ w, (sizeOf 3).run Tryz.prog w = .ok 1 w := fun w => by
    obtain ⟨i0, hi, hz0, hz1, hz2⟩ := info_parts int_info
    simp [sizeOf, typeInfo, hi, hz1]
  have hp : ∀ (x y z : Int) (i : Nat) (hi : i < 3) (w : World), (part 3 #[.int .i64 x, .int .i64 y, .int .i64 z] i).run Tryz.prog w = .ok (#[Value.int .i64 x, .int .i64 y, .int .i64 z].getD i undef) w := fun x y z i hi w => by
    rcases (by omega : i = 0 ∨ i = 1 ∨ i = 2) with rfl | rfl | rfl <;> simp [part, isAgg, run_underlying h3]
  rw [Op.equalIn]
  simp only [Sem.run_bind, run_underlying hu, Result.andThen_ok, hsz, Std.Legacy.Range.forIn_eq_forIn_range', Std.Legacy.Range.size, Nat.sub_zero, Nat.add_sub_cancel, Nat.div_one, List.range']
  have e : ∀ (x y : Int) (w : World), (Op.equalIn (d + 1) 3 (.int .i64 x) (.int .i64 y)).run Tryz.prog w = .ok (x == y) w := fun x y w => run_equalIn_int w d 3 .i64 .i64 x y h3
  by_cases h1 : a = a' <;> by_cases h2 : b = b' <;> by_cases h4 : c = c' <;> simp [hp, e, h1, h2, h4]
theorem neq_arr3 (a b c a' b' c' : Int) (w : World) : (binOp .neq 68 (.agg #[.int .i64 a, .int .i64 b, .int .i64 c]) (.agg #[.int .i64 a', .int .i64 b', .int .i64 c'])).run Tryz.prog w = .ok (.bool (!(a == a' && b == b' && c == c'))) w := by
  rw [run_neq_struct, eq_arr3 9998]
  rfl

theorem take_more (xs ys : List Int) (hl : xs.length = ys.length) (k : Nat) (h : xs.take k = ys.take k) (he : xs.getD k 0 = ys.getD k 0) : xs.take (k + 1) = ys.take (k + 1) := by
  by_cases hk : k < xs.length
  · exact eq_take xs ys hl k hk h he
  · rw [List.take_of_length_le (by omega), List.take_of_length_le (by omega)] at h ⊢
    exact h
theorem take_differ (xs ys : List Int) (k : Nat) (h : xs.getD k 0 ≠ ys.getD k 0) : xs ≠ ys := by rintro rfl; exact h rfl

/-- The three cells of the block from place k on. -/
def cells3 (xs : List Int) (k : Nat) : List Value := ((xs.drop k).take 3).map (Value.int .i64)
theorem cells3_at (xs : List Int) (k j : Nat) (v : Value) (h : (cells3 xs k)[j]? = some v) : j < 3 ∧ k + j < xs.length ∧ v = .int .i64 (xs.getD (k + j) 0) := by
  unfold cells3 at h
  simp only [List.getElem?_map, List.getElem?_take, List.getElem?_drop, Option.map_eq_some_iff] at h
  obtain ⟨a, h, rfl⟩ := h
  split at h
  · rename_i h3
    have hlt : k + j < xs.length := (List.getElem?_eq_some_iff.1 h).1
    exact ⟨h3, hlt, by simp [List.getD_eq_getElem?_getD, h]⟩
  · cases h
theorem splice3_at (xs : List Int) (k : Nat) : splice [Value.int .i64 0, .int .i64 0, .int .i64 0] 0 (cells3 xs k) = [.int .i64 (xs.getD k 0), .int .i64 (xs.getD (k + 1) 0), .int .i64 (xs.getD (k + 2) 0)] := by
  unfold splice cells3
  have e0 : xs.getD k 0 = (xs.drop k).getD 0 0 := by simp [List.getD_eq_getElem?_getD]
  have e1 : xs.getD (k + 1) 0 = (xs.drop k).getD 1 0 := by simp [List.getD_eq_getElem?_getD]
  have e2 : xs.getD (k + 2) 0 = (xs.drop k).getD 2 0 := by simp [List.getD_eq_getElem?_getD]
  rw [e0, e1, e2]
  generalize xs.drop k = ys
  match ys with
  | [] => rfl
  | [_] => rfl
  | [_, _] => rfl
  | _ :: _ :: _ :: _ => simp

end Go.Proofs.YtighalbnpgmdfaaGreat
