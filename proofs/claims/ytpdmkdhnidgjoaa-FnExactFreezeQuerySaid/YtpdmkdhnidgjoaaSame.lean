/- Whether two facts are the same, and whether a list has a fact. Conditions: none beyond each theorem's own. -/
import Derived.Test.YtpdmkdhnidgjoaaAre
import Derived.Laws.StructEq
import Derived.Laws.CopyOwn
import Derived.Deep.RegionLaw
namespace Go.Proofs.Ytpdmkdhnidgjoaa
open Go.ChangeShapes Go.WideShapes Go.ChangeAt Go.RowKit Go.Sort
set_option linter.unusedVariables false
set_option linter.unusedSimpArgs false

set_option maxRecDepth 100000 in
theorem shapeOf_any (r : Int) (A : Option Addr) (n c : Nat) (w : World) :
    Calls Try.prog 114 #[.agg #[.int .i64 r, .slice A n c]] w fun e w' => e = .returned (.agg #[.int .i64 r, .int .i64 n]) ∧ Below w.heap.size w w' := by
  go_enter Try.func114, Try.ntmps114
  go_wp2
  refine bodyPost_ret (v := .agg #[.int .i64 r, .int .i64 n]) (by simp [results, Try.results114, go_sem]) rfl ⟨rfl, ?_⟩
  first
    | exact step (below_alloc _ _) (below_alloc _ _)
    | exact Below.setCell (Below.setCell (step (below_alloc _ _) (below_alloc _ _)) (by simp) _) (by simp) _

set_option maxRecDepth 100000 in
theorem neq_shape (a b a' b' : Int) (w : World) : (binOp .neq 131 (.agg #[.int .i64 a, .int .i64 b]) (.agg #[.int .i64 a', .int .i64 b'])).run Try.prog w = .ok (.bool (!(a == a' && b == b'))) w := by
  rw [run_neq_struct, run_equalIn_agg w 9999 131 _ _ (by kernel_rfl) (by kernel_rfl)]
  have hf : Try.prog.fieldsOf 131 = #[{ name := "rel", type := 3, offset := 0, embedded := false, tag := "", pkgPath := "loop.example/g01989/impl", byteOffset := 0 }, { name := "arity", type := 3, offset := 1, embedded := false, tag := "", pkgPath := "loop.example/g01989/impl", byteOffset := 8 }] := by kernel_rfl
  rw [hf]
  have h3 := Try.underlying3
  by_cases h1 : a = a' <;> by_cases h2 : b = b' <;> simp [Op.eqFields, go_sem, h3, h1, h2]
theorem eq_arr3 (d : Nat) (a b c a' b' c' : Int) (w : World) : (Op.equalIn (d + 1 + 1) 133 (.agg #[.int .i64 a, .int .i64 b, .int .i64 c]) (.agg #[.int .i64 a', .int .i64 b', .int .i64 c'])).run Try.prog w = .ok (a == a' && b == b' && c == c') w := by
  have h3 := Try.underlying3
  have hu := Try.underlying133
  have hsz : ∀ w, (sizeOf 3).run Try.prog w = .ok 1 w := fun w => by
    obtain ⟨i0, hi, hz0, hz1, hz2⟩ := info_parts int_info
    simp [sizeOf, typeInfo, hi, hz1]
  have hp : ∀ (x y z : Int) (i : Nat) (hi : i < 3) (w : World), (part 3 #[.int .i64 x, .int .i64 y, .int .i64 z] i).run Try.prog w = .ok (#[Value.int .i64 x, .int .i64 y, .int .i64 z].getD i undef) w := fun x y z i hi w => by
    rcases (by omega : i = 0 ∨ i = 1 ∨ i = 2) with rfl | rfl | rfl <;> simp [part, isAgg, run_underlying h3]
  rw [Op.equalIn]
  simp only [Sem.run_bind, run_underlying hu, Result.andThen_ok, hsz, Std.Legacy.Range.forIn_eq_forIn_range', Std.Legacy.Range.size, Nat.sub_zero, Nat.add_sub_cancel, Nat.div_one, List.range']
  have e : ∀ (x y : Int) (w : World), (Op.equalIn (d + 1) 3 (.int .i64 x) (.int .i64 y)).run Try.prog w = .ok (x == y) w := fun x y w => run_equalIn_int w d 3 .i64 .i64 x y h3
  by_cases h1 : a = a' <;> by_cases h2 : b = b' <;> by_cases h4 : c = c' <;> simp [hp, e, h1, h2, h4]
theorem neq_arr3 (a b c a' b' c' : Int) (w : World) : (binOp .neq 133 (.agg #[.int .i64 a, .int .i64 b, .int .i64 c]) (.agg #[.int .i64 a', .int .i64 b', .int .i64 c'])).run Try.prog w = .ok (.bool (!(a == a' && b == b' && c == c'))) w := by
  rw [run_neq_struct, eq_arr3 9998]
  rfl

theorem take_more (xs ys : List Int) (hl : xs.length = ys.length) (k : Nat) (h : xs.take k = ys.take k) (he : xs.getD k 0 = ys.getD k 0) : xs.take (k + 1) = ys.take (k + 1) := by
  by_cases hk : k < xs.length
  · exact eq_take xs ys hl k hk h he
  · rw [List.take_of_length_le (by omega), List.take_of_length_le (by omega)] at h ⊢
    exact h
theorem take_differ (xs ys : List Int) (k : Nat) (h : xs.getD k 0 ≠ ys.getD k 0) : xs ≠ ys := by rintro rfl; exact h rfl

/-- The three cells of the block from place k on. -/
def cells3 (xs : List Int) (k : Nat) : List Value := ((xs.drop k).take 3).map (Value.int .i64)
theorem cells3_at (xs : List Int) (k j : Nat) (v : Value) (h : (cells3 xs k)[j]? = some v) : j < 3 ∧ k + j < xs.length ∧ v = .int .i64 (xs.getD (k + j) 0) := by
  unfold cells3 at h
  simp only [List.getElem?_map, List.getElem?_take, List.getElem?_drop, Option.map_eq_some_iff] at h
  obtain ⟨a, h, rfl⟩ := h
  split at h
  · rename_i h3
    have hlt : k + j < xs.length := (List.getElem?_eq_some_iff.1 h).1
    exact ⟨h3, hlt, by simp [List.getD_eq_getElem?_getD, h]⟩
  · cases h
theorem splice3_at (xs : List Int) (k : Nat) : splice [Value.int .i64 0, .int .i64 0, .int .i64 0] 0 (cells3 xs k) = [.int .i64 (xs.getD k 0), .int .i64 (xs.getD (k + 1) 0), .int .i64 (xs.getD (k + 2) 0)] := by
  unfold splice cells3
  have e0 : xs.getD k 0 = (xs.drop k).getD 0 0 := by simp [List.getD_eq_getElem?_getD]
  have e1 : xs.getD (k + 1) 0 = (xs.drop k).getD 1 0 := by simp [List.getD_eq_getElem?_getD]
  have e2 : xs.getD (k + 2) 0 = (xs.drop k).getD 2 0 := by simp [List.getD_eq_getElem?_getD]
  rw [e0, e1, e2]
  generalize xs.drop k = ys
  match ys with
  | [] => rfl
  | [_] => rfl
  | [_, _] => rfl
  | _ :: _ :: _ :: _ => simp

set_option maxHeartbeats 400000 in
set_option maxRecDepth 100000 in
theorem valueBlock_any (r : Int) (xs : List Int) (A : Option Addr) (c k : Nat) (hk : k < xs.length) (hc : xs.length ≤ c) (hm : c ≤ maxLen) (hl : xs.length ≤ 140737488355328) (w : World) (h : RI w A xs) :
    Calls Try.prog 115 #[.agg #[.int .i64 r, .slice A xs.length c], .int .i64 k] w fun e w' =>
      e = .returned (.agg #[.int .i64 (xs.getD k 0), .int .i64 (xs.getD (k + 1) 0), .int .i64 (xs.getD (k + 2) 0)]) ∧ Below w.heap.size w w' := by
  unfold maxLen at hm
  obtain ⟨b, off, rfl, hlo, hhi, hcell⟩ := h (by rintro rfl; simp at hk)
  have HC := Lib.hid hcell
  clear h hcell
  have hk0 : (0 : Int) ≤ (k : Int) := by omega
  have hk1 : (k : Int) ≤ (xs.length : Int) := by omega
  have hk2 : (k : Int) ≤ (c : Int) := by omega
  have hkc : ¬ c = k := by omega
  have hkc2 : k ≤ xs.length := by omega
  have hl' : (xs.length : Int) ≤ 140737488355328 := by omega
  generalize hy0 : xs.getD k 0 = y0
  generalize hy1 : xs.getD (k + 1) 0 = y1
  generalize hy2 : xs.getD (k + 2) 0 = y2
  have HY0 := Lib.hid hy0
  have HY1 := Lib.hid hy1
  have HY2 := Lib.hid hy2
  clear hy0 hy1 hy2
  obtain ⟨Z, hZ⟩ : ∃ Z, Z = cells3 xs k := ⟨_, rfl⟩
  have HZ := Lib.hid hZ
  have hZl : Z.length = Nat.min (xs.length - k) 3 := by rw [hZ]; simp [cells3]; exact Nat.min_comm _ _
  have HL := Lib.hid hZl
  have hone : ∀ v ∈ Z, v.oneCell' = true := fun v hv => by
    obtain ⟨j, hj⟩ := List.getElem?_of_mem hv
    rw [HZ.out] at hj
    obtain ⟨_, _, rfl⟩ := cells3_at _ _ _ _ hj
    rfl
  have HO := Lib.hid hone
  clear hZ hZl hone
  have HB := Lib.hid (show Below w.heap.size w (((w.alloc (.cells #[.int .i64 r, .slice (some ⟨b, off, none⟩) xs.length c] 70)).alloc (.cells #[.int .i64 0, .int .i64 0, .int .i64 0] 133)).alloc (.cells #[.int .i64 0, .int .i64 0, .int .i64 0] 133)) from step (step (below_alloc _ _) (below_alloc _ _)) (below_alloc _ _))
  have HG := Lib.hid (show (((w.alloc (.cells #[.int .i64 r, .slice (some ⟨b, off, none⟩) xs.length c] 70)).alloc (.cells #[.int .i64 0, .int .i64 0, .int .i64 0] 133)).alloc (.cells #[.int .i64 0, .int .i64 0, .int .i64 0] 133)).heap[w.heap.size + 2]? = some (.cells [Value.int .i64 0, .int .i64 0, .int .i64 0].toArray 133 (0, 0)) by have := heap_alloc_new ((w.alloc (.cells #[.int .i64 r, .slice (some ⟨b, off, none⟩) xs.length c] 70)).alloc (.cells #[.int .i64 0, .int .i64 0, .int .i64 0] 133)) (.cells #[.int .i64 0, .int .i64 0, .int .i64 0] 133); simp only [al_size] at this; exact this)
  have HSRC := Lib.hid (show ∀ j v, Z[j]? = some v → (((w.alloc (.cells #[.int .i64 r, .slice (some ⟨b, off, none⟩) xs.length c] 70)).alloc (.cells #[.int .i64 0, .int .i64 0, .int .i64 0] 133)).alloc (.cells #[.int .i64 0, .int .i64 0, .int .i64 0] 133)).cell? ((⟨b, off + k, none⟩ : Addr).add j) = some v from fun j v hj => by
    rw [HZ.out] at hj
    obtain ⟨h3, hlt, rfl⟩ := cells3_at _ _ _ _ hj
    have e : (⟨b, off + k, none⟩ : Addr).add j = ⟨b, off + (k + j), none⟩ := by unfold Addr.add; split <;> simp_all [Nat.add_assoc]
    rw [e, HB.out.cell (p := ⟨b, off + (k + j), none⟩) hhi]
    exact HC.out _ hlt)
  have HFIT := Lib.hid (show 0 + Z.length ≤ [Value.int .i64 0, .int .i64 0, .int .i64 0].length by rw [HL.out]; simp; exact Nat.min_le_right _ _)
  go_enter Try.func115, Try.ntmps115
  go_wp2
  go_region_law (refine step_copy_splice rfl (.tmp 6) (.tmp 10) 22 22 rfl 3 Try.underlying22 (by kernel_rfl) _ _ _ _ _ _ (by rfl) (by rfl) (w.heap.size + 2) 0 [.int .i64 0, .int .i64 0, .int .i64 0] 133 HG.out Z HL.out (fun _ => ⟨rfl, _, rfl, HSRC.out⟩) HFIT.out HO.out (w.heap.size + 2) (((w.alloc (.cells #[.int .i64 r, .slice (some ⟨b, off, none⟩) xs.length c] 70)).alloc (.cells #[.int .i64 0, .int .i64 0, .int .i64 0] 133)).alloc (.cells #[.int .i64 0, .int .i64 0, .int .i64 0] 133)) (by first | exact Below.refl _ _ | exact (Below.refl _ _).drew) (Nat.le_refl _) ?_; intro u hu hb)
  rw [HZ.out, splice3_at, HY0.out, HY1.out, HY2.out] at hu
  have X5 := (show Box u (w.heap.size + 2) #[.int .i64 y0, .int .i64 y1, .int .i64 y2] 133 from hu.out)
  have X4 : Box u (w.heap.size + 1) #[.int .i64 0, .int .i64 0, .int .i64 0] 133 := by
    have h1 := Box.new (w.alloc (.cells #[.int .i64 r, .slice (some ⟨b, off, none⟩) xs.length c] 70)) #[.int .i64 0, .int .i64 0, .int .i64 0] 133
    have h2 := h1.step (below_alloc _ (.cells #[.int .i64 0, .int .i64 0, .int .i64 0] 133))
    rw [al_size] at h2
    exact (hb.block _ (by omega)).trans h2
  have T : Below w.heap.size w u := HB.out.trans (hb.mono (by omega))
  have g0 := X5.cell 0
  have g1 := X5.cell 1
  have g2 := X5.cell 2
  have g3 := X4.cell 0
  have g4 := X4.cell 1
  have g5 := X4.cell 2
  have f3 := X4.frozen 0
  have f4 := X4.frozen 1
  have f5 := X4.frozen 2
  simp only [List.getElem?_toArray, List.getElem?_cons_zero, List.getElem?_cons_succ] at g0 g1 g2 g3 g4 g5
  have HT := Lib.hid T
  clear X4 X5 T hb hu
  go_wp2
  refine bodyPost_ret (v := .agg #[.int .i64 y0, .int .i64 y1, .int .i64 y2]) (by simp [results, Try.results115, go_sem, g3, g4, g5]) rfl ⟨rfl, ?_⟩
  have z := HT.out.size
  exact Below.setCell (Below.setCell (Below.setCell HT.out (by (try simp) <;> omega) _) (by (try simp) <;> omega) _) (by (try simp) <;> omega) _
end Go.Proofs.Ytpdmkdhnidgjoaa
