/- CompareFacts at the world it leaves: draws and blocks behind. Conditions: none beyond each theorem's own. -/
import Derived.Test.YtenondgjipmhnaaCmpF
import Derived.Shelf.SlSortCmp.SmallK
namespace Go.Proofs.Ytenondgjipmhnaa
open Go.ChangeShapes Go.WideShapes Go.ChangeAt Go.RowKit Go.Sort
set_option linter.unusedVariables false
set_option linter.unusedSimpArgs false

/-- Draws and blocks behind a world. -/
def Laid (w w' : World) : Prop := ∃ q os, w' = grow (w.drewN q) os
theorem Laid.refl (w : World) : Laid w w := ⟨0, #[], by rw [grow_empty]; rfl⟩
theorem Laid.alloc {w w' : World} (h : Laid w w') (o : Obj) : Laid w (w'.alloc o) := by
  obtain ⟨q, os, rfl⟩ := h
  exact ⟨q, os ++ #[o], by rw [alloc_eq_grow, grow_grow]⟩
theorem Laid.drew {w w' : World} (h : Laid w w') : Laid w w'.drew := by
  obtain ⟨q, os, rfl⟩ := h
  exact ⟨q + 1, os, rfl⟩

set_option maxHeartbeats 1000000 in
set_option maxRecDepth 100000 in
theorem impl_CompareFacts_laid (r r' : Int) (xs ys : List Int) (A A' : Option Addr) (c c' : Nat) (hl : xs.length ≤ 140737488355328) (hl2 : ys.length ≤ 140737488355328) (w : World) (h : RI w A xs) (h' : RI w A' ys) :
    Calls Try.prog 122 #[.agg #[.int .i64 r, .slice A xs.length c], .agg #[.int .i64 r', .slice A' ys.length c']] w fun e w' => e = .returned (.int .i64 (cmpF r xs r' ys)) ∧ Laid w w' := by
  have hl' : (xs.length : Int) ≤ 140737488355328 := by omega
  have hl2' : (ys.length : Int) ≤ 140737488355328 := by omega
  have HE := Lib.hid (show (if cmpI r r' = 0 then cmpL xs ys else cmpI r r') = cmpF r xs r' ys by
    unfold cmpI cmpF
    by_cases h1 : r < r'
    · simp [h1]
    · by_cases h2 : r' < r
      · simp [h1, h2]
      · simp [h1, h2])
  have HI := Lib.hid h
  have HJ := Lib.hid h'
  clear h h'
  go_enter Try.func122, Try.ntmps122
  go_wp2
  have B0 := step (below_alloc w (.cells #[.int .i64 r, .slice A xs.length c] 98)) (below_alloc _ (.cells #[.int .i64 r', .slice A' ys.length c'] 98))
  have L0 := ((Laid.refl w).alloc (.cells #[.int .i64 r, .slice A xs.length c] 98)).alloc (.cells #[.int .i64 r', .slice A' ys.length c'] 98)
  generalize hu : (w.alloc (.cells #[.int .i64 r, .slice A xs.length c] 98)).alloc (.cells #[.int .i64 r', .slice A' ys.length c'] 98) = u at B0 L0 ⊢
  have X0 : Box u w.heap.size #[.int .i64 r, .slice A xs.length c] 98 := by rw [← hu]; exact (Box.new _ _ _).step (below_alloc _ _)
  have X1 : Box u (w.heap.size + 1) #[.int .i64 r', .slice A' ys.length c'] 98 := by rw [← hu]; simpa using Box.new (w.alloc (.cells #[.int .i64 r, .slice A xs.length c] 98)) #[.int .i64 r', .slice A' ys.length c'] 98
  have J0 := Lib.hid (HI.out.step B0)
  have J1 := Lib.hid (HJ.out.step B0)
  have g0 := X0.cell 0
  have g1 := X0.cell 1
  have g2 := X1.cell 0
  have g3 := X1.cell 1
  have z0 := X1.lt
  simp only [List.getElem?_toArray, List.getElem?_cons_zero, List.getElem?_cons_succ] at g0 g1 g2 g3
  clear hu X0 X1
  go_region_held3 (fun w' => w'.cell? ⟨w.heap.size, 0, none⟩ = some (.int .i64 r) ∧ w'.cell? ⟨w.heap.size, 1, none⟩ = some (.slice A xs.length c) ∧ w'.cell? ⟨w.heap.size + 1, 0, none⟩ = some (.int .i64 r') ∧ w'.cell? ⟨w.heap.size + 1, 1, none⟩ = some (.slice A' ys.length c'))
    (first
      | go_keep)
    (first
      | (go_at_call 144; refine (cmpCompare_any r r' _).mono ?_; rintro e u1 ⟨rfl, rfl⟩)
      | (go_at_call 145; refine (slicesCompare_any A A' c c' xs ys hl hl2 _ (by first | exact J0.out | exact J0.out.step (below_drew _)) (by first | exact J1.out | exact J1.out.step (below_drew _))).mono ?_; rintro e u2 ⟨rfl, rfl⟩)
      | (go_at_call 143; refine (cmpOr_two _ _ (cmpI r r') (cmpL xs ys) _ (by first | exact RI_new2 _ _ _ _ | exact (RI_new2 _ _ _ _).step (below_drew _))).mono ?_; rintro e u3 ⟨he, rfl⟩; rw [HE.out] at he; subst he))
  go_wp2
  go_ret
  exact ⟨rfl, by first | exact L0.alloc _ | exact L0.drew.alloc _ | exact (L0.alloc _).drew⟩
end Go.Proofs.Ytenondgjipmhnaa
