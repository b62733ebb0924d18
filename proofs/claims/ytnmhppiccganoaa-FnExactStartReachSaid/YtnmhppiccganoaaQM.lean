/- Marks on queries. Conditions: none beyond each theorem's own. -/
import Derived.Test.YtnmhppiccganoaaQry
namespace Go.Proofs.Ytnmhppiccganoaa
open Go.ChangeShapes Go.WideShapes Go.ChangeAt Go.RowKit Go.Sort
open Go.Proofs.Ytnmhppiccganoaa.atom
set_option linter.unusedVariables false
set_option linter.unusedSimpArgs false

/-- Of the memory that was there only the blocks from lo to below hi have turned. -/
structure Mk (lo hi : Nat) (w w' : World) : Prop where
  below : Below lo w w'
  above : ∀ b, hi ≤ b → b < w.heap.size → w'.heap[b]? = w.heap[b]?
theorem Mk.keep {lo hi : Nat} {w w' : World} (h : Mk lo hi w w') {b : Nat} (hb : b < lo ∨ hi ≤ b) (hlt : b < w.heap.size) : w'.heap[b]? = w.heap[b]? := by
  rcases hb with hb | hb
  · exact h.below.block b hb
  · exact h.above b hb hlt

theorem mkK_nil (q : Int) (n : Nat) : mkK q [] n = [] := by simp [mkK]

/-- The marks of a list of numbers of the call's own. -/
theorem markIntS_own (lo hi q : Nat) (A : Option Addr) (c : Nat) (k : Int) (xs : List Int) (hl : xs.length ≤ 1048576) (h0 : 0 ≤ k) (h1 : k ≤ 33554432) (w : World) (hlt : hi ≤ w.heap.size) (hlo : lo ≤ hi) (h : OwnV w lo hi (.slice A xs.length c) q xs) :
    Calls Try.prog 10 #[.slice A xs.length c, .int .i64 k] w fun e w' => e = .returned (.int .i64 (k + xs.length)) ∧ Within lo hi w w' ∧ Ints w' lo hi A (marks k xs.length) := by
  obtain ⟨A', c', he, _, _, hx⟩ := h
  injection he with e1 e2 e3
  subst e1 e3
  by_cases hp : 0 < xs.length
  · obtain ⟨rfl, a, b, m, F, hm, hr, _⟩ := hx hp
    refine (markIntS_any _ q c xs.length m k w hl h0 (by omega) F (fun _ => rfl) hm (fun _ => hr)).mono ?_
    rintro e w' ⟨rfl, hw, hr'⟩
    refine ⟨rfl, hw.mono a (by omega), fun _ => ⟨q, 0, rfl, a, b, fun j hj => ?_⟩⟩
    rw [marks_length] at hj
    rw [Nat.zero_add, World.rowIs.cell (hr' hp) (show j < m by omega), marks_getD _ _ _ hj, if_pos hj]
  · have hz : xs.length = 0 := by omega
    rw [hz]
    refine (markIntS_zero A c k w h0 (by omega)).mono ?_
    rintro e w' ⟨rfl, rfl⟩
    exact ⟨by simp, Within.refl _ _ _, fun h => absurd rfl h⟩

end Go.Proofs.Ytnmhppiccganoaa
