/- Numbers in a block of numbers: they stay whatever turns in blocks of another type. Conditions: none beyond each theorem's own. -/
import Derived.Test.YtpdmkdhnidgjoaaRowV
namespace Go.Proofs.Ytpdmkdhnidgjoaa
open Go.ChangeShapes Go.WideShapes Go.ChangeAt Go.RowKit Go.Sort
set_option linter.unusedVariables false
set_option linter.unusedSimpArgs false

/-- At A lie the numbers xs, in a block of numbers. -/
def RW (w : World) (A : Option Addr) (xs : List Int) : Prop := RI w A xs ∧ (xs ≠ [] → ∃ b off cs fr, A = some ⟨b, off, none⟩ ∧ w.heap[b]? = some (Obj.cells cs 3 fr))
theorem RW.ri {w : World} {A : Option Addr} {xs : List Int} (h : RW w A xs) : RI w A xs := h.1
theorem RW.nil (w : World) (A : Option Addr) : RW w A [] := ⟨fun h => absurd rfl h, fun h => absurd rfl h⟩
theorem RW.keep {w w' : World} {A : Option Addr} {xs : List Int} (h : RW w A xs) (hk : ∀ (b : Nat) cs fr, w.heap[b]? = some (Obj.cells cs 3 fr) → w'.heap[b]? = w.heap[b]?) (hs : w.heap.size ≤ w'.heap.size) : RW w' A xs := by
  refine ⟨fun hx => ?_, fun hx => ?_⟩
  · obtain ⟨b, off, h1, h2, h3, h4⟩ := h.1 hx
    obtain ⟨b', off', cs, fr, e1, e2⟩ := h.2 hx
    rw [h1] at e1
    injection e1 with e1
    injection e1 with e1 e3
    subst e1
    exact ⟨b, off, h1, h2, by omega, fun k hk' => (World.cell?_of_block (hk b cs fr e2)).trans (h4 k hk')⟩
  · obtain ⟨b', off', cs, fr, e1, e2⟩ := h.2 hx
    exact ⟨b', off', cs, fr, e1, (hk b' cs fr e2).trans e2⟩
theorem RW.step {w w' : World} {A : Option Addr} {xs : List Int} (h : RW w A xs) (b : Below w.heap.size w w') : RW w' A xs :=
  h.keep (fun k cs fr e => b.block k (Array.getElem?_eq_some_iff.1 e).1) b.size
theorem RowV.rw {w : World} {base : Nat} {A : Option Addr} {n c : Nat} {xs : List Int} (h : RowV w base (.slice A n c) xs) : RW w A xs := by
  refine ⟨ri_of_row h, fun hx => ?_⟩
  have hn : 0 < xs.length := List.length_pos_iff.2 hx
  rcases h.2 with ⟨hv, h0⟩ | ⟨g, cap, cur, hv, hbk, hk, _⟩
  · omega
  · injection hv with e1 e2 e3
    subst e1
    exact ⟨g, 0, _, _, rfl, hk⟩
theorem RW.setBox {w : World} {A : Option Addr} {xs : List Int} {g i : Nat} {u : Value} {bx : Array Value} {t : TypeId} (h : RW w A xs) (hb : Box w g bx t) (ht : t ≠ 3) : RW (w.setCell ⟨g, i, none⟩ u) A xs :=
  h.keep (fun b cs fr e => Below.heap_setCell _ _ _ _ (fun e' => by
    have e2 : b = g := e'
    unfold Box at hb
    rw [e2, hb] at e
    injection e with e
    injection e with _ h2
    exact ht h2)) (by rw [set_size]; exact Nat.le_refl _)
/-- A row of another type grows: numbers stay. -/
theorem RW.grown {w w' : World} {A : Option Addr} {xs : List Int} {base : Nat} {e : TypeId} {size : Nat} {v : Value} {n : Nat} {cs : List Value} (h : RW w A xs) (ho : w.ownsRow base e size v n cs) (hg : w.grownBy w' v.ownBlock) (he : e ≠ 3) : RW w' A xs :=
  h.keep (fun b cs fr hb => hg.block b (Array.getElem?_eq_some_iff.1 hb).1 (fun e' => by
    rcases ho.2 with ⟨hv, _⟩ | ⟨g, cap, cur, hv, hbk, hk, _⟩
    · rw [hv] at e'; simp [Value.ownBlock] at e'
    · have e2 : g = b := own_some (by rw [← hv]; exact e'.symm)
      rw [e2, hb] at hk
      injection hk with hk
      injection hk with _ h2
      exact he h2.symm)) hg.size
end Go.Proofs.Ytpdmkdhnidgjoaa
