/- What the laws of functions on queries carry from call to call. Conditions: none beyond each theorem's own. -/
import Derived.Test.YtimlpdcambmcjaaQM
import Derived.Test.YtimlpdcambmcjaaVarsI
namespace Go.Proofs.Ytimlpdcambmcjaa
open Go.ChangeShapes Go.WideShapes Go.ChangeAt Go.RowKit Go.Sort
open Go.Proofs.Ytimlpdcambmcjaa.atom
set_option linter.unusedVariables false
set_option linter.unusedSimpArgs false

/-- Numbers in blocks from lo to below hi, whatever is made later. -/
def IV (w : World) (lo hi : Nat) (A : Option Addr) (xs : List Int) : Prop := Ints w lo hi A xs ∧ hi ≤ w.heap.size
theorem IV.step {w w' : World} {lo hi : Nat} {A : Option Addr} {xs : List Int} (h : IV w lo hi A xs) (d : Below w.heap.size w w') : IV w' lo hi A xs := ⟨h.1.below d h.2, Nat.le_trans h.2 d.size⟩
theorem IV.keep {w w' : World} {lo hi : Nat} {A : Option Addr} {xs : List Int} (h : IV w lo hi A xs) (hk : ∀ b, lo ≤ b → b < hi → w'.heap[b]? = w.heap[b]?) (hz : w.heap.size ≤ w'.heap.size) : IV w' lo hi A xs := ⟨h.1.keep hk, Nat.le_trans h.2 hz⟩
theorem IV.ri {w : World} {lo hi : Nat} {A : Option Addr} {xs : List Int} (h : IV w lo hi A xs) : RI w A xs := h.1.mono (Nat.zero_le _) h.2
/-- Numbers of the call's own, in blocks from lo to below hi, whatever is made later. -/
def GV (w : World) (lo hi : Nat) (A : Option Addr) (c : Nat) (xs : List Int) : Prop := (∃ q, OwnV w lo hi (.slice A xs.length c) q xs) ∧ hi ≤ w.heap.size ∧ lo ≤ hi
theorem GV.keep {w w' : World} {lo hi : Nat} {A : Option Addr} {c : Nat} {xs : List Int} (h : GV w lo hi A c xs) (hk : ∀ b, lo ≤ b → b < hi → w'.heap[b]? = w.heap[b]?) (hz : w.heap.size ≤ w'.heap.size) : GV w' lo hi A c xs := by
  obtain ⟨⟨q, h1⟩, h2, h3⟩ := h
  exact ⟨⟨q, h1.keep fun a b _ => hk _ a b⟩, Nat.le_trans h2 hz, h3⟩
theorem GV.step {w w' : World} {lo hi : Nat} {A : Option Addr} {c : Nat} {xs : List Int} (h : GV w lo hi A c xs) (d : Below w.heap.size w w') : GV w' lo hi A c xs :=
  h.keep (fun b _ hb => d.block b (by have := h.2.1; omega)) d.size
theorem GV.ri {w : World} {lo hi : Nat} {A : Option Addr} {c : Nat} {xs : List Int} (h : GV w lo hi A c xs) : RI w A xs := by
  obtain ⟨⟨q, h1⟩, h2, h3⟩ := h
  exact (h1.ints).2.2.2.mono (Nat.zero_le _) h2

/-- What a function that lists numbers returns, as its blocks. -/
def ListG (w : World) (xs : List Int) (e : Ending) (w' : World) : Prop := ∃ A c, e = .returned (.slice A xs.length c) ∧ GV w' w.heap.size w'.heap.size A c xs ∧ Below w.heap.size w w'
theorem ListT.toG {w : World} {xs : List Int} {e : Ending} {w' : World} (h : ListT w xs e w') : ListG w xs e w' := by
  obtain ⟨v, he, ho, hb⟩ := h
  obtain ⟨A, c, rfl⟩ := ownsRow_form ho
  obtain ⟨q, hv⟩ := ownV_of_row ho
  exact ⟨A, c, he, ⟨⟨q, hv⟩, Nat.le_refl _, hb.size⟩, hb⟩
theorem PutO.toV {w : World} {xs : List Int} {e : Ending} {w' : World} (h : PutO w w.heap.size xs e w') : ∃ A c, e = .returned (.slice A xs.length c) ∧ IV w' w.heap.size w'.heap.size A xs ∧ Below w.heap.size w w' := by
  obtain ⟨A, c, he, hi, hb⟩ := h
  exact ⟨A, c, he, ⟨hi, Nat.le_refl _⟩, hb⟩
end Go.Proofs.Ytimlpdcambmcjaa
