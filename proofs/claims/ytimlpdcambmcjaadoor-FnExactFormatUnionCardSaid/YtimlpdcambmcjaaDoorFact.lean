/- What the functions on one fact answer. Conditions: none beyond each theorem's own. -/
import Derived.Test.YtimlpdcambmcjaaDoorFacts
import Derived.Deep.RegionHeld3
import Derived.Outline
namespace Go.Proofs.YtimlpdcambmcjaaDoor
open Go.ChangeShapes Go.WideShapes Go.ChangeAt Go.RowKit
set_option linter.unusedVariables false
set_option linter.unusedSimpArgs false

theorem set_size (w : World) (p : Addr) (u : Value) : (w.setCell p u).heap.size = w.heap.size := by simp [World.setCell]
theorem Row.set_other {w : World} {g : Nat} {xs : List Int} (h : Row w g xs) {p : Addr} {u : Value} (hp : g ≠ p.block) : Row (w.setCell p u) g xs := h.of_block (Below.heap_setCell _ _ _ _ hp)

theorem cell_new (w : World) (cs : Array Value) (t : TypeId) (i : Nat) : (w.alloc (.cells cs t)).cell? ⟨w.heap.size, i, none⟩ = cs[i]? := by
  rw [World.cell?_alloc_at _ _ _ _ rfl]
theorem below_new {w w1 : World} {o : Obj} (h : Below (w.alloc o).heap.size (w.alloc o) w1) : Below w.heap.size w w1 := ((Below.refl _ _).alloc (Nat.le_refl _) _).trans (h.mono (by simp <;> omega))
theorem cell_below_new {w w1 : World} {cs : Array Value} {t : TypeId} (h : Below (w.alloc (.cells cs t)).heap.size (w.alloc (.cells cs t)) w1) (i : Nat) : w1.cell? ⟨w.heap.size, i, none⟩ = cs[i]? := by
  rw [h.cell (p := ⟨w.heap.size, i, none⟩) (by simp), cell_new]

/-- Is (r, xs) a fact of the schema s? -/
def factB (s : List Int) (r : Int) (xs : List Int) : Bool := schB s && inB r 0 ((s.length : Int) - 1) && decide ((xs.length : Int) = s.getD r.toNat 0) && allB 0 9 xs

theorem left_same {P : Program} {f : FuncId} {args : Array Value} {w : World} {v : Value} (h : Calls P f args w fun e w' => e = .returned v ∧ w = w') : Calls P f args w fun e w' => e = .returned v ∧ w' = w :=
  h.mono fun _ _ ⟨a, b⟩ => ⟨a, b.symm⟩

end Go.Proofs.YtimlpdcambmcjaaDoor
