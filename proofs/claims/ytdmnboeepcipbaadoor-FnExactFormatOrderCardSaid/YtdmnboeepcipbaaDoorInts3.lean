/- What copying, marking and asking for marks on lists of numbers do. Conditions: none beyond each theorem's own. -/
import Derived.Test.YtdmnboeepcipbaaDoorInts2
namespace Go.Proofs.YtdmnboeepcipbaaDoor
open Go.ChangeShapes Go.WideShapes Go.ChangeAt Go.RowKit
set_option linter.unusedVariables false
set_option linter.unusedSimpArgs false

set_option maxRecDepth 100000 in
theorem int_info : (Tryd.prog.info? 3).map (fun i => (i.zero, i.size, i.bytes)) = some (some (.int .i64 0), 1, 8) := by kernel_rfl

/-- Block g is just the numbers xs, not frozen. -/
def Row (w : World) (g : Nat) (xs : List Int) : Prop := w.rowIs g 3 xs.length (fun i => .int .i64 (xs.getD i 0))
theorem Row.ints {w : World} {g : Nat} {xs : List Int} (h : Row w g xs) : Ints w g (g + 1) (some ⟨g, 0, none⟩) xs := fun _ =>
  ⟨g, 0, rfl, by omega, by omega, fun k hk => by rw [Nat.zero_add]; exact World.rowIs.cell h hk⟩
theorem Row.of_block {w w' : World} {g : Nat} {xs : List Int} (h : Row w g xs) (e : w'.heap[g]? = w.heap[g]?) : Row w' g xs := World.rowIs.of_block h e

/-- Only the blocks from lo to below hi have turned. -/
structure Within (lo hi : Nat) (w w' : World) : Prop where
  os : w'.os = w.os
  tape : w'.tape = w.tape
  output : w'.output = w.output
  size : w'.heap.size = w.heap.size
  block : ∀ k, k < lo ∨ hi ≤ k → w'.heap[k]? = w.heap[k]?
theorem Within.refl (lo hi : Nat) (w : World) : Within lo hi w w := ⟨rfl, rfl, rfl, rfl, fun _ _ => rfl⟩
theorem Within.trans {lo hi : Nat} {a b c : World} (h : Within lo hi a b) (k : Within lo hi b c) : Within lo hi a c :=
  ⟨k.os.trans h.os, k.tape.trans h.tape, k.output.trans h.output, k.size.trans h.size, fun i hi => (k.block i hi).trans (h.block i hi)⟩
theorem Within.mono {lo hi lo' hi' : Nat} {a b : World} (h : Within lo hi a b) (h1 : lo' ≤ lo) (h2 : hi ≤ hi') : Within lo' hi' a b :=
  ⟨h.os, h.tape, h.output, h.size, fun k hk => h.block k (by omega)⟩
theorem Within.set {lo hi : Nat} {a w : World} (h : Within lo hi a w) {p : Addr} (h1 : lo ≤ p.block) (h2 : p.block < hi) (u : Value) : Within lo hi a (w.setCell p u) :=
  h.trans ⟨rfl, rfl, rfl, by simp [World.setCell], fun k hk => Below.heap_setCell _ _ _ _ (by omega)⟩
theorem Within.drewN {lo hi : Nat} {a w : World} (h : Within lo hi a w) (n : Nat) : Within lo hi a (w.drewN n) := ⟨h.os, h.tape, h.output, h.size, h.block⟩
theorem Within.below {lo hi : Nat} {a w : World} (h : Within lo hi a w) : Below lo a w := ⟨h.os, h.tape, h.output, by rw [h.size]; exact Nat.le_refl _, fun k hk => h.block k (.inl hk)⟩
theorem Ints.within {w w' : World} {lo hi l h' : Nat} {A : Option Addr} {xs : List Int} (h : Ints w lo hi A xs) (hb : Within l h' w w') (hN : hi ≤ l ∨ h' ≤ lo) : Ints w' lo hi A xs :=
  h.keep fun b _ h2 => hb.block b (by omega)

/-- The numbers k, k+1, .. of length n. -/
def marks (k : Int) (n : Nat) : List Int := (List.range n).map fun i : Nat => k + (i : Int)
theorem marks_length (k : Int) (n : Nat) : (marks k n).length = n := by simp [marks]
theorem marks_getD (k : Int) (n i : Nat) (h : i < n) : (marks k n).getD i 0 = k + i := by simp [marks, List.getD_eq_getElem?_getD, h]

/-- Numbers of the call's own: a slice value that owns its block, or has no elements. -/
def OwnInts (w : World) (g : Nat) (n : Nat) : Prop := ∃ m f, n ≤ m ∧ w.rowIs g 3 m f

end Go.Proofs.YtdmnboeepcipbaaDoor
