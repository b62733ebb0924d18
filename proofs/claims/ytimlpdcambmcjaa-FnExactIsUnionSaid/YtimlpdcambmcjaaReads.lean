/- What can be read in a world, carried from call to call. Conditions: none beyond each theorem's own. -/
import Derived.Test.YtimlpdcambmcjaaFact
namespace Go.Proofs.Ytimlpdcambmcjaa
open Go.ChangeShapes Go.WideShapes Go.ChangeAt Go.RowKit
set_option linter.unusedVariables false
set_option linter.unusedSimpArgs false

/-- At A lie the numbers xs. -/
def RI (w : World) (A : Option Addr) (xs : List Int) : Prop := Ints w 0 w.heap.size A xs
/-- At A lie the facts fs. -/
def RF (w : World) (A : Option Addr) (fs : List (Int × List Int)) : Prop := Facts w 0 w.heap.size A fs
/-- Block g is just the cells cs. -/
def Box (w : World) (g : Nat) (cs : Array Value) (t : TypeId) : Prop := w.heap[g]? = some (.cells cs t (0, 0))

theorem al_size (w : World) (o : Obj) : (w.alloc o).heap.size = w.heap.size + 1 := by simp
theorem und {w w' : World} (b : Below w.drew.heap.size w.drew w') : Below w.heap.size w w' := ⟨b.os, b.tape, b.output, b.size, b.block⟩
theorem undN {w w' : World} {n : Nat} (b : Below (w.drewN n).heap.size (w.drewN n) w') : Below w.heap.size w w' := ⟨b.os, b.tape, b.output, b.size, b.block⟩
theorem step {a w w' : World} (h : Below a.heap.size a w) (b : Below w.heap.size w w') : Below a.heap.size a w' := h.trans (b.mono h.size)
theorem below_alloc (w : World) (o : Obj) : Below w.heap.size w (w.alloc o) := (Below.refl _ _).alloc (Nat.le_refl _) _
theorem below_drew (w : World) : Below w.heap.size w w.drew := (Below.refl _ _).drew

theorem RI.step {w w' : World} {A : Option Addr} {xs : List Int} (h : RI w A xs) (b : Below w.heap.size w w') : RI w' A xs := (Ints.below h b (Nat.le_refl _)).mono (Nat.le_refl _) b.size
theorem RF.step {w w' : World} {A : Option Addr} {fs : List (Int × List Int)} (h : RF w A fs) (b : Below w.heap.size w w') : RF w' A fs := (Facts.below h b (Nat.le_refl _)).mono (Nat.le_refl _) b.size
theorem Box.lt {w : World} {g : Nat} {t : TypeId} {cs : Array Value} (h : Box w g cs t) : g < w.heap.size := by
  rcases Nat.lt_or_ge g w.heap.size with hlt | hge
  · exact hlt
  · unfold Box at h; rw [Array.getElem?_eq_none hge] at h; cases h
theorem Box.step {w w' : World} {g : Nat} {t : TypeId} {cs : Array Value} (h : Box w g cs t) (b : Below w.heap.size w w') : Box w' g cs t := (b.block g h.lt).trans h
theorem Box.new (w : World) (cs : Array Value) (t : TypeId) : Box (w.alloc (.cells cs t)) w.heap.size cs t := heap_alloc_new w _
theorem Box.cell {w : World} {g : Nat} {t : TypeId} {cs : Array Value} (h : Box w g cs t) (i : Nat) : w.cell? ⟨g, i, none⟩ = cs[i]? := cell_of_row w g i cs t (0, 0) h
theorem Box.frozen {w : World} {g : Nat} {t : TypeId} {cs : Array Value} (h : Box w g cs t) (i : Nat) : w.frozen? ⟨g, i, none⟩ = false := by
  unfold Box at h
  simp [World.frozen?, h]
theorem Row.ri {w : World} {g : Nat} {xs : List Int} (h : Row w g xs) : RI w (some ⟨g, 0, none⟩) xs := h.ints.mono (Nat.zero_le _) (by have := World.rowIs.lt h; omega)
theorem RI.at_ {w : World} {A : Option Addr} {xs : List Int} (h : RI w A xs) {k : Nat} (hk : k < xs.length) : ∃ b off, A = some ⟨b, off, none⟩ ∧ b < w.heap.size ∧ w.cell? ⟨b, off + k, none⟩ = some (.int .i64 (xs.getD k 0)) := by
  obtain ⟨b, off, h1, _, h3, h4⟩ := Ints.at_ h hk
  exact ⟨b, off, h1, h3, h4⟩
theorem RF.at_ {w : World} {A : Option Addr} {fs : List (Int × List Int)} (h : RF w A fs) {k : Nat} (hk : k < fs.length) {r : Int} {xs : List Int} (hf : fs.getD k (0, []) = (r, xs)) :
    ∃ b off B c, A = some ⟨b, off, none⟩ ∧ b < w.heap.size ∧ w.cell? ⟨b, off + k * 2, none⟩ = some (.int .i64 r) ∧
    w.cell? ⟨b, off + k * 2 + 1, none⟩ = some (.slice B xs.length c) ∧ xs.length ≤ c ∧ c ≤ maxLen ∧ RI w B xs := by
  obtain ⟨b, off, B, c, h1, _, h3, h4, h5, h6, h7, h8⟩ := Facts.at_ h hk hf
  exact ⟨b, off, B, c, h1, h3, h4, h5, h6, h7, h8⟩

theorem Box.of_new {w w1 : World} {cs : Array Value} {t : TypeId} (c : Below (w.alloc (.cells cs t)).heap.size (w.alloc (.cells cs t)) w1) : Box w1 w.heap.size cs t := (Box.new w cs t).step c

theorem Box.of_new2 {w w1 : World} {cs cs' : Array Value} {t t' : TypeId} (c : Below ((w.alloc (.cells cs t)).alloc (.cells cs' t')).heap.size ((w.alloc (.cells cs t)).alloc (.cells cs' t')) w1) : Box w1 w.heap.size cs t ∧ Box w1 (w.heap.size + 1) cs' t' :=
  ⟨((Box.new w cs t).step (below_alloc _ _)).step c, by have := (Box.new (w.alloc (.cells cs t)) cs' t').step c; simpa using this⟩

theorem Box.set_other {w : World} {g : Nat} {cs : Array Value} {t : TypeId} (h : Box w g cs t) {p : Addr} {u : Value} (hp : g ≠ p.block) : Box (w.setCell p u) g cs t := (Below.heap_setCell _ _ _ _ hp).trans h
theorem Box.set {w : World} {g : Nat} {cs : Array Value} {t : TypeId} (h : Box w g cs t) (i : Nat) (v : Value) : Box (w.setCell ⟨g, i, none⟩ v) g (cs.setIfInBounds i v) t := by
  have hlt := h.lt
  unfold Box at h ⊢
  have h' : w.heap[g] = .cells cs t (0, 0) := by simpa [Array.getElem?_eq_getElem hlt] using h
  show (w.heap.modify g _)[g]? = _
  rw [Array.getElem?_eq_getElem (by simpa using hlt), Array.getElem_modify_self, h']
  rfl

/-! The contracts in these words. -/
theorem toIntS_r (A : Option Addr) (c : Nat) (xs : List Int) (hl : xs.length ≤ 1048576) (w : World) (h : RI w A xs) :
    Calls Try.prog 9 #[.slice A xs.length c] w fun e w' => e = .returned (.slice (some ⟨w.heap.size, 0, none⟩) xs.length xs.length) ∧ Row w' w.heap.size xs ∧ Below w.heap.size w w' ∧ w'.heap.size = w.heap.size + 1 :=
  toIntS_any 0 w.heap.size A c xs hl w (Nat.le_refl _) h
theorem eqIntS_r (A A' : Option Addr) (c c' : Nat) (xs : List Int) (hl : xs.length ≤ 1048576) (w : World) (h : RI w A xs) (h' : RI w A' xs) :
    Calls Try.prog 12 #[.slice A xs.length c, .slice A' xs.length c'] w fun e w' => e = .returned (.bool true) ∧ Below w.heap.size w w' := by
  have := eqIntS_any _ _ _ _ A A' c c' xs xs (by omega) (by omega) w h h'
  rwa [decide_eq_true rfl] at this
end Go.Proofs.Ytimlpdcambmcjaa
