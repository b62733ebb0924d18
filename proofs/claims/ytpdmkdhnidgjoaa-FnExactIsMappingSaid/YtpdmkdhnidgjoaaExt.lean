/- What extend leaves. Conditions: none beyond each theorem's own. -/
import Derived.Test.YtpdmkdhnidgjoaaRowV
import Derived.Deep.RegionLaw
import Derived.Deep.DeepCutAuto
namespace Go.Proofs.Ytpdmkdhnidgjoaa
open Go.ChangeShapes Go.WideShapes Go.ChangeAt Go.RowKit Go.Sort
open Go.Maps (Keyed int_keyed keyOf_int_mk)
set_option linter.unusedVariables false
set_option linter.unusedSimpArgs false

/-- A binding that is being extended: its box at g, two rows of its own. -/
def EBd (w : World) (base g : Nat) (X : Option Addr) (cx : Nat) (Y : Option Addr) (cy : Nat) (xs ys : List Int) : Prop :=
  Box w g #[.slice X xs.length cx, .slice Y ys.length cy] 29 ∧ RowV w base (.slice X xs.length cx) xs ∧ RowV w base (.slice Y ys.length cy) ys ∧ Apart (.slice X xs.length cx) (.slice Y ys.length cy) ∧ base ≤ g
theorem row_ne_box {w : World} {base g : Nat} {v : Value} {xs : List Int} {cs : Array Value} (h : RowV w base v xs) (hb : Box w g cs 29) : some g ≠ v.ownBlock := by
  intro e
  rcases h.2 with ⟨hv, _⟩ | ⟨k, cap, cur, hv, hbk, hk, _⟩
  · rw [hv] at e; cases e
  · rw [hv] at e
    injection e with e
    have e' : g = k := e
    unfold Box at hb
    rw [e', hk] at hb
    injection hb with hb
    injection hb with _ h2
    exact absurd h2 (by decide)
theorem Box.grown {w w' : World} {base g : Nat} {v : Value} {xs : List Int} {cs : Array Value} (hb : Box w g cs 29) (h : RowV w base v xs) (hg : w.grownBy w' v.ownBlock) : Box w' g cs 29 :=
  (hg.block g hb.lt (row_ne_box h hb)).trans hb
theorem apart_at {u : World} {base : Nat} {v v' y : Value} {ys : List Int} (ha : Apart v y) (hy : RowV u base y ys) (hat : v'.ownBlock = v.ownBlock ∨ v'.ownBlock = some u.heap.size) : Apart v' y := by
  rcases hat with hat | hat
  · unfold Apart at *; rw [hat]; exact ha
  · refine .inr fun e => ?_
    have := World.ownsRow.lt hy _ (e.symm.trans hat)
    omega
theorem EBd.push1 {w u w' : World} {base g : Nat} {X : Option Addr} {cx : Nat} {Y : Option Addr} {cy : Nat} {xs ys xs' : List Int} (h : EBd w base g X cx Y cy xs ys) (hb : Below w.heap.size w u) {X' : Option Addr} {c' : Nat}
    (hv : RowV w' base (.slice X' xs'.length c') xs') (hg : u.grownBy w' (Value.slice X xs.length cx).ownBlock) (hat : (Value.slice X' xs'.length c').ownBlock = (Value.slice X xs.length cx).ownBlock ∨ (Value.slice X' xs'.length c').ownBlock = some u.heap.size) :
    Box w' g #[.slice X xs.length cx, .slice Y ys.length cy] 29 ∧ EBd (w'.setCell ⟨g, 0, none⟩ (.slice X' xs'.length c')) base g X' c' Y cy xs' ys := by
  obtain ⟨h1, h2, h3, h4, h5⟩ := h
  have k1 := (h1.step hb).grown (h2.below hb) hg
  have k3 := (h3.below hb).kept hg (h4.symm)
  exact ⟨k1, k1.set 0 (.slice X' xs'.length c'), hv.set k1 (by decide), k3.set k1 (by decide), apart_at h4 (h3.below hb) hat, h5⟩
theorem EBd.push2 {w u w' : World} {base g : Nat} {X : Option Addr} {cx : Nat} {Y : Option Addr} {cy : Nat} {xs ys ys' : List Int} (h : EBd w base g X cx Y cy xs ys) (hb : Below w.heap.size w u) {Y' : Option Addr} {c' : Nat}
    (hv : RowV w' base (.slice Y' ys'.length c') ys') (hg : u.grownBy w' (Value.slice Y ys.length cy).ownBlock) (hat : (Value.slice Y' ys'.length c').ownBlock = (Value.slice Y ys.length cy).ownBlock ∨ (Value.slice Y' ys'.length c').ownBlock = some u.heap.size) :
    Box w' g #[.slice X xs.length cx, .slice Y ys.length cy] 29 ∧ EBd (w'.setCell ⟨g, 1, none⟩ (.slice Y' ys'.length c')) base g X cx Y' c' xs ys' := by
  obtain ⟨h1, h2, h3, h4, h5⟩ := h
  have k1 := (h1.step hb).grown (h3.below hb) hg
  have k2 := (h2.below hb).kept hg h4
  exact ⟨k1, k1.set 1 (.slice Y' ys'.length c'), k2.set k1 (by decide), hv.set k1 (by decide), (apart_at h4.symm (h2.below hb) hat).symm, h5⟩

theorem ri_one (w : World) (x : Int) : RI (w.alloc (.cells #[.int .i64 x] 3)) (some ⟨w.heap.size, 0, none⟩) [x] := fun _ => by
  refine ⟨w.heap.size, 0, rfl, Nat.zero_le _, by rw [al_size]; omega, fun k hk => ?_⟩
  obtain rfl : k = 0 := by simpa using hk
  simp

def exTab (ts vs : List Int) : Nat → Option (List Int)
  | 2 => some ts | 5 => some vs | _ => none
def exCons : Nat → Nat
  | 2 => 8 | 5 => 8 | _ => 9
def exVals (g : Nat) (x y : Value) : Nat → Option Value
  | 0 => some (.pointer (some ⟨g, 0, none⟩)) | 1 => some x | 3 => some (.pointer (some ⟨g, 1, none⟩)) | 4 => some y | _ => none


def x6Vals (gb g : Nat) (y : Value) (mb : Nat) (x pv : Int) : Nat → Option Value
  | 0 => some (.pointer (some ⟨gb, 1, none⟩)) | 1 => some y | 2 => some (.pointer (some ⟨g, 0, none⟩)) | 3 => some (.pointer (some ⟨g, 0, none⟩)) | 4 => some (.pointer (some ⟨g, 0, none⟩)) | 5 => some (.map (some mb)) | 6 => some (.int .i64 x) | 7 => some (.int .i64 pv) | 10 => some (.pointer (some ⟨gb, 1, none⟩)) | _ => none

end Go.Proofs.Ytpdmkdhnidgjoaa
