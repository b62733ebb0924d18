/- slices.SortFunc of a few facts by CompareFacts. Conditions: none beyond each theorem's own. -/
import Derived.Test.YtenondgjipmhnaaRs1
import Derived.Test.YtenondgjipmhnaaRs3
import Derived.Test.YtenondgjipmhnaaAddM
import Derived.Shelf.SlSortCmp.SmallK
import Derived.Shelf.Small.Bits
import Derived.Shelf.Lay
import Derived.Ground.SlsfProg
import Derived.Ground.NamesProg
namespace Go.Proofs
open Go.Shelf Go.RowKit Go.Lib Go.Sort
shelf_lay_g SlLaysF0.n6 Slsf 6 at Try 126 as Try.sortFacts
shelf_lay Lays.n125 Nm 125 at Try as Try.bitsLen
end Go.Proofs
namespace Go.Proofs.Ytenondgjipmhnaa
open Go.ChangeShapes Go.WideShapes Go.ChangeAt Go.RowKit Go.Sort
set_option linter.unusedVariables false
set_option linter.unusedSimpArgs false

/-- A fact of the call's own: what it says, the slice of its numbers, the block that they lie in. -/
abbrev El (W : World) (lo hi : Nat) := {p : (Int × List Int) × Value × Nat // OwnV W lo hi p.2.1 p.2.2 p.1.2 ∧ p.1.2.length ≤ 1048576}
instance (W : World) (lo hi : Nat) : Inhabited (El W lo hi) := ⟨⟨((0, []), .slice none 0 0, 0), ⟨none, 0, rfl, Nat.le_refl _, by unfold maxLen; omega, fun h => absurd h (by decide)⟩, by simp⟩⟩
def encE {W : World} {lo hi : Nat} (x : El W lo hi) : List Value := [.int .i64 x.1.1.1, x.1.2.1]
def cmpE {W : World} {lo hi : Nat} (x y : El W lo hi) : Int := cmpF x.1.1.1 x.1.1.2 y.1.1.1 y.1.1.2
theorem ltE {W : World} {lo hi : Nat} (x y : El W lo hi) : (ltOf cmpE x y = true ↔ ltF x.1.1 y.1.1) ∧ (ltOf cmpE x y = false ↔ ¬ ltF x.1.1 y.1.1) := by
  unfold ltOf cmpE ltF
  exact ⟨decide_eq_true_iff, decide_eq_false_iff_not⟩
theorem swoE {W : World} {lo hi : Nat} : SWO (ltOf (cmpE (W := W) (lo := lo) (hi := hi))) where
  irrefl x := (ltE x x).2.2 (ltF_irrefl _)
  trans x y z h1 h2 := (ltE x z).1.2 (ltF_trans ((ltE x y).1.1 h1) ((ltE y z).1.1 h2))
  ntrans x y z h1 h2 := (ltE x z).2.2 fun h => by
    have a := (ltE x y).2.1 h1
    have b := (ltE y z).2.1 h2
    by_cases e : x.1.1 = y.1.1
    · exact b (e ▸ h)
    · exact b (ltF_trans (ltF_total a e) h)
theorem grownBy_putRow {α : Type} [Inhabited α] (enc : α → Value) {w : World} {g n : Nat} {os : Array Obj} (d : Array α) : w.grownBy (grow (putRow enc (Sort.ahead w n) g 0 d) os) (some g) := by
  refine ⟨rfl, rfl, rfl, by simp, fun k hk hne => ?_⟩
  rw [heap_grow_old _ _ (by simpa using hk)]
  have : g ≠ k := fun e => hne (by rw [e])
  simp [putRow, mapBlock, Sort.ahead, Array.getElem?_modify, this]
theorem cmpLaysE (W : World) (lo hi blk size : Nat) (hb : hi ≤ blk) (hh : hi ≤ W.heap.size) : CmpLays Try.prog 122 #[] (encE (W := W) (lo := lo) (hi := hi)) 2 cmpE blk 0 size W := fun m os dk _ x y => by
  obtain ⟨⟨⟨r, xs⟩, v, q⟩, ox, lx⟩ := x
  obtain ⟨⟨⟨r', ys⟩, v', q'⟩, oy, ly⟩ := y
  have bx : Below hi W (sortWorldK encE 2 W blk 0 m dk os) := (Below.refl _ _).grown (grownBy_putRow id _) hh (fun q hq => by injection hq with hq; omega)
  obtain ⟨A, c, ev, _, _, _⟩ := id ox
  obtain ⟨A', c', ev', _, _, _⟩ := id oy
  simp only at ev ev' ox oy lx ly
  subst ev ev'
  have hx := ox.ints.2.2.2
  have hy := oy.ints.2.2.2
  have hs := bx.size
  exact impl_CompareFacts_laid r r' xs ys A A' c c' (by omega) (by omega) _ ((hx.below bx (Nat.le_refl _)).mono (Nat.zero_le _) (by omega)) ((hy.below bx (Nat.le_refl _)).mono (Nat.zero_le _) (by omega))
theorem hlenE (n : Nat) (W : World) (h : n ≤ 12) : Calls Try.prog 149 #[.int .u64 n] W fun e w' => (∃ l : Int, e = .returned (.int .i64 l)) ∧ w' = W :=
  (Any.bits_Len Try.bitsLen n W (by omega) (by omega)).mono fun _ _ ⟨he, hw⟩ => ⟨⟨_, he⟩, hw⟩
end Go.Proofs.Ytenondgjipmhnaa
