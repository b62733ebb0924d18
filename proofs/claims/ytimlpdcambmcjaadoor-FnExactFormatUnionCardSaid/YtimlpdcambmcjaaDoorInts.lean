/- Lists of numbers in memory, and what the small functions on numbers and lists of numbers answer. Conditions: none beyond each theorem's own. -/
import Derived.Test.YtimlpdcambmcjaaDoorRows
import Derived.WalkKit
import Derived.ProofKit
import Derived.OpenShut
import Derived.ShutString
import Derived.Below
import Derived.Handy
import Derived.Carry
import Derived.ChangeSame
import Derived.WalkLawsBesides
import Derived.WalkSpells
import Derived.Lib.Hide
import Derived.OwnWalk
import Derived.Laws.OwnMore
import Derived.Laws.AppendOwn
import Derived.BigQuiet
import Derived.Deep.QuietTactic
import Derived.Deep.OwnRows
import Derived.Deep.Draws
import Derived.IntWalk
namespace Go.Proofs.YtimlpdcambmcjaaDoor
open Go.ChangeShapes Go.WideShapes Go.ChangeAt Go.RowKit
set_option linter.unusedVariables false

set_option maxRecDepth 100000 in
theorem own : ownKnob Tryd.prog.godebug = none := by kernel_rfl
theorem ret_str {a b : ByteArray} (h : a = b) : Ending.returned (.string a) = .returned (.string b) := by rw [h]
theorem ret_int {k : IntKind} {a b : Int} (h : a = b) : Ending.returned (.int k a) = .returned (.int k b) := by rw [h]
theorem ret_bool {a b : Bool} (h : a = b) : Ending.returned (.bool a) = .returned (.bool b) := by rw [h]
theorem below_drewN {B : Nat} {a w : World} (h : Below B a w) (n : Nat) : Below B a (w.drewN n) := ⟨h.os, h.tape, h.output, h.size, h.block⟩
theorem bcell {B : Nat} {W w1 : World} (hb : Below B W w1) : (∀ b o, b < B → w1.cell? ⟨b, o, none⟩ = W.cell? ⟨b, o, none⟩) ∧ (∀ b o, b < B → w1.frozen? ⟨b, o, none⟩ = W.frozen? ⟨b, o, none⟩) :=
  ⟨fun b o h => hb.cell (p := ⟨b, o, none⟩) h, fun b o h => hb.frozen (p := ⟨b, o, none⟩) h⟩

/-- At the address A lie the numbers xs, in a block from lo to below hi. -/
def Ints (w : World) (lo hi : Nat) (A : Option Addr) (xs : List Int) : Prop :=
  xs ≠ [] → ∃ b off, A = some ⟨b, off, none⟩ ∧ lo ≤ b ∧ b < hi ∧ ∀ k, k < xs.length → w.cell? ⟨b, off + k, none⟩ = some (.int .i64 (xs.getD k 0))
theorem Ints.at_ {w : World} {lo hi : Nat} {A : Option Addr} {xs : List Int} (h : Ints w lo hi A xs) {k : Nat} (hk : k < xs.length) :
    ∃ b off, A = some ⟨b, off, none⟩ ∧ lo ≤ b ∧ b < hi ∧ w.cell? ⟨b, off + k, none⟩ = some (.int .i64 (xs.getD k 0)) := by
  obtain ⟨b, off, h1, h2, h3, h4⟩ := h (by rintro rfl; simp at hk)
  exact ⟨b, off, h1, h2, h3, h4 k hk⟩
theorem Ints.keep {w w' : World} {lo hi : Nat} {A : Option Addr} {xs : List Int} (h : Ints w lo hi A xs) (hk : ∀ b, lo ≤ b → b < hi → w'.heap[b]? = w.heap[b]?) : Ints w' lo hi A xs := fun hx => by
  obtain ⟨b, off, h1, h2, h3, h4⟩ := h hx
  exact ⟨b, off, h1, h2, h3, fun k hkx => (World.cell?_of_block (w := w) (a := ⟨b, off + k, none⟩) (hk b h2 h3)).trans (h4 k hkx)⟩
theorem Ints.below {w w' : World} {lo hi N : Nat} {A : Option Addr} {xs : List Int} (h : Ints w lo hi A xs) (hb : Below N w w') (hN : hi ≤ N) : Ints w' lo hi A xs :=
  h.keep fun b _ h2 => hb.block b (by omega)
theorem Ints.mono {w : World} {lo hi lo' hi' : Nat} {A : Option Addr} {xs : List Int} (h : Ints w lo hi A xs) (h1 : lo' ≤ lo) (h2 : hi ≤ hi') : Ints w lo' hi' A xs := fun hx => by
  obtain ⟨b, off, e, h3, h4, h5⟩ := h hx
  exact ⟨b, off, e, by omega, by omega, h5⟩
theorem Ints.alloc {w : World} {lo hi : Nat} {A : Option Addr} {xs : List Int} (h : Ints w lo hi A xs) (hN : hi ≤ w.heap.size) (o : Obj) : Ints (w.alloc o) lo hi A xs :=
  h.keep fun b _ h2 => Below.heap_alloc _ _ _ (by omega)

/-- Is x from a to b? -/
def inB (x a b : Int) : Bool := decide (a ≤ x) && decide (x ≤ b)

set_option maxRecDepth 100000 in
theorem l1In_any (x a b : Int) (w : World) : Calls Tryd.prog 17 #[.int .i64 x, .int .i64 a, .int .i64 b] w fun e w' => e = .returned (.bool (inB x a b)) ∧ w = w' := by
  by_cases h1 : a ≤ x
  · have d1 : decide (a ≤ x) = true := by simpa using h1
    by_cases h2 : x ≤ b
    · have H : inB x a b = true := by simp [inB, h1, h2]
      rw [H]
      go_enter Tryd.func17, Tryd.ntmps17
      go_wp2
      go_ret
      exact ⟨rfl, rfl⟩
    · have H : inB x a b = false := by simp [inB, h1, h2]
      rw [H]
      have d2 : decide (x ≤ b) = false := by simpa using h2
      go_enter Tryd.func17, Tryd.ntmps17
      go_wp2
      go_ret
      exact ⟨rfl, rfl⟩
  · have H : inB x a b = false := by simp [inB, h1]
    rw [H]
    have d1 : decide (a ≤ x) = false := by simpa using h1
    go_enter Tryd.func17, Tryd.ntmps17
    go_wp2
    go_ret
    exact ⟨rfl, rfl⟩

set_option maxRecDepth 100000 in
theorem isBetween_any (x a b : Int) (w : World) : Calls Tryd.prog 27 #[.int .i64 x, .int .i64 a, .int .i64 b] w fun e w' => e = .returned (.bool (inB x a b)) ∧ w = w' := by
  by_cases h1 : a ≤ x
  · have d1 : decide (a ≤ x) = true := by simpa using h1
    by_cases h2 : x ≤ b
    · have H : inB x a b = true := by simp [inB, h1, h2]
      rw [H]
      go_enter Tryd.func27, Tryd.ntmps27
      go_wp2
      go_ret
      exact ⟨rfl, rfl⟩
    · have H : inB x a b = false := by simp [inB, h1, h2]
      rw [H]
      have d2 : decide (x ≤ b) = false := by simpa using h2
      go_enter Tryd.func27, Tryd.ntmps27
      go_wp2
      go_ret
      exact ⟨rfl, rfl⟩
  · have H : inB x a b = false := by simp [inB, h1]
    rw [H]
    have d1 : decide (a ≤ x) = false := by simpa using h1
    go_enter Tryd.func27, Tryd.ntmps27
    go_wp2
    go_ret
    exact ⟨rfl, rfl⟩

set_option maxRecDepth 100000 in
theorem isArity_any (x : Int) (w : World) : Calls Tryd.prog 50 #[.int .i64 x] w fun e w' => e = .returned (.bool (inB x 1 3)) ∧ w = w' := by
  go_enter Tryd.func50, Tryd.ntmps50
  go_wp2_with fail
  refine (isBetween_any x 1 3 _).mono ?_
  rintro e w' ⟨rfl, rfl⟩
  go_wp2
  go_ret
  exact ⟨rfl, rfl⟩

/-- Are all numbers from a to b? -/
def allB (a b : Int) (xs : List Int) : Bool := xs.all fun x => inB x a b
theorem allB_take (a b : Int) (xs : List Int) (k : Nat) (hk : k < xs.length) : allB a b (xs.take (k + 1)) = (allB a b (xs.take k) && inB (xs.getD k 0) a b) := by
  unfold allB
  rw [List.take_succ_eq_append_getElem hk, List.all_append]
  simp [List.getD_eq_getElem?_getD, hk]
theorem allB_not (a b : Int) (xs : List Int) (k : Nat) (hk : k < xs.length) (h : inB (xs.getD k 0) a b = false) : allB a b xs = false := by
  unfold allB
  rw [List.all_eq_false]
  refine ⟨xs[k], List.getElem_mem _, ?_⟩
  have : xs.getD k 0 = xs[k] := by simp [List.getD_eq_getElem?_getD, hk]
  rw [this] at h
  simp [h]
theorem take_all {α : Type} (xs : List α) : xs.take xs.length = xs := List.take_length

def schB (s : List Int) : Bool := allB 1 3 s && inB (s.length : Int) 1 3

end Go.Proofs.YtimlpdcambmcjaaDoor
