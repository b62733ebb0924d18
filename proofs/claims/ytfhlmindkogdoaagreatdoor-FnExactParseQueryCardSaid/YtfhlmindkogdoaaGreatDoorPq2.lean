/- What can be read in a world, carried from call to call. Conditions: none beyond each theorem's own. What comparing two facts answers. Conditions: none beyond each theorem's own. What the two functions CompareFacts answer. Conditions: none beyond each theorem's own. Lists of facts: their size, their copy, their comparison by the law. Conditions: none beyond each theorem's own. Lists of facts of the call's own. Conditions: none beyond each theorem's own. Two lists of the same facts are found equal by the law's own comparison. Conditions: none beyond each theorem's own. What the two functions AreFacts answer. Conditions: none beyond each theorem's own. Whether two facts are the same, and whether a list has a fact. Conditions: none beyond each theorem's own. Whether two facts are the same, and whether a list has a fact. Conditions: none beyond each theorem's own. What the two functions SameFacts answer. Conditions: none beyond each theorem's own. Copies of numbers and of facts. Conditions: none beyond each theorem's own. Lists of facts of the call's own that grow by append. Conditions: none beyond each theorem's own. Rows that grow by append, one element or a list of numbers; boxes that are written. Conditions: none beyond each theorem's own. -/
import Derived.Test.YtfhlmindkogdoaaGreatDoorPq1
import Derived.Lib.QuietBelow
import Derived.Laws.StructEq
import Derived.Laws.CopyOwn
import Derived.Deep.RegionLaw
import Derived.Maps.AppendAt
import Derived.Deep.AppendLies
import Derived.Laws.AppendOwnNone

namespace Go.Proofs.YtfhlmindkogdoaaGreatDoor
open Go.ChangeShapes Go.WideShapes Go.ChangeAt Go.RowKit
set_option linter.unusedVariables false
set_option linter.unusedSimpArgs false

/-- At A lie the numbers xs. -/
def RI (w : World) (A : Option Addr) (xs : List Int) : Prop := Ints w 0 w.heap.size A xs
/-- At A lie the facts fs. -/
def RF (w : World) (A : Option Addr) (fs : List (Int × List Int)) : Prop := Facts w 0 w.heap.size A fs
/-- Block g is just the cells cs. -/
def Box (w : World) (g : Nat) (cs : Array Value) (t : TypeId) : Prop := w.heap[g]? = some (.cells cs t (0, 0))

theorem al_size (w : World) (o : Obj) : (w.alloc o).heap.size = w.heap.size + 1 := by simp
theorem und {w w' : World} (b : Below w.drew.heap.size w.drew w') : Below w.heap.size w w' := ⟨b.os, b.tape, b.output, b.size, b.block⟩
theorem undN {w w' : World} {n : Nat} (b : Below (w.drewN n).heap.size (w.drewN n) w') : Below w.heap.size w w' := ⟨b.os, b.tape, b.output, b.size, b.block⟩
theorem step {a w w' : World} (h : Below a.heap.size a w) (b : Below w.heap.size w w') : Below a.heap.size a w' := h.trans (b.mono h.size)
theorem below_alloc (w : World) (o : Obj) : Below w.heap.size w (w.alloc o) := (Below.refl _ _).alloc (Nat.le_refl _) _
theorem below_drew (w : World) : Below w.heap.size w w.drew := (Below.refl _ _).drew

theorem RI.step {w w' : World} {A : Option Addr} {xs : List Int} (h : RI w A xs) (b : Below w.heap.size w w') : RI w' A xs := (Ints.below h b (Nat.le_refl _)).mono (Nat.le_refl _) b.size
theorem RF.step {w w' : World} {A : Option Addr} {fs : List (Int × List Int)} (h : RF w A fs) (b : Below w.heap.size w w') : RF w' A fs := (Facts.below h b (Nat.le_refl _)).mono (Nat.le_refl _) b.size
theorem Box.lt {w : World} {g : Nat} {t : TypeId} {cs : Array Value} (h : Box w g cs t) : g < w.heap.size := by
  rcases Nat.lt_or_ge g w.heap.size with hlt | hge
  · exact hlt
  · unfold Box at h; rw [Array.getElem?_eq_none hge] at h; cases h
theorem Box.step {w w' : World} {g : Nat} {t : TypeId} {cs : Array Value} (h : Box w g cs t) (b : Below w.heap.size w w') : Box w' g cs t := (b.block g h.lt).trans h
theorem Box.new (w : World) (cs : Array Value) (t : TypeId) : Box (w.alloc (.cells cs t)) w.heap.size cs t := heap_alloc_new w _
theorem Box.cell {w : World} {g : Nat} {t : TypeId} {cs : Array Value} (h : Box w g cs t) (i : Nat) : w.cell? ⟨g, i, none⟩ = cs[i]? := cell_of_row w g i cs t (0, 0) h
theorem Box.frozen {w : World} {g : Nat} {t : TypeId} {cs : Array Value} (h : Box w g cs t) (i : Nat) : w.frozen? ⟨g, i, none⟩ = false := by
  unfold Box at h
  simp [World.frozen?, h]
theorem Row.ri {w : World} {g : Nat} {xs : List Int} (h : Row w g xs) : RI w (some ⟨g, 0, none⟩) xs := h.ints.mono (Nat.zero_le _) (by have := World.rowIs.lt h; omega)
theorem RI.at_ {w : World} {A : Option Addr} {xs : List Int} (h : RI w A xs) {k : Nat} (hk : k < xs.length) : ∃ b off, A = some ⟨b, off, none⟩ ∧ b < w.heap.size ∧ w.cell? ⟨b, off + k, none⟩ = some (.int .i64 (xs.getD k 0)) := by
  obtain ⟨b, off, h1, _, h3, h4⟩ := Ints.at_ h hk
  exact ⟨b, off, h1, h3, h4⟩
theorem RF.at_ {w : World} {A : Option Addr} {fs : List (Int × List Int)} (h : RF w A fs) {k : Nat} (hk : k < fs.length) {r : Int} {xs : List Int} (hf : fs.getD k (0, []) = (r, xs)) :
    ∃ b off B c, A = some ⟨b, off, none⟩ ∧ b < w.heap.size ∧ w.cell? ⟨b, off + k * 2, none⟩ = some (.int .i64 r) ∧
    w.cell? ⟨b, off + k * 2 + 1, none⟩ = some (.slice B xs.length c) ∧ xs.length ≤ c ∧ c ≤ maxLen ∧ RI w B xs := by
  obtain ⟨b, off, B, c, h1, _, h3, h4, h5, h6, h7, h8⟩ := Facts.at_ h hk hf
  exact ⟨b, off, B, c, h1, h3, h4, h5, h6, h7, h8⟩

theorem Box.of_new {w w1 : World} {cs : Array Value} {t : TypeId} (c : Below (w.alloc (.cells cs t)).heap.size (w.alloc (.cells cs t)) w1) : Box w1 w.heap.size cs t := (Box.new w cs t).step c

theorem Box.of_new2 {w w1 : World} {cs cs' : Array Value} {t t' : TypeId} (c : Below ((w.alloc (.cells cs t)).alloc (.cells cs' t')).heap.size ((w.alloc (.cells cs t)).alloc (.cells cs' t')) w1) : Box w1 w.heap.size cs t ∧ Box w1 (w.heap.size + 1) cs' t' :=
  ⟨((Box.new w cs t).step (below_alloc _ _)).step c, by have := (Box.new (w.alloc (.cells cs t)) cs' t').step c; simpa using this⟩

theorem Box.set_other {w : World} {g : Nat} {cs : Array Value} {t : TypeId} (h : Box w g cs t) {p : Addr} {u : Value} (hp : g ≠ p.block) : Box (w.setCell p u) g cs t := (Below.heap_setCell _ _ _ _ hp).trans h
theorem Box.set {w : World} {g : Nat} {cs : Array Value} {t : TypeId} (h : Box w g cs t) (i : Nat) (v : Value) : Box (w.setCell ⟨g, i, none⟩ v) g (cs.setIfInBounds i v) t := by
  have hlt := h.lt
  unfold Box at h ⊢
  have h' : w.heap[g] = .cells cs t (0, 0) := by simpa [Array.getElem?_eq_getElem hlt] using h
  show (w.heap.modify g _)[g]? = _
  rw [Array.getElem?_eq_getElem (by simpa using hlt), Array.getElem_modify_self, h']
  rfl

/-! The contracts in these words. -/
theorem toIntS_r (A : Option Addr) (c : Nat) (xs : List Int) (hl : xs.length ≤ 1048576) (w : World) (h : RI w A xs) :
    Calls Tryz.prog 28 #[.slice A xs.length c] w fun e w' => e = .returned (.slice (some ⟨w.heap.size, 0, none⟩) xs.length xs.length) ∧ Row w' w.heap.size xs ∧ Below w.heap.size w w' ∧ w'.heap.size = w.heap.size + 1 :=
  toIntS_any 0 w.heap.size A c xs hl w (Nat.le_refl _) h
theorem eqIntS_r (A A' : Option Addr) (c c' : Nat) (xs : List Int) (hl : xs.length ≤ 1048576) (w : World) (h : RI w A xs) (h' : RI w A' xs) :
    Calls Tryz.prog 30 #[.slice A xs.length c, .slice A' xs.length c'] w fun e w' => e = .returned (.bool true) ∧ Below w.heap.size w w' := by
  have := eqIntS_any _ _ _ _ A A' c c' xs xs (by omega) (by omega) w h h'
  rwa [decide_eq_true rfl] at this
end Go.Proofs.YtfhlmindkogdoaaGreatDoor

namespace Go.Proofs.YtfhlmindkogdoaaGreatDoor
open Go.ChangeShapes Go.WideShapes Go.ChangeAt Go.RowKit
set_option linter.unusedVariables false
set_option linter.unusedSimpArgs false

def cmpI (a b : Int) : Int := if a < b then -1 else if b < a then 1 else 0
def cmpL : List Int → List Int → Int
  | [], [] => 0
  | [], _ :: _ => -1
  | _ :: _, [] => 1
  | x :: xs, y :: ys => if x < y then -1 else if y < x then 1 else cmpL xs ys
def cmpF (r : Int) (xs : List Int) (r' : Int) (ys : List Int) : Int := if r < r' then -1 else if r' < r then 1 else cmpL xs ys
theorem cmpL_step (xs ys : List Int) (k : Nat) (h1 : k < xs.length) (h2 : k < ys.length) :
    cmpL (xs.drop k) (ys.drop k) = if xs.getD k 0 < ys.getD k 0 then -1 else if ys.getD k 0 < xs.getD k 0 then 1 else cmpL (xs.drop (k + 1)) (ys.drop (k + 1)) := by
  rw [List.drop_eq_getElem_cons h1, List.drop_eq_getElem_cons h2]
  simp [cmpL, List.getD_eq_getElem?_getD, h1, h2]
theorem cmpL_short (xs ys : List Int) (h2 : xs.length < ys.length) : cmpL (xs.drop xs.length) (ys.drop xs.length) = -1 := by
  rw [List.drop_length, List.drop_eq_getElem_cons h2]
  rfl
theorem cmpL_long (xs ys : List Int) (h2 : ys.length < xs.length) : cmpL (xs.drop ys.length) (ys.drop ys.length) = 1 := by
  rw [List.drop_length, List.drop_eq_getElem_cons h2]
  rfl
theorem cmpL_same (xs ys : List Int) (k : Nat) (h1 : xs.length = k) (h2 : ys.length = k) : cmpL (xs.drop k) (ys.drop k) = 0 := by
  rw [← h1, List.drop_length, h1, ← h2, List.drop_length]
  rfl
theorem cmpL_rng : ∀ xs ys : List Int, -1 ≤ cmpL xs ys ∧ cmpL xs ys ≤ 1
  | [], [] => by simp [cmpL]
  | [], _ :: _ => by simp [cmpL]
  | _ :: _, [] => by simp [cmpL]
  | x :: xs, y :: ys => by
    have := cmpL_rng xs ys
    simp only [cmpL]
    split
    · omega
    · split <;> omega
theorem cmpL_zero : ∀ xs ys : List Int, cmpL xs ys = 0 ↔ xs = ys
  | [], [] => by simp [cmpL]
  | [], _ :: _ => by simp [cmpL]
  | _ :: _, [] => by simp [cmpL]
  | x :: xs, y :: ys => by
    have := cmpL_zero xs ys
    simp only [cmpL, List.cons.injEq]
    split
    · constructor
      · intro h; omega
      · rintro ⟨rfl, _⟩; omega
    · split
      · constructor
        · intro h; omega
        · rintro ⟨rfl, _⟩; omega
      · rw [this]
        constructor
        · intro h; exact ⟨by omega, h⟩
        · exact fun h => h.2
theorem cmpF_rng (r : Int) (xs : List Int) (r' : Int) (ys : List Int) : -1 ≤ cmpF r xs r' ys ∧ cmpF r xs r' ys ≤ 1 := by
  have := cmpL_rng xs ys
  unfold cmpF
  split
  · omega
  · split <;> omega
theorem cmpF_zero (r : Int) (xs : List Int) (r' : Int) (ys : List Int) : cmpF r xs r' ys = 0 ↔ r = r' ∧ xs = ys := by
  have := cmpL_zero xs ys
  unfold cmpF
  split
  · constructor
    · intro h; omega
    · rintro ⟨rfl, _⟩; omega
  · split
    · constructor
      · intro h; omega
      · rintro ⟨rfl, _⟩; omega
    · rw [this]
      constructor
      · intro h; exact ⟨by omega, h⟩
      · exact fun h => h.2

theorem isNaN_any (x : Int) (w : World) : Calls Tryz.prog 121 #[.int .i64 x] w fun e w' => e = .returned (.bool false) ∧ w = w' := by
  go_enter Tryz.func121, Tryz.ntmps121
  go_wp2
  go_ret
  exact ⟨by simp, rfl⟩

theorem cmpCompare_any (x y : Int) (w : World) : Calls Tryz.prog 106 #[.int .i64 x, .int .i64 y] w fun e w' => e = .returned (.int .i64 (cmpI x y)) ∧ w = w' := by
  rcases (by omega : x < y ∨ (¬ x < y ∧ y < x) ∨ (¬ x < y ∧ ¬ y < x)) with h | ⟨h, h2⟩ | ⟨h, h2⟩
  · rw [show cmpI x y = -1 by simp [cmpI, h]]
    go_enter Tryz.func106, Tryz.ntmps106
    go_wp2_with fail
    refine (isNaN_any x _).mono ?_
    rintro e w1 ⟨rfl, rfl⟩
    go_wp2_with fail
    refine (isNaN_any y _).mono ?_
    rintro e w1 ⟨rfl, rfl⟩
    go_wp2
    go_ret
    exact ⟨rfl, rfl⟩
  · rw [show cmpI x y = 1 by simp [cmpI, h, h2]]
    go_enter Tryz.func106, Tryz.ntmps106
    go_wp2_with fail
    refine (isNaN_any x _).mono ?_
    rintro e w1 ⟨rfl, rfl⟩
    go_wp2_with fail
    refine (isNaN_any y _).mono ?_
    rintro e w1 ⟨rfl, rfl⟩
    go_wp2
    go_ret
    exact ⟨rfl, rfl⟩
  · rw [show cmpI x y = 0 by simp [cmpI, h, h2]]
    go_enter Tryz.func106, Tryz.ntmps106
    go_wp2_with fail
    refine (isNaN_any x _).mono ?_
    rintro e w1 ⟨rfl, rfl⟩
    go_wp2_with fail
    refine (isNaN_any y _).mono ?_
    rintro e w1 ⟨rfl, rfl⟩
    go_wp2
    go_ret
    exact ⟨rfl, rfl⟩

end Go.Proofs.YtfhlmindkogdoaaGreatDoor

namespace Go.Proofs.YtfhlmindkogdoaaGreatDoor
open Go.ChangeShapes Go.WideShapes Go.ChangeAt Go.RowKit
set_option linter.unusedVariables false
set_option linter.unusedSimpArgs false

theorem RI_new2 (w : World) (x y : Int) (t : TypeId) : RI (w.alloc (.cells #[.int .i64 x, .int .i64 y] t)) (some ⟨w.heap.size, 0, none⟩) [x, y] := fun _ =>
  ⟨w.heap.size, 0, rfl, Nat.zero_le _, by simp, fun k hk => by
    rw [cell_new]
    simp at hk
    rcases (by omega : k = 0 ∨ k = 1) with rfl | rfl <;> rfl⟩

theorem cmpF_lt {r r' : Int} (xs ys : List Int) (h : r < r') : cmpF r xs r' ys = -1 := by simp [cmpF, h]
theorem cmpF_gt {r r' : Int} (xs ys : List Int) (h : r' < r) : cmpF r xs r' ys = 1 := by simp [cmpF, h, show ¬ r < r' by omega]
theorem cmpF_eq (r : Int) (xs ys : List Int) : cmpF r xs r ys = cmpL xs ys := by simp [cmpF]

end Go.Proofs.YtfhlmindkogdoaaGreatDoor

namespace Go.Proofs.YtfhlmindkogdoaaGreatDoor
open Go.ChangeShapes Go.WideShapes Go.ChangeAt Go.RowKit
set_option linter.unusedVariables false
set_option linter.unusedSimpArgs false

abbrev FL := List (Int × List Int)
def sumN (l : FL) : Nat := (l.map fun f => f.2.length).sum
/-- How many values a list of facts holds, each fact counted, too. -/
def szF (l : FL) : Int := (l.length : Int) + (sumN l : Int)
theorem szF_nonneg (l : FL) : 0 ≤ szF l := by unfold szF; omega
theorem szF_len {l : FL} (h : szF l ≤ 1048576) : l.length ≤ 1048576 := by unfold szF at h; omega
theorem sumN_take (l : FL) (k : Nat) (hk : k < l.length) : sumN (l.take (k + 1)) = sumN (l.take k) + (l.getD k (0, [])).2.length := by
  unfold sumN
  rw [List.take_succ_eq_append_getElem hk, List.map_append, List.sum_append]
  simp [List.getD_eq_getElem?_getD, hk]
theorem sumN_le (l : FL) (k : Nat) : sumN (l.take k) ≤ sumN l := by
  have : sumN l = sumN (l.take k) + sumN (l.drop k) := by
    unfold sumN
    rw [← List.sum_append, ← List.map_append, List.take_append_drop]
  omega
theorem szF_elem {l : FL} (h : szF l ≤ 1048576) {k : Nat} (hk : k < l.length) : (l.getD k (0, [])).2.length ≤ 1048576 := by
  have h1 := sumN_take l k hk
  have h2 := sumN_le l (k + 1)
  unfold szF at h
  omega

/-- What is left, or -1. -/
def szR (left z : Int) : Int := if left - z < 0 then -1 else left - z
theorem szR_neg {left z : Int} (h : left - z < 0) : szR left z = -1 := if_pos h
theorem szR_pos {left z : Int} (h : ¬ left - z < 0) : szR left z = left - z := if_neg h

end Go.Proofs.YtfhlmindkogdoaaGreatDoor

namespace Go.Proofs.YtfhlmindkogdoaaGreatDoor
open Go.ChangeShapes Go.WideShapes Go.ChangeAt Go.RowKit
set_option linter.unusedVariables false
set_option linter.unusedSimpArgs false

/-- v1 is a slice of the numbers xs that owns block q (if it has any), which lies from lo to below hi. -/
def OwnV (w : World) (lo hi : Nat) (v1 : Value) (q : Nat) (xs : List Int) : Prop :=
  ∃ A c, v1 = .slice A xs.length c ∧ xs.length ≤ c ∧ c ≤ maxLen ∧ (0 < xs.length → A = some ⟨q, 0, none⟩ ∧ lo ≤ q ∧ q < hi ∧ ∃ m F, xs.length ≤ m ∧ w.rowIs q 3 m F ∧ ∀ i, i < xs.length → F i = .int .i64 (xs.getD i 0))
theorem OwnV.mono {w : World} {lo hi lo' hi' q : Nat} {v : Value} {xs : List Int} (h : OwnV w lo hi v q xs) (h1 : lo' ≤ lo) (h2 : hi ≤ hi') : OwnV w lo' hi' v q xs := by
  obtain ⟨A, c, e, hc, hm, hx⟩ := h
  exact ⟨A, c, e, hc, hm, fun hp => by
    obtain ⟨a, b, d, r⟩ := hx hp
    exact ⟨a, by omega, by omega, r⟩⟩
theorem OwnV.keep {w w' : World} {lo hi q : Nat} {v : Value} {xs : List Int} (h : OwnV w lo hi v q xs) (hk : lo ≤ q → q < hi → (∃ c, w.heap[q]? = some (.cells c 3 (0, 0))) → w'.heap[q]? = w.heap[q]?) : OwnV w' lo hi v q xs := by
  obtain ⟨A, c, e, hc, hm, hx⟩ := h
  exact ⟨A, c, e, hc, hm, fun hp => by
    obtain ⟨a, b, d, m, F, h1, h2, h3⟩ := hx hp
    refine ⟨a, b, d, m, F, h1, World.rowIs.of_block h2 (hk b d ?_), h3⟩
    obtain ⟨cc, hcc, _⟩ := h2
    exact ⟨cc, hcc⟩⟩
theorem OwnV.ints {w : World} {lo hi q : Nat} {A : Option Addr} {n c : Nat} {xs : List Int} (h : OwnV w lo hi (.slice A n c) q xs) : n = xs.length ∧ xs.length ≤ c ∧ c ≤ maxLen ∧ Ints w lo hi A xs := by
  obtain ⟨A', c', e, hc, hm, hx⟩ := h
  injection e with e1 e2 e3
  subst e1 e2 e3
  refine ⟨rfl, hc, hm, fun hne => ?_⟩
  obtain ⟨ha, b, d, m, F, h1, h2, h3⟩ := hx (List.length_pos_iff.2 hne)
  exact ⟨q, 0, ha, b, d, fun k hk => by rw [Nat.zero_add, World.rowIs.cell h2 (show k < m by omega), h3 k hk]⟩
theorem OwnV.of_row {w : World} {lo hi q c : Nat} {xs : List Int} (h : Row w q xs) (h1 : lo ≤ q) (h2 : q < hi) (hc : xs.length ≤ c) (hm : c ≤ maxLen) : OwnV w lo hi (.slice (some ⟨q, 0, none⟩) xs.length c) q xs :=
  ⟨_, _, rfl, hc, hm, fun _ => ⟨rfl, h1, h2, _, _, Nat.le_refl _, h, fun _ _ => rfl⟩⟩

theorem size2 (w : World) (p p' : Addr) (u u' : Value) : ((w.setCell p u).setCell p' u').heap.size = w.heap.size := by rw [set_size, set_size]

end Go.Proofs.YtfhlmindkogdoaaGreatDoor

namespace Go.Proofs.YtfhlmindkogdoaaGreatDoor
open Go.ChangeShapes Go.WideShapes Go.ChangeAt Go.RowKit
set_option linter.unusedVariables false
set_option linter.unusedSimpArgs false

end Go.Proofs.YtfhlmindkogdoaaGreatDoor

namespace Go.Proofs.YtfhlmindkogdoaaGreatDoor
open Go.ChangeShapes Go.WideShapes Go.ChangeAt Go.RowKit Go.Sort
set_option linter.unusedVariables false
set_option linter.unusedSimpArgs false

/-- Is number k of the list a fact that is greater than the one before? -/
def okAt (s : List Int) (l : FL) (k : Nat) : Bool := factB s (l.getD k (0, [])).1 (l.getD k (0, [])).2 && (decide (k = 0) || decide (cmpF (l.getD (k - 1) (0, [])).1 (l.getD (k - 1) (0, [])).2 (l.getD k (0, [])).1 (l.getD k (0, [])).2 < 0))
def allOk (s : List Int) (l : FL) (n : Nat) : Bool := (List.range n).all (okAt s l)
theorem allOk_succ (s : List Int) (l : FL) (k : Nat) : allOk s l (k + 1) = (allOk s l k && okAt s l k) := by
  unfold allOk
  rw [List.range_succ, List.all_append]
  simp
theorem allOk_not (s : List Int) (l : FL) (k n : Nat) (hk : k < n) (h : okAt s l k = false) : allOk s l n = false := by
  unfold allOk
  rw [List.all_eq_false]
  exact ⟨k, by simpa using hk, by simp [h]⟩
def areB (s : List Int) (l : FL) : Bool := allOk s l l.length && schB s && decide (l.length ≤ 24)

end Go.Proofs.YtfhlmindkogdoaaGreatDoor

namespace Go.Proofs.YtfhlmindkogdoaaGreatDoor
open Go.ChangeShapes Go.WideShapes Go.ChangeAt Go.RowKit Go.Sort
set_option linter.unusedVariables false
set_option linter.unusedSimpArgs false

theorem take_more (xs ys : List Int) (hl : xs.length = ys.length) (k : Nat) (h : xs.take k = ys.take k) (he : xs.getD k 0 = ys.getD k 0) : xs.take (k + 1) = ys.take (k + 1) := by
  by_cases hk : k < xs.length
  · exact eq_take xs ys hl k hk h he
  · rw [List.take_of_length_le (by omega), List.take_of_length_le (by omega)] at h ⊢
    exact h
theorem take_differ (xs ys : List Int) (k : Nat) (h : xs.getD k 0 ≠ ys.getD k 0) : xs ≠ ys := by rintro rfl; exact h rfl

/-- The three cells of the block from place k on. -/
def cells3 (xs : List Int) (k : Nat) : List Value := ((xs.drop k).take 3).map (Value.int .i64)
theorem cells3_at (xs : List Int) (k j : Nat) (v : Value) (h : (cells3 xs k)[j]? = some v) : j < 3 ∧ k + j < xs.length ∧ v = .int .i64 (xs.getD (k + j) 0) := by
  unfold cells3 at h
  simp only [List.getElem?_map, List.getElem?_take, List.getElem?_drop, Option.map_eq_some_iff] at h
  obtain ⟨a, h, rfl⟩ := h
  split at h
  · rename_i h3
    have hlt : k + j < xs.length := (List.getElem?_eq_some_iff.1 h).1
    exact ⟨h3, hlt, by simp [List.getD_eq_getElem?_getD, h]⟩
  · cases h
theorem splice3_at (xs : List Int) (k : Nat) : splice [Value.int .i64 0, .int .i64 0, .int .i64 0] 0 (cells3 xs k) = [.int .i64 (xs.getD k 0), .int .i64 (xs.getD (k + 1) 0), .int .i64 (xs.getD (k + 2) 0)] := by
  unfold splice cells3
  have e0 : xs.getD k 0 = (xs.drop k).getD 0 0 := by simp [List.getD_eq_getElem?_getD]
  have e1 : xs.getD (k + 1) 0 = (xs.drop k).getD 1 0 := by simp [List.getD_eq_getElem?_getD]
  have e2 : xs.getD (k + 2) 0 = (xs.drop k).getD 2 0 := by simp [List.getD_eq_getElem?_getD]
  rw [e0, e1, e2]
  generalize xs.drop k = ys
  match ys with
  | [] => rfl
  | [_] => rfl
  | [_, _] => rfl
  | _ :: _ :: _ :: _ => simp

end Go.Proofs.YtfhlmindkogdoaaGreatDoor

namespace Go.Proofs.YtfhlmindkogdoaaGreatDoor
open Go.ChangeShapes Go.WideShapes Go.ChangeAt Go.RowKit Go.Sort
set_option linter.unusedVariables false
set_option linter.unusedSimpArgs false

def sameB (r : Int) (xs : List Int) (r' : Int) (ys : List Int) : Bool := decide (r = r') && decide (xs = ys)

def hasB (l : FL) (r : Int) (xs : List Int) : Bool := l.any fun g => sameB g.1 g.2 r xs
theorem hasB_take (l : FL) (r : Int) (xs : List Int) (k : Nat) (hk : k < l.length) : hasB (l.take (k + 1)) r xs = (hasB (l.take k) r xs || sameB (l.getD k (0, [])).1 (l.getD k (0, [])).2 r xs) := by
  unfold hasB
  rw [List.take_succ_eq_append_getElem hk, List.any_append]
  simp [List.getD_eq_getElem?_getD, hk]
theorem hasB_found (l : FL) (r : Int) (xs : List Int) (k : Nat) (hk : k < l.length) (h : sameB (l.getD k (0, [])).1 (l.getD k (0, [])).2 r xs = true) : hasB l r xs = true := by
  unfold hasB
  rw [List.any_eq_true]
  refine ⟨l[k], List.getElem_mem _, ?_⟩
  have : l.getD k (0, []) = l[k] := by simp [List.getD_eq_getElem?_getD, hk]
  rw [this] at h
  exact h
theorem cmp_same (r : Int) (xs : List Int) (r' : Int) (ys : List Int) : (cmpF r xs r' ys == 0) = sameB r xs r' ys := by
  rw [Bool.eq_iff_iff]
  have := cmpF_zero r xs r' ys
  simp [sameB, this]

end Go.Proofs.YtfhlmindkogdoaaGreatDoor

namespace Go.Proofs.YtfhlmindkogdoaaGreatDoor
open Go.ChangeShapes Go.WideShapes Go.ChangeAt Go.RowKit Go.Sort
set_option linter.unusedVariables false
set_option linter.unusedSimpArgs false

def sameL (us bs : FL) : Bool := decide (us = bs)
theorem fl_take (us bs : FL) (hl : us.length = bs.length) (k : Nat) (hk : k < us.length) (h : us.take k = bs.take k) {r r' : Int} {xs ys : List Int} (ha : us.getD k (0, []) = (r, xs)) (hb : bs.getD k (0, []) = (r', ys)) (hs : sameB r xs r' ys = true) : us.take (k + 1) = bs.take (k + 1) := by
  rw [List.take_succ_eq_append_getElem hk, List.take_succ_eq_append_getElem (by omega), h]
  have h1 : us[k] = us.getD k (0, []) := by simp [List.getD_eq_getElem?_getD, hk]
  have h2 : bs[k]'(by omega) = bs.getD k (0, []) := by simp [List.getD_eq_getElem?_getD, show k < bs.length by omega]
  rw [h1, h2, ha, hb]
  simp [sameB] at hs
  rw [hs.1, hs.2]
theorem fl_differ (us bs : FL) (k : Nat) {r r' : Int} {xs ys : List Int} (ha : us.getD k (0, []) = (r, xs)) (hb : bs.getD k (0, []) = (r', ys)) (hs : sameB r xs r' ys = false) : sameL us bs = false := by
  unfold sameL
  rw [decide_eq_false]
  rintro rfl
  rw [ha] at hb
  injection hb with h1 h2
  subst h1 h2
  simp [sameB] at hs

end Go.Proofs.YtfhlmindkogdoaaGreatDoor

namespace Go.Proofs.YtfhlmindkogdoaaGreatDoor
open Go.ChangeShapes Go.WideShapes Go.ChangeAt Go.RowKit Go.Sort
set_option linter.unusedVariables false
set_option linter.unusedSimpArgs false

theorem add_eq (b off j : Nat) : (⟨b, off, none⟩ : Addr).add j = ⟨b, off + j, none⟩ := by unfold Addr.add; split <;> simp_all

theorem own_some {g n c k : Nat} (h : (Value.slice (some ⟨g, 0, none⟩) n c).ownBlock = some k) : g = k := by simpa [Value.ownBlock] using h

/-- append(v, s...) onto a row of the call's own, s a list of numbers that is read, nil or not. -/
theorem wpList_append_nums {P : Program} {w : World} {ops : Array Oper} {rest : List Oper} {o : Oper} {a : Act} {Q : Exit → Act → World → Prop} (hgd : o.guard = none) (s x : Operand) (t : TypeId)
    (ho : o.op = .call { callee := .builtin .append, args := #[s, x], argTypes := #[t, t] })
    (base : Nat) (e : TypeId) (i : TypeInfo) (ht : P.underlying t = some (.slice e)) (hi : P.info? e = some i) (hz : i.zero = some (.int .i64 0)) (hz1 : i.size = 1) (hz2 : i.bytes = 8)
    (v : Value) (n : Nat) (cs : List Value) (hs : a.eval s = v) (hown : w.ownsRow base e 1 v n cs) (lo hi' : Nat) (A : Option Addr) (c : Nat) (xs : List Int) (hx : a.eval x = .slice A xs.length c) (hr : Ints w lo hi' A xs)
    (hn : n + xs.length ≤ 17592186044416) (hbase : base ≤ w.heap.size)
    (h : ∀ v' w', w'.ownsRow base e 1 v' (n + xs.length) (cs ++ xs.map (Value.int .i64)) → w.grownBy w' v.ownBlock → (v'.ownBlock = v.ownBlock ∨ v'.ownBlock = some w.heap.size) → wpList P ops Q rest (a.put o.dst v') w') :
    wpList P ops Q (o :: rest) a w := by
  rcases A with _ | ad
  · have hx0 : xs = [] := by
      rcases xs with _ | ⟨y, ys⟩
      · rfl
      · obtain ⟨b, off, h1, _⟩ := hr (by simp)
        cases h1
    subst hx0
    refine wpList_plain hgd fun K hK => ?_
    have hrun : (Builtin.append_ #[t, t] o.type #[v, .slice none 0 c]).run P w = .ok v w := by
      rcases hown.2 with ⟨rfl, rfl⟩ | ⟨g, cap, cur, rfl, _, _, hnc, _⟩
      · simp [Builtin.append_, run_underlying ht, sizeOf, typeInfo, hi, Builtin.lenOf, Builtin.firstCells]
      · simp [Builtin.append_, run_underlying ht, sizeOf, typeInfo, hi, Builtin.lenOf, Builtin.firstCells, hnc, storeCells]
    unfold Oper.wp execOp
    simp only [List.length_nil] at hx
    simp only [ho, resolve, invoke, builtin, Sem.run_bind, Sem.run_pure, Result.andThen_ok, List.map_toArray, List.map_cons, List.map_nil, hs, hx, hrun]
    exact hK _ _ (h v w (by simpa using hown) (World.grownBy.refl w _) (.inl rfl))
  · refine wpList_append_own_at w hgd s x t ho base e i (.int .i64 0) 1 8 ht hi hz hz1 hz2 rfl (by omega) v n cs hs hown ad xs.length c (xs.map (Value.int .i64)) hx (by simp) (fun j u hj => ?_) (fun u hu => ?_) (by unfold maxLen; omega) (by omega) hbase
      fun v' w' h1 h2 _ h3 => h v' w' h1 h2 h3
    · have hj' : j < xs.length := by have := (List.getElem?_eq_some_iff.1 hj).1; simpa using this
      obtain ⟨b, off, h1, _, _, h4⟩ := hr (by rintro rfl; simp at hj')
      injection h1 with h1
      subst h1
      rw [add_eq, h4 j hj']
      rw [List.getElem?_map, List.getElem?_eq_getElem hj'] at hj
      injection hj with hj
      subst hj
      simp [List.getD_eq_getElem?_getD, hj']
    · simp only [List.mem_map] at hu
      obtain ⟨y, _, rfl⟩ := hu
      rfl

/-- A row of the call's own that holds the numbers xs. -/
theorem ownV_of_row {w : World} {base : Nat} {v : Value} {n : Nat} {xs : List Int} (h : w.ownsRow base 3 1 v n (xs.map (Value.int .i64))) : ∃ q, OwnV w base w.heap.size v q xs := by
  have hl : n = xs.length := by have := h.1; simp at this; omega
  rcases h.2 with ⟨rfl, h0⟩ | ⟨g, cap, cur, rfl, hb, hg, hnc, hcm, hcs, htk⟩
  · have hx : xs = [] := List.eq_nil_of_length_eq_zero (by omega)
    subst hx
    exact ⟨0, none, 0, by simp, Nat.le_refl _, by unfold maxLen; omega, fun h => absurd h (by simp)⟩
  · subst hl
    have hlt : g < w.heap.size := by
      rcases Nat.lt_or_ge g w.heap.size with hlt | hge
      · exact hlt
      · rw [Array.getElem?_eq_none hge] at hg; cases hg
    refine ⟨g, _, _, rfl, hnc, hcm, fun _ => ⟨rfl, hb, hlt, cap, fun i => cur.getD i undef, hnc, ⟨cur, hg, by omega, fun i hi => ?_⟩, fun i hi => ?_⟩⟩
    · simp [Array.getD_eq_getD_getElem?, show i < cur.size by omega]
    · have h1 : (cur.toList.take (xs.length * 1))[i]? = (xs.map (Value.int .i64))[i]? := by rw [htk]
      rw [Nat.mul_one, List.getElem?_take_of_lt hi, List.getElem?_map, List.getElem?_eq_getElem hi] at h1
      simp only [Array.getD_eq_getD_getElem?, List.getD_eq_getElem?_getD]
      rw [Array.getElem?_toList] at h1
      rw [h1, List.getElem?_eq_getElem hi]
      rfl

theorem OwnV.form {w : World} {lo hi q : Nat} {v : Value} {xs : List Int} (h : OwnV w lo hi v q xs) : ∃ A c, v = .slice A xs.length c ∧ xs.length ≤ c ∧ c ≤ maxLen := by
  obtain ⟨A, c, e, h1, h2, _⟩ := h
  exact ⟨A, c, e, h1, h2⟩
def CopyI (w : World) (xs : List Int) (e : Ending) (w' : World) : Prop := ∃ A c q, e = .returned (.slice A xs.length c) ∧ OwnV w' w.heap.size w'.heap.size (.slice A xs.length c) q xs ∧ Below w.heap.size w w'

def CopyF (w : World) (r : Int) (xs : List Int) (e : Ending) (w' : World) : Prop := ∃ A c q, e = .returned (.agg #[.int .i64 r, .slice A xs.length c]) ∧ OwnV w' w.heap.size w'.heap.size (.slice A xs.length c) q xs ∧ Below w.heap.size w w'

theorem OwnV.step {w w' : World} {lo q : Nat} {v : Value} {xs : List Int} (h : OwnV w lo w.heap.size v q xs) (b : Below w.heap.size w w') : OwnV w' lo w'.heap.size v q xs :=
  (h.keep fun _ h2 _ => b.block _ h2).mono (Nat.le_refl _) b.size

end Go.Proofs.YtfhlmindkogdoaaGreatDoor

namespace Go.Proofs.YtfhlmindkogdoaaGreatDoor
open Go.ChangeShapes Go.WideShapes Go.ChangeAt Go.RowKit Go.Sort
set_option linter.unusedVariables false
set_option linter.unusedSimpArgs false

/-- The cells cs are the facts fs, their numbers each in a block of its own from lo to below hi. -/
def Items (w : World) (lo hi : Nat) (fs : FL) (cs : List Value) (bs : Nat → Nat) : Prop :=
  cs.length = fs.length * 2 ∧ (∀ k, k < fs.length → cs[k * 2]? = some (.int .i64 (fs.getD k (0, [])).1) ∧ ∃ v1, cs[k * 2 + 1]? = some v1 ∧ OwnV w lo hi v1 (bs k) (fs.getD k (0, [])).2) ∧
    (∀ i j, i < j → j < fs.length → 0 < (fs.getD i (0, [])).2.length → 0 < (fs.getD j (0, [])).2.length → bs i ≠ bs j)
theorem OwnV.keep_len {w w' : World} {lo hi q : Nat} {v : Value} {xs : List Int} (h : OwnV w lo hi v q xs) (hk : 0 < xs.length → lo ≤ q → q < hi → w'.heap[q]? = w.heap[q]?) : OwnV w' lo hi v q xs := by
  obtain ⟨A, c, e, hc, hm, hx⟩ := h
  exact ⟨A, c, e, hc, hm, fun hp => by
    obtain ⟨a, b, d, m, F, h1, h2, h3⟩ := hx hp
    exact ⟨a, b, d, m, F, h1, World.rowIs.of_block h2 (hk hp b d), h3⟩⟩
theorem Items.keep {w w' : World} {lo hi : Nat} {fs : FL} {cs : List Value} {bs : Nat → Nat} (h : Items w lo hi fs cs bs) (hk : ∀ q, lo ≤ q → q < hi → (∃ c, w.heap[q]? = some (.cells c 3 (0, 0))) → w'.heap[q]? = w.heap[q]?) : Items w' lo hi fs cs bs := by
  obtain ⟨h1, h2, h3⟩ := h
  refine ⟨h1, fun k hkl => ?_, h3⟩
  obtain ⟨e0, v1, e1, hv⟩ := h2 k hkl
  exact ⟨e0, v1, e1, hv.keep (hk _)⟩
theorem Items.mono {w : World} {lo hi lo' hi' : Nat} {fs : FL} {cs : List Value} {bs : Nat → Nat} (h : Items w lo hi fs cs bs) (a : lo' ≤ lo) (b : hi ≤ hi') : Items w lo' hi' fs cs bs := by
  obtain ⟨h1, h2, h3⟩ := h
  refine ⟨h1, fun k hkl => ?_, h3⟩
  obtain ⟨e0, v1, e1, hv⟩ := h2 k hkl
  exact ⟨e0, v1, e1, hv.mono a b⟩
theorem OwnV.rng {w : World} {lo hi q : Nat} {v : Value} {xs : List Int} (h : OwnV w lo hi v q xs) (hp : 0 < xs.length) : lo ≤ q ∧ q < hi := by
  obtain ⟨_, _, _, _, _, hx⟩ := h
  obtain ⟨_, a, b, _⟩ := hx hp
  exact ⟨a, b⟩
theorem Items.rng {w : World} {lo hi : Nat} {fs : FL} {cs : List Value} {bs : Nat → Nat} (h : Items w lo hi fs cs bs) {k : Nat} (hk : k < fs.length) (hp : 0 < (fs.getD k (0, [])).2.length) : lo ≤ bs k ∧ bs k < hi := by
  obtain ⟨_, v1, _, hv⟩ := h.2.1 k hk
  exact hv.rng hp
theorem getD_left (fs gs : FL) {k : Nat} (hk : k < fs.length) : (fs ++ gs).getD k (0, []) = fs.getD k (0, []) := by
  simp [List.getD_eq_getElem?_getD, List.getElem?_append_left hk]
theorem getD_right (fs gs : FL) {k : Nat} (hk : fs.length ≤ k) : (fs ++ gs).getD k (0, []) = gs.getD (k - fs.length) (0, []) := by
  simp [List.getD_eq_getElem?_getD, List.getElem?_append_right hk]
theorem Items.append {w : World} {lo mid hi : Nat} {fs gs : FL} {cs ds : List Value} {bs bs' : Nat → Nat} (h : Items w lo mid fs cs bs) (h' : Items w mid hi gs ds bs') (a : lo ≤ mid) (b : mid ≤ hi) :
    Items w lo hi (fs ++ gs) (cs ++ ds) (fun k => if k < fs.length then bs k else bs' (k - fs.length)) := by
  have H := h
  have H' := h'
  obtain ⟨h1, h2, h3⟩ := h
  obtain ⟨g1, g2, g3⟩ := h'
  refine ⟨by simp only [List.length_append, h1, g1]; omega, fun k hk => ?_, fun i j hij hj hi0 hj0 => ?_⟩
  · by_cases hkl : k < fs.length
    · simp only [if_pos hkl]
      rw [getD_left fs gs hkl, List.getElem?_append_left (by omega), List.getElem?_append_left (by omega)]
      obtain ⟨e0, v1, e1, hv⟩ := h2 k hkl
      exact ⟨e0, v1, e1, hv.mono (Nat.le_refl _) b⟩
    · rw [List.length_append] at hk
      simp only [if_neg hkl]
      rw [getD_right fs gs (by omega), List.getElem?_append_right (by omega), List.getElem?_append_right (by omega), h1,
        show k * 2 - fs.length * 2 = (k - fs.length) * 2 by omega, show k * 2 + 1 - fs.length * 2 = (k - fs.length) * 2 + 1 by omega]
      obtain ⟨e0, v1, e1, hv⟩ := g2 (k - fs.length) (by omega)
      exact ⟨e0, v1, e1, hv.mono a (Nat.le_refl _)⟩
  · rw [List.length_append] at hj
    by_cases hjl : j < fs.length
    · have hil : i < fs.length := by omega
      rw [getD_left fs gs hjl] at hj0
      rw [getD_left fs gs hil] at hi0
      simp only [if_pos hjl, if_pos hil]
      exact h3 i j hij hjl hi0 hj0
    · rw [getD_right fs gs (by omega)] at hj0
      by_cases hil : i < fs.length
      · rw [getD_left fs gs hil] at hi0
        simp only [if_neg hjl, if_pos hil]
        have r1 := H.rng hil hi0
        have r2 := H'.rng (show j - fs.length < gs.length by omega) hj0
        omega
      · rw [getD_right fs gs (by omega)] at hi0
        simp only [if_neg hjl, if_neg hil]
        exact g3 (i - fs.length) (j - fs.length) (by omega) (by omega) hi0 hj0
theorem Items.one {w : World} {lo hi q : Nat} {r : Int} {xs : List Int} {v : Value} (h : OwnV w lo hi v q xs) : Items w lo hi [(r, xs)] [.int .i64 r, v] (fun _ => q) := by
  refine ⟨rfl, fun k hk => ?_, fun i j hij hj => ?_⟩
  · have : k = 0 := by simpa using hk
    subst this
    exact ⟨rfl, v, rfl, h⟩
  · simp at hj; omega
theorem Items.nil (w : World) (lo hi : Nat) : Items w lo hi [] [] (fun _ => 0) := ⟨rfl, fun k hk => by simp at hk, fun i j _ hj => by simp at hj⟩

theorem own_none {w w' : World} (b : Below w.heap.size w w') : w.grownBy w' none := ⟨b.os, b.tape, b.output, b.size, fun k hk _ => b.block k hk⟩
end Go.Proofs.YtfhlmindkogdoaaGreatDoor

namespace Go.Proofs.YtfhlmindkogdoaaGreatDoor
open Go.ChangeShapes Go.WideShapes Go.ChangeAt Go.RowKit Go.Sort
set_option linter.unusedVariables false
set_option linter.unusedSimpArgs false

/-- append(v, y) of one element, in a new block. -/
theorem wpList_push {P : Program} {W w0 : World} {ops : Array Oper} {rest : List Oper} {o : Oper} {a : Act} {Q : Exit → Act → World → Prop} (hgd : o.guard = none) (s x : Operand) (t e : TypeId)
    (ho : o.op = .call { callee := .builtin .append, args := #[s, x], argTypes := #[t, t] })
    (i : TypeInfo) (ht : P.underlying t = some (.slice e)) (hi : P.info? e = some i) (z : Value) (bytes : Nat) (hz : i.zero = some z) (hz1 : i.size = 1) (hz2 : i.bytes = bytes) (hzs : z.cells.size = 1) (hby : bytes ≤ 32)
    {base n : Nat} {v : Value} {cs : List Value} {y : Value} (hs : a.eval s = v) (hx : a.eval x = .slice (some ⟨W.heap.size, 0, none⟩) 1 1) (hy : y.oneCell' = true)
    (hown : W.ownsRow base e 1 v n cs) (hb : Below base w0 W) (hbase : base ≤ W.heap.size) (hn : n + 1 ≤ 1048580)
    (h : ∀ v' w', w'.ownsRow base e 1 v' (n + 1) (cs ++ [y]) → Below base w0 w' → w'.heap.size > base → wpList P ops Q rest (a.put o.dst v') w') :
    wpList P ops Q (o :: rest) a (W.alloc (.cells #[y] e)) := by
  refine wpList_append_own (P := P) _ hgd s x t ho base e i z 1 bytes ht hi hz hz1 hz2 hzs (by omega) v n _ hs (hown.alloc _) ⟨W.heap.size, 0, none⟩ 1 1 [y] hx rfl (cell_one_new _ _ _) (by intro u hu; simp at hu; subst hu; exact hy)
    (by unfold maxLen; omega) (by have : (n + 1) * bytes ≤ 1048580 * 32 := Nat.mul_le_mul hn hby; omega) (by simp; omega) ?_
  intro v' w' hown' hg _
  refine h v' w' hown' ((hb.alloc hbase _).grown hg (by simp; omega) fun k hk => ?_) (by have := hg.size; simp at this; omega)
  exact (hown.lt k hk).1

theorem ownsRow_form {w : World} {base : Nat} {e : TypeId} {size : Nat} {v : Value} {n : Nat} {cs : List Value} (h : w.ownsRow base e size v n cs) : ∃ A c, v = .slice A n c := by
  rcases h.2 with ⟨rfl, h0⟩ | ⟨g, cap, _, rfl, _⟩
  · exact ⟨none, 0, by rw [h0]⟩
  · exact ⟨_, _, rfl⟩
theorem ownsRow_step {w w' : World} {base : Nat} {e : TypeId} {size : Nat} {v : Value} {n : Nat} {cs : List Value} (h : w.ownsRow base e size v n cs) (d : Below w.heap.size w w') : w'.ownsRow base e size v n cs :=
  h.kept (own_none d) (by rcases hv : v.ownBlock with _ | g <;> simp)

theorem box_set1 {w : World} {g : Nat} {t : TypeId} {a b v : Value} (h : Box w g #[a, b] t) : Box (w.setCell ⟨g, 1, none⟩ v) g #[a, v] t := by
  have hlt := h.lt
  unfold Box at h ⊢
  have h' : w.heap[g] = .cells #[a, b] t (0, 0) := by simpa [Array.getElem?_eq_getElem hlt] using h
  show (w.heap.modify g _)[g]? = _
  rw [Array.getElem?_eq_getElem (by simpa using hlt), Array.getElem_modify_self, h']
  rfl
theorem ownsRow_set {w : World} {base : Nat} {e : TypeId} {size : Nat} {v u : Value} {n : Nat} {cs : List Value} (h : w.ownsRow base e size v n cs) {p : Addr} (hp : p.block < base) : (w.setCell p u).ownsRow base e size v n cs := by
  refine ⟨h.1, ?_⟩
  rcases h.2 with h0 | ⟨g, cap, cur, hv, hb, hg, r⟩
  · exact .inl h0
  · exact .inr ⟨g, cap, cur, hv, hb, by rw [Below.heap_setCell _ _ _ _ (by omega)]; exact hg, r⟩

theorem step_callB {P : Program} {ops : Array Oper} {o : Oper} {a : Act} {w : World} {K : Act → World → Prop} {Q : Exit → Act → World → Prop} {E : Prop}
    (hgd : o.guard = none) (g : FuncId) (x : Operand) (t : TypeId) (ho : o.op = .call { callee := .value (.func g), args := #[x], argTypes := #[t] })
    (vx v : Value) (hx : a.eval x = vx) (hcf : (callFunc g #[vx]).run P w = .ok (.enter g #[vx]) w) (hc : Calls P g #[vx] w fun e w' => e = .returned v ∧ Below w.heap.size w w') (hK : ∀ w', Below w.heap.size w w' → K (a.put o.dst v) w') :
    if Region.wanted o (yielded ops a.tmps) = true then Oper.wp P o a w K Q else E := by
  have hw : Region.wanted o (yielded ops a.tmps) = true := by simp [Region.wanted, hgd]
  rw [if_pos hw]
  unfold Oper.wp
  have hf : a.eval (.func g) = Value.func (.func g) #[] #[] := rfl
  have e : (execOp a.eval o).run P w = .ok (.enter g #[vx]) w := by
    rw [← hx] at hcf ⊢
    simpa [go_sem, execOp, ho, resolve, invoke] using hcf
  rw [e, Oper.upon_enter]
  refine hc.mono ?_
  rintro _ w' ⟨rfl, d⟩
  exact hK w' d

theorem step_pushR {P : Program} {w w0 : World} {ops : Array Oper} {o : Oper} {a : Act} {K : Act → World → Prop} {Q : Exit → Act → World → Prop} {E : Prop} (hgd : o.guard = none) (s x : Operand) (t e : TypeId)
    (ho : o.op = .call { callee := .builtin .append, args := #[s, x], argTypes := #[t, t] })
    (i : TypeInfo) (ht : P.underlying t = some (.slice e)) (hi : P.info? e = some i) (z : Value) (bytes : Nat) (hz : i.zero = some z) (hz1 : i.size = 1) (hz2 : i.bytes = bytes) (hzs : z.cells.size = 1) (hby : bytes ≤ 32)
    (base n : Nat) (v : Value) (cs : List Value) (ad : Addr) (c : Nat) (y : Value) (hs : a.eval s = v) (hx : a.eval x = .slice (some ad) 1 c) (hy : y.oneCell' = true)
    (hown : w.ownsRow base e 1 v n cs) (hb : Below base w0 w) (hbase : base ≤ w.heap.size) (hn : n + 1 ≤ 1048580)
    (hc0 : w.cell? (ad.add 0) = some y)
    (h : ∀ v' w', w'.ownsRow base e 1 v' (n + 1) (cs ++ [y]) → Below base w0 w' → w.heap.size ≤ w'.heap.size → K (a.put o.dst v') w') :
    if Region.wanted o (yielded ops a.tmps) = true then Oper.wp P o a w K Q else E := by
  have hw : Region.wanted o (yielded ops a.tmps) = true := by simp [Region.wanted, hgd]
  rw [if_pos hw]
  refine wp_append_own (P := P) _ s x t ho base e i z 1 bytes ht hi hz hz1 hz2 hzs (by omega) v n _ hs hown ad 1 c [y] hx rfl
    (fun j u hj => by
      rcases j with _ | j
      · simp at hj; subst hj; exact hc0
      · simp at hj) (by intro u hu; simp at hu; subst hu; exact hy)
    (by unfold maxLen; omega) (by have : (n + 1) * bytes ≤ 1048580 * 32 := Nat.mul_le_mul hn hby; omega) hbase ?_
  intro v' w' hown' hg _
  refine h v' w' hown' (hb.grown hg hbase fun k hk => ?_) hg.size
  exact (hown.lt k hk).1


/-- append(v, s...) as one step of a region that draws: v a row of the call's own, s a list of numbers that is read, nil or not. -/
theorem step_appendR {P : Program} {w w0 : World} {ops : Array Oper} {o : Oper} {a : Act} {K : Act → World → Prop} {Q : Exit → Act → World → Prop} {E : Prop} (hgd : o.guard = none) (s x : Operand) (t e : TypeId)
    (ho : o.op = .call { callee := .builtin .append, args := #[s, x], argTypes := #[t, t] })
    (i : TypeInfo) (ht : P.underlying t = some (.slice e)) (hi : P.info? e = some i) (hz : i.zero = some (.int .i64 0)) (hz1 : i.size = 1) (hz2 : i.bytes = 8)
    (base n : Nat) (v : Value) (cs : List Value) (hs : a.eval s = v) (lo hi' : Nat) (A : Option Addr) (c : Nat) (xs : List Int) (hx : a.eval x = .slice A xs.length c)
    (hown : w.ownsRow base e 1 v n cs) (hr : Ints w lo hi' A xs) (hb : Below base w0 w) (hbase : base ≤ w.heap.size) (hn : n + xs.length ≤ 17592186044416)
    (h : ∀ v' w', w'.ownsRow base e 1 v' (n + xs.length) (cs ++ xs.map (Value.int .i64)) → Below base w0 w' → w.heap.size ≤ w'.heap.size → K (a.put o.dst v') w') :
    if Region.wanted o (yielded ops a.tmps) = true then Oper.wp P o a w K Q else E := by
  have hw : Region.wanted o (yielded ops a.tmps) = true := by simp [Region.wanted, hgd]
  rw [if_pos hw]
  rcases A with _ | ad
  · have hx0 : xs = [] := by
      rcases xs with _ | ⟨y, ys⟩
      · rfl
      · obtain ⟨b, off, h1, _⟩ := hr (by simp)
        cases h1
    subst hx0
    have hrun : (Builtin.append_ #[t, t] o.type #[v, .slice none 0 c]).run P w = .ok v w := by
      rcases hown.2 with ⟨rfl, rfl⟩ | ⟨g, cap, cur, rfl, _, _, hnc, _⟩
      · simp [Builtin.append_, run_underlying ht, sizeOf, typeInfo, hi, Builtin.lenOf, Builtin.firstCells]
      · simp [Builtin.append_, run_underlying ht, sizeOf, typeInfo, hi, Builtin.lenOf, Builtin.firstCells, hnc, storeCells]
    unfold Oper.wp execOp
    simp only [List.length_nil] at hx
    simp only [ho, resolve, invoke, builtin, Sem.run_bind, Sem.run_pure, Result.andThen_ok, List.map_toArray, List.map_cons, List.map_nil, hs, hx, hrun]
    exact h v w (by simpa using hown) hb (Nat.le_refl _)
  · refine wp_append_own (P := P) _ s x t ho base e i (.int .i64 0) 1 8 ht hi hz hz1 hz2 rfl (by omega) v n _ hs hown ad xs.length c (xs.map (Value.int .i64)) hx (by simp) (fun j u hj => ?_) (fun u hu => ?_) (by unfold maxLen; omega) (by omega) hbase ?_
    · have hj' : j < xs.length := by have := (List.getElem?_eq_some_iff.1 hj).1; simpa using this
      obtain ⟨b, off, h1, _, _, h4⟩ := hr (by rintro rfl; simp at hj')
      injection h1 with h1
      subst h1
      rw [add_eq, h4 j hj']
      rw [List.getElem?_map, List.getElem?_eq_getElem hj'] at hj
      injection hj with hj
      subst hj
      simp [List.getD_eq_getElem?_getD, hj']
    · simp only [List.mem_map] at hu
      obtain ⟨y, _, rfl⟩ := hu
      rfl
    · intro v' w' hown' hg _
      exact h v' w' hown' (hb.grown hg hbase fun k hk => (hown.lt k hk).1) hg.size
end Go.Proofs.YtfhlmindkogdoaaGreatDoor
