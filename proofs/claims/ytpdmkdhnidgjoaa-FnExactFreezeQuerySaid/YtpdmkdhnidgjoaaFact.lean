/- What the functions on one fact answer. Conditions: none beyond each theorem's own. -/
import Derived.Test.YtpdmkdhnidgjoaaFacts
import Derived.Deep.RegionHeld3
import Derived.Outline
namespace Go.Proofs.Ytpdmkdhnidgjoaa
open Go.ChangeShapes Go.WideShapes Go.ChangeAt Go.RowKit
set_option linter.unusedVariables false
set_option linter.unusedSimpArgs false

theorem set_size (w : World) (p : Addr) (u : Value) : (w.setCell p u).heap.size = w.heap.size := by simp [World.setCell]
theorem Row.set_other {w : World} {g : Nat} {xs : List Int} (h : Row w g xs) {p : Addr} {u : Value} (hp : g ≠ p.block) : Row (w.setCell p u) g xs := h.of_block (Below.heap_setCell _ _ _ _ hp)

theorem cell_new (w : World) (cs : Array Value) (t : TypeId) (i : Nat) : (w.alloc (.cells cs t)).cell? ⟨w.heap.size, i, none⟩ = cs[i]? := by
  rw [World.cell?_alloc_at _ _ _ _ rfl]
theorem below_new {w w1 : World} {o : Obj} (h : Below (w.alloc o).heap.size (w.alloc o) w1) : Below w.heap.size w w1 := ((Below.refl _ _).alloc (Nat.le_refl _) _).trans (h.mono (by simp <;> omega))
theorem cell_below_new {w w1 : World} {cs : Array Value} {t : TypeId} (h : Below (w.alloc (.cells cs t)).heap.size (w.alloc (.cells cs t)) w1) (i : Nat) : w1.cell? ⟨w.heap.size, i, none⟩ = cs[i]? := by
  rw [h.cell (p := ⟨w.heap.size, i, none⟩) (by simp), cell_new]

set_option maxRecDepth 100000 in
theorem szFact_any (f : Int × List Int) (A : Option Addr) (c : Nat) (left : Int) (hl : f.2.length ≤ 9223372036854775807) (h0 : 0 ≤ left) (h1 : left ≤ 1048576) (w : World) :
    Calls Try.prog 57 #[.agg #[.int .i64 f.1, .slice A f.2.length c], .int .i64 left] w fun e w' => e = .returned (.int .i64 (if left - f.2.length < 0 then -1 else left - f.2.length)) ∧ Below w.heap.size w w' := by
  obtain ⟨r, xs⟩ := f
  simp only at hl ⊢
  by_cases h : left - (xs.length : Int) < 0
  · go_enter Try.func57, Try.ntmps57
    go_wp2_with fail
    refine (szIntS_any A c xs.length left hl h0 h1 _).mono ?_
    rintro e w1 ⟨rfl, rfl⟩
    rw [if_pos h]
    go_wp2
    go_ret
    exact ⟨rfl, (Below.refl _ _).alloc (Nat.le_refl _) _⟩
  · go_enter Try.func57, Try.ntmps57
    go_wp2_with fail
    refine (szIntS_any A c xs.length left hl h0 h1 _).mono ?_
    rintro e w1 ⟨rfl, rfl⟩
    have h' : (xs.length : Int) ≤ left := by omega
    rw [if_neg (by omega)]
    go_wp2
    go_ret
    exact ⟨rfl, (Below.refl _ _).alloc (Nat.le_refl _) _⟩

set_option maxHeartbeats 400000 in
set_option maxRecDepth 100000 in
theorem toFact_any (lo hi : Nat) (r : Int) (xs : List Int) (A : Option Addr) (c : Nat) (hl : xs.length ≤ 1048576) (w : World) (hhi : hi ≤ w.heap.size) (h : Ints w lo hi A xs) :
    Calls Try.prog 61 #[.agg #[.int .i64 r, .slice A xs.length c]] w fun e w' => e = .returned (.agg #[.int .i64 r, .slice (some ⟨w.heap.size + 3, 0, none⟩) xs.length xs.length]) ∧
      Row w' (w.heap.size + 3) xs ∧ Below w.heap.size w w' ∧ w'.heap.size = w.heap.size + 4 := by
  have HI := Lib.hid h
  clear h
  go_enter Try.func61, Try.ntmps61
  go_wp2_with fail
  refine (toIntS_any lo hi A c xs hl _ (by simp [World.setCell]; omega) (HI.out.below (((((Below.refl _ _).alloc (Nat.le_refl _) _).alloc (by simp) _).alloc (by simp; omega) _)) hhi)).mono ?_
  rintro e w1 ⟨rfl, hr, hb, hz⟩
  obtain ⟨hc, hf⟩ := bcell hb
  have hs : (w.heap.size + 1 + 1 + 1 + 1 = w1.heap.size) := by rw [hz]; simp
  have HR := Lib.hid hr
  have HB := Lib.hid hb
  have HS := Lib.hid hs
  have HZ : w.heap.size + 2 < w1.heap.size := by omega
  clear hr hb hz hs
  go_wp2
  refine bodyPost_ret (v := .agg #[.int .i64 r, .slice (some ⟨w.heap.size + 3, 0, none⟩) xs.length xs.length]) (by simp [results, Try.results61, go_sem, hc, HZ]) rfl ⟨rfl, ?_, ?_, ?_⟩
  · have := HR.out
    simp at this
    exact ((this.set_other (by simp <;> omega)).set_other (by simp <;> omega)).set_other (by simp <;> omega)
  · have B := HB.out
    refine Below.setCell (Below.setCell (Below.setCell ((((((Below.refl _ _).alloc (Nat.le_refl _) _).alloc (by simp) _).alloc (by simp; omega) _)).trans (B.mono ?_)) ?_ _) ?_ _) ?_ _
    all_goals (simp; try omega)
  · rw [set_size, set_size, set_size, ← HS.out]

set_option maxHeartbeats 400000 in
set_option maxRecDepth 100000 in
theorem eqFact_any (lo hi lo' hi' : Nat) (r r' : Int) (xs ys : List Int) (A A' : Option Addr) (c c' : Nat) (hl : xs.length ≤ 140737488355328) (hl2 : ys.length ≤ 140737488355328) (w : World) (hhi : hi ≤ w.heap.size) (hhi' : hi' ≤ w.heap.size)
    (h : Ints w lo hi A xs) (h' : Ints w lo' hi' A' ys) :
    Calls Try.prog 53 #[.agg #[.int .i64 r, .slice A xs.length c], .agg #[.int .i64 r', .slice A' ys.length c']] w fun e w' => e = .returned (.bool (decide (r = r') && decide (xs = ys))) ∧ Below w.heap.size w w' := by
  have HI := Lib.hid h
  have HJ := Lib.hid h'
  clear h h'
  by_cases hr : r = r'
  · subst hr
    by_cases he : xs = ys
    · have D := Lib.hid (show decide (xs = ys) = true by simpa using he)
      have H : (decide (r = r) && decide (xs = ys)) = true := by simp [he]
      rw [H]
      clear H he
      go_enter Try.func53, Try.ntmps53
      go_wp2_with fail
      refine (eqIntS_any lo hi lo' hi' A A' c c' xs ys hl hl2 _ (HI.out.below (((Below.refl _ _).alloc (Nat.le_refl _) _).alloc (by simp) _) hhi) (HJ.out.below (((Below.refl _ _).alloc (Nat.le_refl _) _).alloc (by simp) _) hhi')).mono ?_
      rintro e w1 ⟨he, hb⟩
      rw [D.out] at he
      subst he
      have B : Below w.heap.size w w1 := (((Below.refl _ _).alloc (Nat.le_refl _) _).alloc (by simp) _).trans (hb.mono (by simp; omega))
      clear hb
      go_wp2
      go_ret
      exact ⟨rfl, B⟩
    · have D := Lib.hid (show decide (xs = ys) = false by simpa using he)
      have H : (decide (r = r) && decide (xs = ys)) = false := by simp [he]
      rw [H]
      clear H he
      go_enter Try.func53, Try.ntmps53
      go_wp2_with fail
      refine (eqIntS_any lo hi lo' hi' A A' c c' xs ys hl hl2 _ (HI.out.below (((Below.refl _ _).alloc (Nat.le_refl _) _).alloc (by simp) _) hhi) (HJ.out.below (((Below.refl _ _).alloc (Nat.le_refl _) _).alloc (by simp) _) hhi')).mono ?_
      rintro e w1 ⟨he, hb⟩
      rw [D.out] at he
      subst he
      have B : Below w.heap.size w w1 := (((Below.refl _ _).alloc (Nat.le_refl _) _).alloc (by simp) _).trans (hb.mono (by simp; omega))
      clear hb
      go_wp2
      go_ret
      exact ⟨rfl, B⟩
  · have H : (decide (r = r') && decide (xs = ys)) = false := by simp [hr]
    rw [H]
    have d1 : (r == r') = false := by simpa using hr
    have d2 : (r != r') = true := by simpa using hr
    clear H hr
    go_enter Try.func53, Try.ntmps53
    go_wp2
    go_ret
    exact ⟨rfl, ((Below.refl _ _).alloc (Nat.le_refl _) _).alloc (by simp) _⟩

/-- Is (r, xs) a fact of the schema s? -/
def factB (s : List Int) (r : Int) (xs : List Int) : Bool := schB s && inB r 0 ((s.length : Int) - 1) && decide ((xs.length : Int) = s.getD r.toNat 0) && allB 0 9 xs

theorem left_same {P : Program} {f : FuncId} {args : Array Value} {w : World} {v : Value} (h : Calls P f args w fun e w' => e = .returned v ∧ w = w') : Calls P f args w fun e w' => e = .returned v ∧ w' = w :=
  h.mono fun _ _ ⟨a, b⟩ => ⟨a, b.symm⟩

end Go.Proofs.Ytpdmkdhnidgjoaa
