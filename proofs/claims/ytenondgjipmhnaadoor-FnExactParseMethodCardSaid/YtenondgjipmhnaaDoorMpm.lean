/- Marks in one method of the call's own. Conditions: none beyond each theorem's own. -/
import Derived.Test.YtenondgjipmhnaaDoorMpS
import Derived.Test.YtenondgjipmhnaaDoorMpJ
namespace Go.Proofs.YtenondgjipmhnaaDoor
open Go.ChangeShapes Go.WideShapes Go.ChangeAt Go.RowKit Go.Sort
set_option linter.unusedVariables false
set_option linter.unusedSimpArgs false

theorem prsM_len (S : List Int) (s : ByteArray) : (prsM S s).1.2.1.length ≤ 3 := by
  by_cases h : ∃ m, metS S m = true ∧ fmtMet m = s
  · unfold prsM
    rw [dif_pos h]
    exact (met_ok (Classical.choose_spec h).1).2.2.2.1
  · rw [prsM_no h]
    show (0 : Nat) ≤ 3
    omega
theorem markIntS_zero (A : Option Addr) (c : Nat) (q : Int) (w : World) (h0 : 0 ≤ q) (h1 : q ≤ 1099511627776) :
    Calls Tryd.prog 14 #[.slice A 0 c, .int .i64 q] w fun e w' => e = .returned (.int .i64 q) ∧ w = w' := by
  go_enter Tryd.func14, Tryd.ntmps14
  go_wp2
  refine wp_loop_rounds 1 ?_
  rw [rounds_succ]
  go_wp2
  go_ret
  exact ⟨rfl, rfl⟩

/-- What is turned lies from lo to below hi; new blocks may come. -/
structure Turned (lo hi : Nat) (w w' : World) : Prop where
  below : Below lo w w'
  size : w.heap.size ≤ w'.heap.size
  block : ∀ b, (b < lo ∨ hi ≤ b) → b < w.heap.size → w'.heap[b]? = w.heap[b]?

set_option maxRecDepth 100000 in
set_option maxHeartbeats 400000 in
theorem markMethod_m (lo hi q c : Nat) (r li co qu : Int) (xs : List Int) (A : Option Addr) (k : Int) (w : World) (hl : xs.length ≤ 3) (h : OwnV w lo hi (.slice A xs.length c) q xs) (hlo : lo ≤ hi) (hhi : hi ≤ w.heap.size) (h0 : 0 ≤ k) (h1 : k ≤ 1048577) :
    Calls Tryd.prog 15 #[.agg #[.int .i64 r, .slice A xs.length c, .int .i64 li, .int .i64 co, .int .i64 qu], .int .i64 k] w fun e w' => e = .returned (.int .i64 (k + xs.length)) ∧ Ints w' lo hi A (marks k xs.length) ∧ Turned lo hi w w' := by
  obtain ⟨A', c', e, hc, hm, hx⟩ := h
  injection e with e1 e2 e3
  subst e1 e3
  have hl' : (xs.length : Int) ≤ 3 := by omega
  have HX := Lib.hid hx
  clear hx
  rcases Nat.eq_zero_or_pos xs.length with hz | hp
  · have HZ := Lib.hid hz
    rw [hz]
    clear hz
    go_enter Tryd.func15, Tryd.ntmps15
    go_wp2_with fail
    refine (markIntS_zero A c k _ h0 (by omega)).mono ?_
    rintro e u ⟨rfl, rfl⟩
    go_wp2
    go_ret
    exact ⟨by simp, fun hne => absurd rfl hne, ⟨(below_alloc w _).mono (by omega), by simp, fun b _ hb => (below_alloc w _).block b hb⟩⟩
  · obtain ⟨hA, a1, a2, m, F, b1, b2, b3⟩ := HX.out hp
    have HF := Lib.hid (fun (_ : 0 < xs.length) => World.rowIs.of_block b2 (Below.heap_alloc w (.cells #[.int .i64 r, .slice A xs.length c, .int .i64 li, .int .i64 co, .int .i64 qu] 27) q (by omega)))
    have HA := Lib.hid hA
    clear b2 b3 hA HX
    go_enter Tryd.func15, Tryd.ntmps15
    go_wp2_with fail
    refine (markIntS_any A q c xs.length m k _ (by omega) h0 (by omega) F (fun _ => HA.out) b1 HF.out).mono ?_
    rintro e u ⟨rfl, hw, hr⟩
    have HW := Lib.hid hw
    have HR := Lib.hid (hr hp)
    have hsz := hw.size
    clear hw hr
    go_wp2
    go_ret
    refine ⟨rfl, fun _ => ⟨q, 0, HA.out, a1, a2, fun j hj => ?_⟩, ⟨(below_alloc w _).mono (by omega) |>.trans (HW.out.below.mono a1), by rw [hsz]; simp, fun b hb hlt => (HW.out.block b (by omega)).trans (Below.heap_alloc _ _ _ hlt)⟩⟩
    rw [marks_length] at hj
    rw [Nat.zero_add, World.rowIs.cell HR.out (show j < m by omega), if_pos hj, marks_getD _ _ _ hj]

set_option maxRecDepth 100000 in
set_option maxHeartbeats 400000 in
theorem heldMethod_m (lo hi c n : Nat) (r li co qu : Int) (A : Option Addr) (k : Int) (w : World) (hl : n ≤ 3) (h : Ints w lo hi A (marks k n)) (hhi : hi ≤ w.heap.size) (h0 : 0 ≤ k) (h1 : k ≤ 1048577) :
    Calls Tryd.prog 16 #[.agg #[.int .i64 r, .slice A n c, .int .i64 li, .int .i64 co, .int .i64 qu], .int .i64 k] w fun e w' => e = .returned (.int .i64 (k + n)) ∧ Below w.heap.size w w' := by
  have HI := Lib.hid (h.alloc hhi (.cells #[.int .i64 r, .slice A n c, .int .i64 li, .int .i64 co, .int .i64 qu] 27))
  have hl' : (n : Int) ≤ 3 := by omega
  have hk : 0 ≤ k + (n : Int) := by omega
  have hk' : ¬ (k + (n : Int) < 0) := by omega
  clear h
  go_enter Tryd.func16, Tryd.ntmps16
  go_wp2_with fail
  refine (heldIntS_any lo hi A c n k _ (by omega) h0 (by omega) HI.out).mono ?_
  rintro e u ⟨rfl, rfl⟩
  go_wp2
  go_ret
  exact ⟨rfl, below_alloc _ _⟩

/-- A fact's numbers of the call's own, from lo to below hi. -/
def OV (w : World) (lo hi : Nat) (A : Option Addr) (c q : Nat) (xs : List Int) : Prop := OwnV w lo hi (.slice A xs.length c) q xs ∧ hi ≤ w.heap.size
theorem OV.ints {w : World} {lo hi c q : Nat} {A : Option Addr} {xs : List Int} (h : OV w lo hi A c q xs) : Ints w lo hi A xs := (OwnV.ints h.1).2.2.2
theorem OV.ri {w : World} {lo hi c q : Nat} {A : Option Addr} {xs : List Int} (h : OV w lo hi A c q xs) : RI w A xs := h.ints.mono (Nat.zero_le _) h.2
theorem OV.keep {w w' : World} {lo hi c q : Nat} {A : Option Addr} {xs : List Int} (h : OV w lo hi A c q xs) (hs : w.heap.size ≤ w'.heap.size) (hk : ∀ b, lo ≤ b → b < hi → w'.heap[b]? = w.heap[b]?) : OV w' lo hi A c q xs :=
  ⟨h.1.keep fun a b _ => hk q a b, Nat.le_trans h.2 hs⟩
theorem OV.step {w w' : World} {lo hi c q : Nat} {A : Option Addr} {xs : List Int} (h : OV w lo hi A c q xs) (b : Below w.heap.size w w') : OV w' lo hi A c q xs := h.keep b.size fun k _ hk => b.block k (by have := h.2; omega)
/-- Marks in it. -/
def MI (w : World) (lo hi : Nat) (A : Option Addr) (k : Int) (n : Nat) : Prop := Ints w lo hi A (marks k n) ∧ hi ≤ w.heap.size
theorem MI.step {w w' : World} {lo hi n : Nat} {A : Option Addr} {k : Int} (h : MI w lo hi A k n) (b : Below w.heap.size w w') : MI w' lo hi A k n := ⟨h.1.below b h.2, Nat.le_trans h.2 b.size⟩
theorem RB.step {w u u' : World} (h : Below w.heap.size w u) (b : Below u.heap.size u u') : Below w.heap.size w u' := h.trans (b.mono h.size)
theorem Row.step {w w' : World} {g : Nat} {xs : List Int} (h : Row w g xs) (b : Below w.heap.size w w') : Row w' g xs := h.of_block (b.block _ (World.rowIs.lt h))
/-- What ParseMethod answers, in its numbers. -/
def PmX (w : World) (r : Int) (xs : List Int) (li co qu : Int) (ok : Bool) (e : Ending) (w' : World) : Prop :=
  ∃ A c q, e = .returned (.tuple #[.agg #[.int .i64 r, .slice A xs.length c, .int .i64 li, .int .i64 co, .int .i64 qu], .bool ok]) ∧ OwnV w' w.heap.size w'.heap.size (.slice A xs.length c) q xs ∧ Below w.heap.size w w'
end Go.Proofs.YtenondgjipmhnaaDoor
