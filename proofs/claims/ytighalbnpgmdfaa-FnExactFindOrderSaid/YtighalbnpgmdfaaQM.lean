/- Marks on queries. Conditions: none beyond each theorem's own. -/
import Derived.Test.YtighalbnpgmdfaaQry
namespace Go.Proofs.Ytighalbnpgmdfaa
open Go.ChangeShapes Go.WideShapes Go.ChangeAt Go.RowKit Go.Sort
open Go.Proofs.Ytighalbnpgmdfaa.atom
set_option linter.unusedVariables false
set_option linter.unusedSimpArgs false

/-- Of the memory that was there only the blocks from lo to below hi have turned. -/
structure Mk (lo hi : Nat) (w w' : World) : Prop where
  below : Below lo w w'
  above : ∀ b, hi ≤ b → b < w.heap.size → w'.heap[b]? = w.heap[b]?
theorem Mk.keep {lo hi : Nat} {w w' : World} (h : Mk lo hi w w') {b : Nat} (hb : b < lo ∨ hi ≤ b) (hlt : b < w.heap.size) : w'.heap[b]? = w.heap[b]? := by
  rcases hb with hb | hb
  · exact h.below.block b hb
  · exact h.above b hb hlt

/-- A query of the call's own: its head from block lo to below mid, its atoms from there to below hi. -/
def QO (w : World) (lo mid hi : Nat) (H A : Option Addr) (ch c : Nat) (hs : List Int) (l : FL) : Prop :=
  (∃ q, OwnV w lo mid (.slice H hs.length ch) q hs) ∧ (l = [] ∨ ∃ g m, A = some ⟨g, 0, none⟩ ∧ atom.OwnP w mid hi g m l.length l ∧ l.length * 2 ≤ m) ∧ lo ≤ mid ∧ mid ≤ hi ∧ hi ≤ w.heap.size
theorem QO.keep {w w' : World} {lo mid hi : Nat} {H A : Option Addr} {ch c : Nat} {hs : List Int} {l : FL} (h : QO w lo mid hi H A ch c hs l) (hk : ∀ b, lo ≤ b → b < hi → w'.heap[b]? = w.heap[b]?) (hz : w.heap.size ≤ w'.heap.size) : QO w' lo mid hi H A ch c hs l := by
  obtain ⟨⟨q, h1⟩, h2, h3, h4, h5⟩ := h
  refine ⟨⟨q, h1.keep fun a b _ => hk _ a (by omega)⟩, ?_, h3, h4, by omega⟩
  rcases h2 with h2 | ⟨g, m, e, h2, h6⟩
  · exact .inl h2
  · exact .inr ⟨g, m, e, h2.keep fun b a c => hk b (by omega) c, h6⟩
theorem QO.step {w w' : World} {lo mid hi : Nat} {H A : Option Addr} {ch c : Nat} {hs : List Int} {l : FL} (h : QO w lo mid hi H A ch c hs l) (d : Below w.heap.size w w') : QO w' lo mid hi H A ch c hs l :=
  h.keep (fun b _ hb => d.block b (by have := h.2.2.2.2; omega)) d.size
theorem QO.ri {w : World} {lo mid hi : Nat} {H A : Option Addr} {ch c : Nat} {hs : List Int} {l : FL} (h : QO w lo mid hi H A ch c hs l) : RI w H hs := by
  obtain ⟨⟨q, h1⟩, _, h3, h4, h5⟩ := h
  exact (h1.ints).2.2.2.mono (Nat.zero_le _) (by omega)
theorem QO.rf {w : World} {lo mid hi : Nat} {H A : Option Addr} {ch c : Nat} {hs : List Int} {l : FL} (h : QO w lo mid hi H A ch c hs l) : RF w A l := by
  obtain ⟨_, h2, h3, h4, h5⟩ := h
  rcases h2 with rfl | ⟨g, m, rfl, h2, h6⟩
  · exact fun hne => absurd rfl hne
  · exact (h2.facts h6).mono (Nat.zero_le _) h5
theorem QX.qo {w : World} {g hi : Nat} {hs : List Int} {l : FL} (h : QX w g hi hs l) (hh : hs.length ≤ 1048576) : QO w g (g + 1) hi (some ⟨g, 0, none⟩) (some ⟨g + 1, 0, none⟩) hs.length l.length hs l :=
  ⟨⟨g, OwnV.of_row h.1 (Nat.le_refl _) (Nat.lt_succ_self _) (Nat.le_refl _) (by unfold maxLen; omega)⟩, .inr ⟨g + 1, l.length * 2, rfl, h.2.1, Nat.le_refl _⟩, Nat.le_succ _, Nat.le_of_lt h.lt.1, h.lt.2⟩

set_option maxRecDepth 100000 in
theorem markAtomS_zero (A : Option Addr) (c : Nat) (q : Int) (w : World) (h0 : 0 ≤ q) (h1 : q ≤ 1099511627776) :
    Calls Try.prog 65 #[.slice A 0 c, .int .i64 q] w fun e w' => e = .returned (.int .i64 q) ∧ w = w' := by
  go_enter Try.func65, Try.ntmps65
  go_wp2
  refine wp_loop_rounds 1 ?_
  rw [rounds_succ]
  go_wp2
  go_ret
  exact ⟨rfl, rfl⟩

theorem mkK_nil (q : Int) (n : Nat) : mkK q [] n = [] := by simp [mkK]

/-- The marks of a list of numbers of the call's own. -/
theorem markIntS_own (lo hi q : Nat) (A : Option Addr) (c : Nat) (k : Int) (xs : List Int) (hl : xs.length ≤ 1048576) (h0 : 0 ≤ k) (h1 : k ≤ 33554432) (w : World) (hlt : hi ≤ w.heap.size) (hlo : lo ≤ hi) (h : OwnV w lo hi (.slice A xs.length c) q xs) :
    Calls Try.prog 26 #[.slice A xs.length c, .int .i64 k] w fun e w' => e = .returned (.int .i64 (k + xs.length)) ∧ Within lo hi w w' ∧ Ints w' lo hi A (marks k xs.length) := by
  obtain ⟨A', c', he, _, _, hx⟩ := h
  injection he with e1 e2 e3
  subst e1 e3
  by_cases hp : 0 < xs.length
  · obtain ⟨rfl, a, b, m, F, hm, hr, _⟩ := hx hp
    refine (markIntS_any _ q c xs.length m k w hl h0 (by omega) F (fun _ => rfl) hm (fun _ => hr)).mono ?_
    rintro e w' ⟨rfl, hw, hr'⟩
    refine ⟨rfl, hw.mono a (by omega), fun _ => ⟨q, 0, rfl, a, b, fun j hj => ?_⟩⟩
    rw [marks_length] at hj
    rw [Nat.zero_add, World.rowIs.cell (hr' hp) (show j < m by omega), marks_getD _ _ _ hj, if_pos hj]
  · have hz : xs.length = 0 := by omega
    rw [hz]
    refine (markIntS_zero A c k w h0 (by omega)).mono ?_
    rintro e w' ⟨rfl, rfl⟩
    exact ⟨by simp, Within.refl _ _ _, fun h => absurd rfl h⟩

/-- The marks of a list of atoms of the call's own. -/
theorem markAtomS_own (lo hi : Nat) (A : Option Addr) (c : Nat) (k : Int) (l : FL) (hz : szF l ≤ 1048576) (h0 : 0 ≤ k) (h1 : k ≤ 16777216) (w : World)
    (h : l = [] ∨ ∃ g m, A = some ⟨g, 0, none⟩ ∧ atom.OwnP w lo hi g m l.length l ∧ l.length * 2 ≤ m) :
    Calls Try.prog 65 #[.slice A l.length c, .int .i64 k] w fun e w' => e = .returned (.int .i64 (k + szF l)) ∧ Within lo hi w w' ∧ Facts w' lo hi A (mkK k l l.length) := by
  rcases h with rfl | ⟨g, m, rfl, hO, hm⟩
  · refine (markAtomS_zero A c k w h0 (by omega)).mono ?_
    rintro e w' ⟨rfl, rfl⟩
    exact ⟨by simp [szF, sumN], Within.refl _ _ _, by rw [mkK_nil]; exact fun h => absurd rfl h⟩
  · refine (markAtomS_any lo hi g m c k l (by omega) h0 (by omega) hm w hO).mono ?_
    rintro e w' ⟨rfl, hO', hw⟩
    exact ⟨rfl, hw, atom.OwnP.facts (by rw [mkK_length]; exact hO') (by rw [mkK_length]; exact hm)⟩

set_option maxRecDepth 100000 in
theorem markQuery_o (lo mid hi : Nat) (H A : Option Addr) (ch c : Nat) (hs : List Int) (l : FL) (k : Int) (h0 : 0 ≤ k) (h1 : k ≤ 8388608) (hz : szQ hs l ≤ 1048576) (w : World) (h : QO w lo mid hi H A ch c hs l) :
    Calls Try.prog 28 #[.agg #[.slice H hs.length ch, .slice A l.length c], .int .i64 k] w fun e w' =>
      e = .returned (.int .i64 (k + szQ hs l)) ∧ Mk lo hi w w' ∧ (Ints w' lo mid H (marks k hs.length) ∧ Facts w' mid hi A (mkK (k + hs.length) l l.length)) := by
  have hn := szF_nonneg l
  have hzh : (hs.length : Int) + szF l ≤ 1048576 := hz
  have hq := h.step (below_alloc w (.cells #[.slice H hs.length ch, .slice A l.length c] 37))
  obtain ⟨⟨q, hO⟩, hA, e1, e2, e3⟩ := hq
  have e4 := h.2.2.2.2
  have XM := Lib.hid (markIntS_own lo mid q H ch k hs (by omega) h0 (by omega) _ (by omega) e1 hO)
  have XB := Lib.hid (Box.new w #[.slice H hs.length ch, .slice A l.length c] 37)
  have HA := Lib.hid hA
  clear h hO hA
  go_enter Try.func28, Try.ntmps28
  go_wp2_with fail
  refine XM.out.mono ?_
  rintro e w1 ⟨rfl, hw, hi1⟩
  have X1 : Box w1 w.heap.size #[.slice H hs.length ch, .slice A l.length c] 37 := (hw.block _ (.inr (by omega))).trans XB.out
  have x1 := X1.cell 1
  simp only [List.getElem?_toArray, List.getElem?_cons_zero, List.getElem?_cons_succ] at x1
  have HW := Lib.hid hw
  have HI := Lib.hid hi1
  have XA := Lib.hid (markAtomS_own mid hi A c (k + hs.length) l (by omega) (by omega) (by omega) w1 (by
    rcases HA.out with h | ⟨g, m, e, h, hm⟩
    · exact .inl h
    · exact .inr ⟨g, m, e, h.keep fun b a _ => hw.block b (.inr a), hm⟩))
  have hk2 : 0 ≤ k + (hs.length : Int) := by omega
  clear X1 hw hi1
  go_wp2_with fail
  refine XA.out.mono ?_
  rintro e w2 ⟨rfl, hw, hf⟩
  have HW2 := Lib.hid hw
  have HF := Lib.hid hf
  clear hw hf x1
  go_wp2
  go_ret
  refine ⟨ret_int (by unfold szQ; omega), ⟨?_, fun b hb hlt => ?_⟩, HI.out.keep fun b _ hb => HW2.out.block b (.inl hb), HF.out⟩
  · exact ((below_alloc w _).mono (by omega)).trans (HW.out.below.trans (HW2.out.below.mono e1))
  · exact (HW2.out.block b (.inr hb)).trans ((HW.out.block b (.inr (by omega))).trans (Below.heap_alloc _ _ _ hlt))

set_option maxRecDepth 100000 in
theorem heldQuery_o (H A : Option Addr) (ch c : Nat) (hs : List Int) (l : FL) (k : Int) (h0 : 0 ≤ k) (h1 : k ≤ 1) (hz : szQ hs l ≤ 1048576) (w : World) (h : RI w H (marks k hs.length)) (h' : RF w A (mkK (k + hs.length) l l.length)) :
    Calls Try.prog 42 #[.agg #[.slice H hs.length ch, .slice A l.length c], .int .i64 k] w fun e w' => e = .returned (.int .i64 (k + szQ hs l)) ∧ Below w.heap.size w w' := by
  have hn := szF_nonneg l
  have hzh : (hs.length : Int) + szF l ≤ 1048576 := hz
  have HI := Lib.hid (h.step (below_alloc w (.cells #[.slice H hs.length ch, .slice A l.length c] 37)))
  have HF := Lib.hid (h'.step (below_alloc w (.cells #[.slice H hs.length ch, .slice A l.length c] 37)))
  have hk2 : 0 ≤ k + (hs.length : Int) := by omega
  have hk3 : 0 ≤ k + (hs.length : Int) + szF l := by omega
  clear h h'
  go_enter Try.func42, Try.ntmps42
  go_wp2_with fail
  refine (heldIntS_any _ _ H ch hs.length k _ (by omega) h0 (by omega) HI.out).mono ?_
  rintro e w1 ⟨rfl, rfl⟩
  go_wp2_with fail
  refine (heldAtomS_any A c (k + hs.length) l (by omega) (by omega) (by omega) _ HF.out).mono ?_
  rintro e w1 ⟨rfl, rfl⟩
  go_wp2
  go_ret
  exact ⟨ret_int (by unfold szQ; omega), below_alloc _ _⟩
end Go.Proofs.Ytighalbnpgmdfaa
