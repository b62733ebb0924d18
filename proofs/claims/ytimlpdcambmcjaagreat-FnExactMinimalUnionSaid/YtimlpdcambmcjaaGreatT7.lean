/- What MinimalUnion's law says of its rows. Conditions: none beyond each theorem's own. -/
import Derived.Test.YtimlpdcambmcjaaGreatTMuS
import Derived.Test.YtimlpdcambmcjaaGreatTMuI
import Derived.Test.YtimlpdcambmcjaaGreatTMrkU

namespace Go.Proofs.YtimlpdcambmcjaaGreat
open Go.ChangeShapes Go.WideShapes Go.ChangeAt Go.RowKit Go.Sort
set_option linter.unusedVariables false
set_option linter.unusedSimpArgs false

/-- A list of queries that lies below hi. -/
def UX (w : World) (hi : Nat) (A : Option Addr) (us : UL) : Prop := Uns w 0 hi A us ∧ hi ≤ w.heap.size
theorem UX.step {w w' : World} {hi : Nat} {A : Option Addr} {us : UL} (h : UX w hi A us) (d : Below w.heap.size w w') : UX w' hi A us :=
  ⟨h.1.keep fun b _ hb => d.block b (by have := h.2; omega), Nat.le_trans h.2 d.size⟩
theorem UX.ru {w : World} {hi : Nat} {A : Option Addr} {us : UL} (h : UX w hi A us) : RU w A us := h.1.mono (Nat.le_refl _) h.2
theorem UX.keep {w w' : World} {hi : Nat} {A : Option Addr} {us : UL} (h : UX w hi A us) (hk : ∀ b, b < hi → w'.heap[b]? = w.heap[b]?) (hs : w.heap.size ≤ w'.heap.size) : UX w' hi A us :=
  ⟨h.1.keep fun b _ hb => hk b hb, Nat.le_trans h.2 hs⟩
/-- A list of queries of the call's own, all of it from lo to hi. -/
def OX (w : World) (lo hi g m : Nat) (us : UL) : Prop := OwnU w lo hi g m us.length us ∧ us.length * 2 ≤ m
theorem OX.step {w w' : World} {lo hi g m : Nat} {us : UL} (h : OX w lo hi g m us) (d : Below w.heap.size w w') : OX w' lo hi g m us := ⟨h.1.step d, h.2⟩
theorem OX.ru {w : World} {lo hi g m : Nat} {us : UL} (h : OX w lo hi g m us) : RU w (some ⟨g, 0, none⟩) us := h.1.ru h.2
theorem OX.keep {w w' : World} {lo hi g m : Nat} {us : UL} (h : OX w lo hi g m us) (hk : ∀ b, lo ≤ b → b < hi → w'.heap[b]? = w.heap[b]?) (hs : w.heap.size ≤ w'.heap.size) : OX w' lo hi g m us := ⟨h.1.keep hk hs, h.2⟩
theorem OX.rng {w : World} {lo hi g m : Nat} {us : UL} (h : OX w lo hi g m us) : lo < hi ∧ hi ≤ w.heap.size := by
  have h1 := h.1.1
  have h2 := h.1.2.1
  exact ⟨by omega, h.1.2.2.1⟩
theorem ROut.toX {w : World} {us : UL} {e : Ending} {w' : World} (h : ROut w us e w') : ∃ A c, e = .returned (.slice A us.length c) ∧ UX w' w'.heap.size A us ∧ Below w.heap.size w w' := by
  obtain ⟨A, c, h1, h2, h3⟩ := h
  exact ⟨A, c, h1, ⟨h2, Nat.le_refl _⟩, h3⟩
theorem UOwn.toX {w : World} {us : UL} {e : Ending} {w' : World} (h : UOwn w us e w') : ∃ g c m, e = .returned (.slice (some ⟨g, 0, none⟩) us.length c) ∧ OX w' w.heap.size w'.heap.size g m us ∧ Below w.heap.size w w' := by
  obtain ⟨g, c, m, h1, h2, h3, h4⟩ := h
  exact ⟨g, c, m, h1, ⟨h3, h2⟩, h4⟩
theorem szU_minU (s : List Int) {us : UL} (hz : szU us ≤ 1048576) : szU (minU s us) ≤ 1048576 := by
  unfold minU
  split
  · have h := minI_sub s (atU us) us.length [] 0
    rw [List.nil_append, ← List.range_eq_range'] at h
    exact szU_sub h hz
  · exact hz
/-- The marks of a list of queries of the call's own. -/
theorem markQueryS_x (lo hi g m c : Nat) (us : UL) (k : Int) (h0 : 0 ≤ k) (h1 : k ≤ 8388608) (hz : szU us ≤ 1048576) (w : World) (h : OX w lo hi g m us) :
    Calls Tryz.prog 26 #[.slice (some ⟨g, 0, none⟩) us.length c, .int .i64 k] w fun e w' => e = .returned (.int .i64 (k + (sumU us : Int))) ∧ UX w' hi (some ⟨g, 0, none⟩) (mkU k us) ∧ Within lo hi w w' :=
  (markQueryS_own lo hi g m c us k h0 h1 hz h.2 w h.1).mono fun e w' ⟨a, b, c⟩ => ⟨a, ⟨c.mono (Nat.zero_le _) (Nat.le_refl _), by rw [b.size]; exact h.1.2.2.1⟩, b⟩
end Go.Proofs.YtimlpdcambmcjaaGreat
