/- What the law on DropAtom carries. Conditions: none beyond each theorem's own. -/
import Derived.Test.YtpdmkdhnidgjoaaDrq
import Derived.Test.YtpdmkdhnidgjoaaDrs
namespace Go.Proofs.Ytpdmkdhnidgjoaa
open Go.ChangeShapes Go.WideShapes Go.ChangeAt Go.RowKit Go.Sort
set_option linter.unusedVariables false
set_option linter.unusedSimpArgs false

/-- A query that is read, in blocks below hi. -/
def QV (w : World) (hi : Nat) (H A : Option Addr) (hs : List Int) (l : FL) : Prop := Ints w 0 hi H hs ∧ Facts w 0 hi A l ∧ hi ≤ w.heap.size
theorem QV.keep {w w' : World} {hi : Nat} {H A : Option Addr} {hs : List Int} {l : FL} (h : QV w hi H A hs l) (hk : ∀ b, b < hi → w'.heap[b]? = w.heap[b]?) (hs' : w.heap.size ≤ w'.heap.size) : QV w' hi H A hs l :=
  ⟨h.1.keep fun b _ h2 => hk b h2, h.2.1.keep fun b _ h2 => hk b h2, Nat.le_trans h.2.2 hs'⟩
theorem QV.step {w w' : World} {hi : Nat} {H A : Option Addr} {hs : List Int} {l : FL} (h : QV w hi H A hs l) (b : Below w.heap.size w w') : QV w' hi H A hs l :=
  h.keep (fun q hq => b.block q (by have := h.2.2; omega)) b.size
theorem QV.ri {w : World} {hi : Nat} {H A : Option Addr} {hs : List Int} {l : FL} (h : QV w hi H A hs l) : RI w H hs := h.1.mono (Nat.le_refl _) h.2.2
theorem QV.rf {w : World} {hi : Nat} {H A : Option Addr} {hs : List Int} {l : FL} (h : QV w hi H A hs l) : RF w A l := h.2.1.mono (Nat.le_refl _) h.2.2
theorem QSo.toQV {w : World} {hs : List Int} {l : FL} {e : Ending} {w' : World} (h : QSo w hs l e w') : ∃ H A ch c, e = .returned (.agg #[.slice H hs.length ch, .slice A l.length c]) ∧ QV w' w'.heap.size H A hs l ∧ Below w.heap.size w w' := by
  obtain ⟨H, A, ch, c, h1, h2, h3, h4⟩ := h
  exact ⟨H, A, ch, c, h1, ⟨h2, h3, Nat.le_refl _⟩, h4⟩
/-- Marks in a query of the call's own. -/
def QN (w : World) (lo hi : Nat) (H A : Option Addr) (hs : List Int) (l : FL) : Prop := ∃ mid, Ints w lo mid H (marks 1 hs.length) ∧ Facts w mid hi A (mkK (1 + hs.length) l l.length) ∧ mid ≤ hi ∧ hi ≤ w.heap.size
theorem QN.step {w w' : World} {lo hi : Nat} {H A : Option Addr} {hs : List Int} {l : FL} (h : QN w lo hi H A hs l) (b : Below w.heap.size w w') : QN w' lo hi H A hs l := by
  obtain ⟨mid, h1, h2, h3, h4⟩ := h
  exact ⟨mid, h1.below b (by omega), h2.below b h4, h3, Nat.le_trans h4 b.size⟩
theorem QN.ri {w : World} {lo hi : Nat} {H A : Option Addr} {hs : List Int} {l : FL} (h : QN w lo hi H A hs l) : RI w H (marks 1 hs.length) := by
  obtain ⟨mid, h1, h2, h3, h4⟩ := h
  exact h1.mono (Nat.zero_le _) (by omega)
theorem QN.rf {w : World} {lo hi : Nat} {H A : Option Addr} {hs : List Int} {l : FL} (h : QN w lo hi H A hs l) : RF w A (mkK (1 + hs.length) l l.length) := by
  obtain ⟨mid, h1, h2, h3, h4⟩ := h
  exact h2.mono (Nat.zero_le _) h4
/-- A query of the call's own that lies from lo to below hi. -/
def QY (w : World) (lo hi : Nat) (H A : Option Addr) (ch c : Nat) (hs : List Int) (l : FL) : Prop := ∃ mid, QO w lo mid hi H A ch c hs l
theorem QY.keep {w w' : World} {lo hi : Nat} {H A : Option Addr} {ch c : Nat} {hs : List Int} {l : FL} (h : QY w lo hi H A ch c hs l) (hk : ∀ b, lo ≤ b → b < hi → w'.heap[b]? = w.heap[b]?) (hz : w.heap.size ≤ w'.heap.size) : QY w' lo hi H A ch c hs l := by
  obtain ⟨mid, h⟩ := h
  exact ⟨mid, h.keep hk hz⟩
theorem QY.step {w w' : World} {lo hi : Nat} {H A : Option Addr} {ch c : Nat} {hs : List Int} {l : FL} (h : QY w lo hi H A ch c hs l) (d : Below w.heap.size w w') : QY w' lo hi H A ch c hs l := by
  obtain ⟨mid, h⟩ := h
  exact ⟨mid, h.step d⟩
theorem QY.ri {w : World} {lo hi : Nat} {H A : Option Addr} {ch c : Nat} {hs : List Int} {l : FL} (h : QY w lo hi H A ch c hs l) : RI w H hs := by
  obtain ⟨mid, h⟩ := h
  exact h.ri
theorem QY.rf {w : World} {lo hi : Nat} {H A : Option Addr} {ch c : Nat} {hs : List Int} {l : FL} (h : QY w lo hi H A ch c hs l) : RF w A l := by
  obtain ⟨mid, h⟩ := h
  exact h.rf
theorem QY.rng {w : World} {lo hi : Nat} {H A : Option Addr} {ch c : Nat} {hs : List Int} {l : FL} (h : QY w lo hi H A ch c hs l) : lo ≤ hi ∧ hi ≤ w.heap.size := by
  obtain ⟨mid, h⟩ := h
  exact ⟨Nat.le_trans h.2.2.1 h.2.2.2.1, h.2.2.2.2⟩
theorem QOut.toQY {w : World} {hs : List Int} {l : FL} {e : Ending} {w' : World} (h : QOut w hs l e w') : ∃ H A ch c, e = .returned (.agg #[.slice H hs.length ch, .slice A l.length c]) ∧ QY w' w.heap.size w'.heap.size H A ch c hs l ∧ Below w.heap.size w w' := by
  obtain ⟨H, A, ch, c, mid, h1, h2, h3⟩ := h
  exact ⟨H, A, ch, c, h1, ⟨mid, h2⟩, h3⟩
theorem markQuery_y (lo hi : Nat) (H A : Option Addr) (ch c : Nat) (hs : List Int) (l : FL) (hz : szQ hs l ≤ 1048576) (w : World) (h : QY w lo hi H A ch c hs l) :
    Calls Try.prog 17 #[.agg #[.slice H hs.length ch, .slice A l.length c], .int .i64 1] w fun e w' => e = .returned (.int .i64 (1 + szQ hs l)) ∧ Mk lo hi w w' ∧ QN w' lo hi H A hs l := by
  obtain ⟨mid, h⟩ := h
  refine (markQuery_o lo mid hi H A ch c hs l 1 (by omega) (by omega) hz w h).mono ?_
  rintro e w' ⟨h1, h2, h3, h4⟩
  exact ⟨h1, h2, mid, h3, h4, h.2.2.2.1, Nat.le_trans h.2.2.2.2 h2.below.size⟩
theorem sumN_erase (l : FL) (i : Nat) : sumN (l.eraseIdx i) ≤ sumN l := by
  have h1 := sumN_append (l.take (i + 1)) (l.drop (i + 1))
  rw [List.take_append_drop] at h1
  have h2 := sumN_le (l.take (i + 1)) i
  rw [List.take_take, Nat.min_eq_left (Nat.le_succ i)] at h2
  rw [List.eraseIdx_eq_take_drop_succ, sumN_append]
  omega
theorem szF_drop1 (l : FL) (a : Int) : szF (dropL l a) ≤ szF l := by
  have h1 := dropL_len l a
  have h2 : sumN (dropL l a) ≤ sumN l := by
    unfold dropL
    split
    · exact Nat.le_refl _
    · exact sumN_erase _ _
  unfold szF
  omega
end Go.Proofs.Ytpdmkdhnidgjoaa
