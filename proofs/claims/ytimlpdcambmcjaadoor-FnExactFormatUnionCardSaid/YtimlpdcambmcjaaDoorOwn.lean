/- Lists of facts of the call's own. Conditions: none beyond each theorem's own. -/
import Derived.Test.YtimlpdcambmcjaaDoorList
namespace Go.Proofs.YtimlpdcambmcjaaDoor
open Go.ChangeShapes Go.WideShapes Go.ChangeAt Go.RowKit
set_option linter.unusedVariables false
set_option linter.unusedSimpArgs false

/-- v1 is a slice of the numbers xs that owns block q (if it has any), which lies from lo to below hi. -/
def OwnV (w : World) (lo hi : Nat) (v1 : Value) (q : Nat) (xs : List Int) : Prop :=
  ∃ A c, v1 = .slice A xs.length c ∧ xs.length ≤ c ∧ c ≤ maxLen ∧ (0 < xs.length → A = some ⟨q, 0, none⟩ ∧ lo ≤ q ∧ q < hi ∧ ∃ m F, xs.length ≤ m ∧ w.rowIs q 3 m F ∧ ∀ i, i < xs.length → F i = .int .i64 (xs.getD i 0))
theorem OwnV.mono {w : World} {lo hi lo' hi' q : Nat} {v : Value} {xs : List Int} (h : OwnV w lo hi v q xs) (h1 : lo' ≤ lo) (h2 : hi ≤ hi') : OwnV w lo' hi' v q xs := by
  obtain ⟨A, c, e, hc, hm, hx⟩ := h
  exact ⟨A, c, e, hc, hm, fun hp => by
    obtain ⟨a, b, d, r⟩ := hx hp
    exact ⟨a, by omega, by omega, r⟩⟩
theorem OwnV.keep {w w' : World} {lo hi q : Nat} {v : Value} {xs : List Int} (h : OwnV w lo hi v q xs) (hk : lo ≤ q → q < hi → (∃ c, w.heap[q]? = some (.cells c 3 (0, 0))) → w'.heap[q]? = w.heap[q]?) : OwnV w' lo hi v q xs := by
  obtain ⟨A, c, e, hc, hm, hx⟩ := h
  exact ⟨A, c, e, hc, hm, fun hp => by
    obtain ⟨a, b, d, m, F, h1, h2, h3⟩ := hx hp
    refine ⟨a, b, d, m, F, h1, World.rowIs.of_block h2 (hk b d ?_), h3⟩
    obtain ⟨cc, hcc, _⟩ := h2
    exact ⟨cc, hcc⟩⟩
theorem OwnV.ints {w : World} {lo hi q : Nat} {A : Option Addr} {n c : Nat} {xs : List Int} (h : OwnV w lo hi (.slice A n c) q xs) : n = xs.length ∧ xs.length ≤ c ∧ c ≤ maxLen ∧ Ints w lo hi A xs := by
  obtain ⟨A', c', e, hc, hm, hx⟩ := h
  injection e with e1 e2 e3
  subst e1 e2 e3
  refine ⟨rfl, hc, hm, fun hne => ?_⟩
  obtain ⟨ha, b, d, m, F, h1, h2, h3⟩ := hx (List.length_pos_iff.2 hne)
  exact ⟨q, 0, ha, b, d, fun k hk => by rw [Nat.zero_add, World.rowIs.cell h2 (show k < m by omega), h3 k hk]⟩
theorem OwnV.of_row {w : World} {lo hi q c : Nat} {xs : List Int} (h : Row w q xs) (h1 : lo ≤ q) (h2 : q < hi) (hc : xs.length ≤ c) (hm : c ≤ maxLen) : OwnV w lo hi (.slice (some ⟨q, 0, none⟩) xs.length c) q xs :=
  ⟨_, _, rfl, hc, hm, fun _ => ⟨rfl, h1, h2, _, _, Nat.le_refl _, h, fun _ _ => rfl⟩⟩

theorem size2 (w : World) (p p' : Addr) (u u' : Value) : ((w.setCell p u).setCell p' u').heap.size = w.heap.size := by rw [set_size, set_size]

end Go.Proofs.YtimlpdcambmcjaaDoor
