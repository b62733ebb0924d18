/- Facts in memory, and what the functions on one fact answer. Conditions: none beyond each theorem's own. -/
import Derived.Test.YtimlpdcambmcjaaDoorInts3
import Derived.Test.YtimlpdcambmcjaaDoorOpen
namespace Go.Proofs.YtimlpdcambmcjaaDoor
open Go.ChangeShapes Go.WideShapes Go.ChangeAt Go.RowKit
set_option linter.unusedVariables false
set_option linter.unusedSimpArgs false

/-- At the address A lie the facts fs, all of it in blocks from lo to below hi. -/
def Facts (w : World) (lo hi : Nat) (A : Option Addr) (fs : List (Int × List Int)) : Prop :=
  fs ≠ [] → ∃ b off, A = some ⟨b, off, none⟩ ∧ lo ≤ b ∧ b < hi ∧ ∀ k, k < fs.length → ∃ B c, w.cell? ⟨b, off + k * 2, none⟩ = some (.int .i64 (fs.getD k (0, [])).1) ∧
    w.cell? ⟨b, off + k * 2 + 1, none⟩ = some (.slice B (fs.getD k (0, [])).2.length c) ∧ (fs.getD k (0, [])).2.length ≤ c ∧ c ≤ maxLen ∧ Ints w lo hi B (fs.getD k (0, [])).2
theorem Facts.at_ {w : World} {lo hi : Nat} {A : Option Addr} {fs : List (Int × List Int)} (h : Facts w lo hi A fs) {k : Nat} (hk : k < fs.length) {r : Int} {xs : List Int} (hf : fs.getD k (0, []) = (r, xs)) :
    ∃ b off B c, A = some ⟨b, off, none⟩ ∧ lo ≤ b ∧ b < hi ∧ w.cell? ⟨b, off + k * 2, none⟩ = some (.int .i64 r) ∧
    w.cell? ⟨b, off + k * 2 + 1, none⟩ = some (.slice B xs.length c) ∧ xs.length ≤ c ∧ c ≤ maxLen ∧ Ints w lo hi B xs := by
  obtain ⟨b, off, h1, h2, h3, h4⟩ := h (by rintro rfl; simp at hk)
  obtain ⟨B, c, h5, h6, h7, h8, h9⟩ := h4 k hk
  rw [hf] at h5 h6 h7 h9
  exact ⟨b, off, B, c, h1, h2, h3, h5, h6, h7, h8, h9⟩
theorem Facts.keep {w w' : World} {lo hi : Nat} {A : Option Addr} {fs : List (Int × List Int)} (h : Facts w lo hi A fs) (hk : ∀ b, lo ≤ b → b < hi → w'.heap[b]? = w.heap[b]?) : Facts w' lo hi A fs := fun hx => by
  obtain ⟨b, off, h1, h2, h3, h4⟩ := h hx
  refine ⟨b, off, h1, h2, h3, fun k hkx => ?_⟩
  obtain ⟨B, c, h5, h6, h7, h8, h9⟩ := h4 k hkx
  exact ⟨B, c, (World.cell?_of_block (w := w) (a := ⟨b, off + k * 2, none⟩) (hk b h2 h3)).trans h5, (World.cell?_of_block (w := w) (a := ⟨b, off + k * 2 + 1, none⟩) (hk b h2 h3)).trans h6, h7, h8, h9.keep hk⟩
theorem Facts.below {w w' : World} {lo hi N : Nat} {A : Option Addr} {fs : List (Int × List Int)} (h : Facts w lo hi A fs) (hb : Below N w w') (hN : hi ≤ N) : Facts w' lo hi A fs :=
  h.keep fun b _ h2 => hb.block b (by omega)
theorem Facts.within {w w' : World} {lo hi l h' : Nat} {A : Option Addr} {fs : List (Int × List Int)} (h : Facts w lo hi A fs) (hb : Within l h' w w') (hN : hi ≤ l ∨ h' ≤ lo) : Facts w' lo hi A fs :=
  h.keep fun b _ h2 => hb.block b (by omega)
theorem Facts.mono {w : World} {lo hi lo' hi' : Nat} {A : Option Addr} {fs : List (Int × List Int)} (h : Facts w lo hi A fs) (h1 : lo' ≤ lo) (h2 : hi ≤ hi') : Facts w lo' hi' A fs := fun hx => by
  obtain ⟨b, off, e, h3, h4, h5⟩ := h hx
  refine ⟨b, off, e, by omega, by omega, fun k hk => ?_⟩
  obtain ⟨B, c, g1, g2, g3, g4, g5⟩ := h5 k hk
  exact ⟨B, c, g1, g2, g3, g4, g5.mono h1 h2⟩

section
variable {H : Type} {enc : TypeId × Value → H} {w : World}
end
end Go.Proofs.YtimlpdcambmcjaaDoor
