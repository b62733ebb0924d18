/- Facts in memory, and what the functions on one fact answer. Conditions: none beyond each theorem's own. -/
import Derived.Test.YtighalbnpgmdfaaGreatInts3
import Derived.Test.YtighalbnpgmdfaaGreatOpen
namespace Go.Proofs.YtighalbnpgmdfaaGreat
open Go.ChangeShapes Go.WideShapes Go.ChangeAt Go.RowKit
set_option linter.unusedVariables false
set_option linter.unusedSimpArgs false

/-- At the address A lie the facts fs, all of it in blocks from lo to below hi. -/
def Facts (w : World) (lo hi : Nat) (A : Option Addr) (fs : List (Int × List Int)) : Prop :=
  fs ≠ [] → ∃ b off, A = some ⟨b, off, none⟩ ∧ lo ≤ b ∧ b < hi ∧ ∀ k, k < fs.length → ∃ B c, w.cell? ⟨b, off + k * 2, none⟩ = some (.int .i64 (fs.getD k (0, [])).1) ∧
    w.cell? ⟨b, off + k * 2 + 1, none⟩ = some (.slice B (fs.getD k (0, [])).2.length c) ∧ (fs.getD k (0, [])).2.length ≤ c ∧ c ≤ maxLen ∧ Ints w lo hi B (fs.getD k (0, [])).2
theorem Facts.at_ {w : World} {lo hi : Nat} {A : Option Addr} {fs : List (Int × List Int)} (h : Facts w lo hi A fs) {k : Nat} (hk : k < fs.length) {r : Int} {xs : List Int} (hf : fs.getD k (0, []) = (r, xs)) :
    ∃ b off B c, A = some ⟨b, off, none⟩ ∧ lo ≤ b ∧ b < hi ∧ w.cell? ⟨b, off + k * 2, none⟩ = some (.int .i64 r) ∧
    w.cell? ⟨b, off + k * 2 + 1, none⟩ = some (.slice B xs.length c) ∧ xs.length ≤ c ∧ c ≤ maxLen ∧ Ints w lo hi B xs := by
  obtain ⟨b, off, h1, h2, h3, h4⟩ := h (by rintro rfl; simp at hk)
  obtain ⟨B, c, h5, h6, h7, h8, h9⟩ := h4 k hk
  rw [hf] at h5 h6 h7 h9
  exact ⟨b, off, B, c, h1, h2, h3, h5, h6, h7, h8, h9⟩
theorem Facts.keep {w w' : World} {lo hi : Nat} {A : Option Addr} {fs : List (Int × List Int)} (h : Facts w lo hi A fs) (hk : ∀ b, lo ≤ b → b < hi → w'.heap[b]? = w.heap[b]?) : Facts w' lo hi A fs := fun hx => by
  obtain ⟨b, off, h1, h2, h3, h4⟩ := h hx
  refine ⟨b, off, h1, h2, h3, fun k hkx => ?_⟩
  obtain ⟨B, c, h5, h6, h7, h8, h9⟩ := h4 k hkx
  exact ⟨B, c, (World.cell?_of_block (w := w) (a := ⟨b, off + k * 2, none⟩) (hk b h2 h3)).trans h5, (World.cell?_of_block (w := w) (a := ⟨b, off + k * 2 + 1, none⟩) (hk b h2 h3)).trans h6, h7, h8, h9.keep hk⟩
theorem Facts.below {w w' : World} {lo hi N : Nat} {A : Option Addr} {fs : List (Int × List Int)} (h : Facts w lo hi A fs) (hb : Below N w w') (hN : hi ≤ N) : Facts w' lo hi A fs :=
  h.keep fun b _ h2 => hb.block b (by omega)
theorem Facts.within {w w' : World} {lo hi l h' : Nat} {A : Option Addr} {fs : List (Int × List Int)} (h : Facts w lo hi A fs) (hb : Within l h' w w') (hN : hi ≤ l ∨ h' ≤ lo) : Facts w' lo hi A fs :=
  h.keep fun b _ h2 => hb.block b (by omega)
theorem Facts.mono {w : World} {lo hi lo' hi' : Nat} {A : Option Addr} {fs : List (Int × List Int)} (h : Facts w lo hi A fs) (h1 : lo' ≤ lo) (h2 : hi ≤ hi') : Facts w lo' hi' A fs := fun hx => by
  obtain ⟨b, off, e, h3, h4, h5⟩ := h hx
  refine ⟨b, off, e, by omega, by omega, fun k hk => ?_⟩
  obtain ⟨B, c, g1, g2, g3, g4, g5⟩ := h5 k hk
  exact ⟨B, c, g1, g2, g3, g4, g5.mono h1 h2⟩

section
variable {H : Type} {enc : TypeId × Value → H} {w : World}
set_option maxRecDepth 100000 in
theorem open_factT {r : Reach} {base : Nat} {v : Value} {d : DataW H} {p : List MemPlace} (hv : Value.okWide Tryz.prog w r base 52 v) (h : DataW.Trod enc Tryz.prog w 0 (fun _ => true) true 52 v d p) :
    ∃ (f : Int × List Int) (A : Option Addr) (c : Nat), v = .agg #[.int .i64 f.1, .slice A f.2.length c] ∧ f.2.length ≤ c ∧ c ≤ maxLen ∧ Ints w 0 w.heap.size A f.2 := by
  obtain ⟨v0, v1, y0, y1, n, rfl, _, _, h0, h1⟩ := Go.Joins.open_agg2 Tryz.underlying52 (by kernel_rfl) (by kernel_rfl) hv h
  obtain ⟨z, hz, _, _⟩ := DataW.trod_int Tryz.underlying3 h0
  injection hz with hz
  obtain ⟨A, c, xs, hv1, hl, hm, hi⟩ := open_nums (v := v1) Tryz.underlying22 Tryz.underlying3 (by kernel_rfl) h1
  subst hz hv1
  exact ⟨(z, xs), A, c, rfl, hl, hm, hi⟩
set_option maxRecDepth 100000 in
theorem open_facts_at {fuel : Nat} {v : Value} {x : DataW H × List MemPlace} (hf : DataW.trod enc Tryz.prog w 0 (fun _ => true) true fuel 26 [v] = some x) :
    ∃ (A : Option Addr) (c : Nat) (fs : List (Int × List Int)), v = .slice A fs.length c ∧ fs.length ≤ c ∧ c ≤ maxLen ∧ Facts w 0 w.heap.size A fs := by
  have hC : Tryz.prog.cellsOf 52 = 2 := by kernel_rfl
  rcases Go.Deep.open_slice Tryz.underlying26 hf with ⟨hv, _⟩ | ⟨a, len, cap, m, n, D, Pl, hv, _, hl, hm, hmm, _, hi⟩
  · injection hv with hv
    exact ⟨none, 0, [], hv, Nat.le_refl _, by unfold maxLen; omega, fun h => absurd rfl h⟩
  · injection hv with hv
    rw [hC] at hi
    simp only [if_true] at hmm
    have each : ∀ i, i < len → ∃ x : Int × List Int, ∃ B c', w.cell? (a.add (i * 2)) = some (.int .i64 x.1) ∧ w.cell? (a.add (i * 2 + 1)) = some (.slice B x.2.length c') ∧ x.2.length ≤ c' ∧ c' ≤ maxLen ∧ Ints w 0 w.heap.size B x.2 := by
      intro i hil
      obtain ⟨cs, hc, ht⟩ := hi i (by omega)
      obtain ⟨_, hcl, hat⟩ := World.cells?_some hc
      obtain ⟨y0, y1, n', _, _, h0, h1⟩ := trod_struct2 Tryz.underlying52 ht
      have k0 : Tryz.prog.cellsOf 3 = 1 := by kernel_rfl
      have k1 : Tryz.prog.cellsOf 22 = 1 := by kernel_rfl
      have e0 := hat 0 (by omega)
      have e1 := hat 1 (by omega)
      match cs, hcl with
      | [u0, u1], _ =>
        simp only [k0, k1] at h0 h1
        simp at h0 h1 e0 e1
        obtain ⟨z, hz, _, _⟩ := DataW.trod_int Tryz.underlying3 h0
        injection hz with hz
        obtain ⟨B, c', xs, hv1, hl, hm, hii⟩ := open_nums (v := u1) Tryz.underlying22 Tryz.underlying3 k0 h1
        subst hz hv1
        refine ⟨(z, xs), B, c', ?_, ?_, hl, hm, hii⟩
        · exact e0
        · rw [Go.Deep.add_add] at e1; exact e1
    obtain ⟨f, hfx⟩ := Go.Deep.choose_lt each
    have hlen : ((List.range len).map f).length = len := by simp
    refine ⟨some a, cap, (List.range len).map f, by rw [hlen]; exact hv, by rw [hlen]; exact hl, hm, fun hne => ?_⟩
    have hpos : 0 < len := by
      rcases Nat.eq_zero_or_pos len with h0 | h0
      · subst h0; simp at hne
      · exact h0
    obtain ⟨b, off, spot⟩ := a
    obtain ⟨_, _, hc0, _⟩ := hfx 0 hpos
    have hspot : spot = none := by simpa [Addr.add] using World.cell?_spot hc0
    subst hspot
    have hb := World.block_lt_of_cell? w _ hc0
    refine ⟨b, off, rfl, by omega, by simpa [Addr.add] using hb, fun k hk => ?_⟩
    have hk' : k < len := by rw [hlen] at hk; exact hk
    have e : ∀ j, (⟨b, off, none⟩ : Addr).add j = ⟨b, off + j, none⟩ := fun j => by unfold Addr.add; split <;> simp_all
    obtain ⟨B, c', g1, g2, g3, g4, g5⟩ := hfx k hk'
    rw [e] at g1 g2
    have hx : ((List.range len).map f).getD k (0, []) = f k := by simp [List.getD_eq_getElem?_getD, hk']
    rw [hx]
    exact ⟨B, c', g1, g2, g3, g4, g5⟩
set_option maxRecDepth 100000 in
theorem open_factsT {r : Reach} {base : Nat} {v : Value} {d : DataW H} {p : List MemPlace} (hv : Value.okWide Tryz.prog w r base 26 v) (h : DataW.Trod enc Tryz.prog w 0 (fun _ => true) true 26 v d p) :
    ∃ (A : Option Addr) (c : Nat) (fs : List (Int × List Int)), v = .slice A fs.length c ∧ fs.length ≤ c ∧ c ≤ maxLen ∧ Facts w 0 w.heap.size A fs := by
  obtain ⟨fuel, hf⟩ := h
  obtain ⟨A, l, c, rfl⟩ := okWide_slice Tryz.underlying26 hv
  exact open_facts_at hf
end
end Go.Proofs.YtighalbnpgmdfaaGreat
