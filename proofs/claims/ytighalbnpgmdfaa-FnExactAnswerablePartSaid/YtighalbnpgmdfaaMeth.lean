/- Methods in memory: where their fields lie, and how they are read as arguments. Conditions: none beyond each theorem's own. -/
import Derived.Test.YtighalbnpgmdfaaReads
namespace Go.Proofs.Ytighalbnpgmdfaa
open Go.ChangeShapes Go.WideShapes Go.ChangeAt Go.RowKit
set_option linter.unusedVariables false
set_option linter.unusedSimpArgs false

/-- A method: its relation, its inputs, its limit, its cost, its quota. -/
abbrev Met := Int × List Int × Int × Int × Int
abbrev ML := List Met
abbrev noM : Met := (0, [], 0, 0, 0)

/-- At the address A lie the methods ms, all of it in blocks from lo to below hi. -/
def Meths (w : World) (lo hi : Nat) (A : Option Addr) (ms : ML) : Prop :=
  ms ≠ [] → ∃ b off, A = some ⟨b, off, none⟩ ∧ lo ≤ b ∧ b < hi ∧ ∀ k, k < ms.length → ∃ B c, w.cell? ⟨b, off + k * 5, none⟩ = some (.int .i64 (ms.getD k noM).1) ∧
    w.cell? ⟨b, off + k * 5 + 1, none⟩ = some (.slice B (ms.getD k noM).2.1.length c) ∧
    w.cell? ⟨b, off + k * 5 + 2, none⟩ = some (.int .i64 (ms.getD k noM).2.2.1) ∧ w.cell? ⟨b, off + k * 5 + 3, none⟩ = some (.int .i64 (ms.getD k noM).2.2.2.1) ∧ w.cell? ⟨b, off + k * 5 + 4, none⟩ = some (.int .i64 (ms.getD k noM).2.2.2.2) ∧
    (ms.getD k noM).2.1.length ≤ c ∧ c ≤ maxLen ∧ Ints w lo hi B (ms.getD k noM).2.1
theorem Meths.at_ {w : World} {lo hi : Nat} {A : Option Addr} {ms : ML} (h : Meths w lo hi A ms) {k : Nat} (hk : k < ms.length) {r li co qu : Int} {xs : List Int} (hf : ms.getD k noM = (r, xs, li, co, qu)) :
    ∃ b off B c, A = some ⟨b, off, none⟩ ∧ lo ≤ b ∧ b < hi ∧ w.cell? ⟨b, off + k * 5, none⟩ = some (.int .i64 r) ∧
    w.cell? ⟨b, off + k * 5 + 1, none⟩ = some (.slice B xs.length c) ∧ w.cell? ⟨b, off + k * 5 + 2, none⟩ = some (.int .i64 li) ∧ w.cell? ⟨b, off + k * 5 + 3, none⟩ = some (.int .i64 co) ∧ w.cell? ⟨b, off + k * 5 + 4, none⟩ = some (.int .i64 qu) ∧
    xs.length ≤ c ∧ c ≤ maxLen ∧ Ints w lo hi B xs := by
  obtain ⟨b, off, h1, h2, h3, h4⟩ := h (by rintro rfl; simp at hk)
  obtain ⟨B, c, h5, h6, h7, h8, h9, h10, h11, h12⟩ := h4 k hk
  rw [hf] at h5 h6 h7 h8 h9 h10 h12
  exact ⟨b, off, B, c, h1, h2, h3, h5, h6, h7, h8, h9, h10, h11, h12⟩
theorem Meths.keep {w w' : World} {lo hi : Nat} {A : Option Addr} {ms : ML} (h : Meths w lo hi A ms) (hk : ∀ b, lo ≤ b → b < hi → w'.heap[b]? = w.heap[b]?) : Meths w' lo hi A ms := fun hx => by
  obtain ⟨b, off, h1, h2, h3, h4⟩ := h hx
  refine ⟨b, off, h1, h2, h3, fun k hkx => ?_⟩
  obtain ⟨B, c, h5, h6, h7, h8, h9, h10, h11, h12⟩ := h4 k hkx
  exact ⟨B, c, (World.cell?_of_block (w := w) (a := ⟨b, off + k * 5, none⟩) (hk b h2 h3)).trans h5, (World.cell?_of_block (w := w) (a := ⟨b, off + k * 5 + 1, none⟩) (hk b h2 h3)).trans h6,
    (World.cell?_of_block (w := w) (a := ⟨b, off + k * 5 + 2, none⟩) (hk b h2 h3)).trans h7, (World.cell?_of_block (w := w) (a := ⟨b, off + k * 5 + 3, none⟩) (hk b h2 h3)).trans h8,
    (World.cell?_of_block (w := w) (a := ⟨b, off + k * 5 + 4, none⟩) (hk b h2 h3)).trans h9, h10, h11, h12.keep hk⟩
theorem Meths.below {w w' : World} {lo hi N : Nat} {A : Option Addr} {ms : ML} (h : Meths w lo hi A ms) (hb : Below N w w') (hN : hi ≤ N) : Meths w' lo hi A ms :=
  h.keep fun b _ h2 => hb.block b (by omega)
theorem Meths.within {w w' : World} {lo hi l h' : Nat} {A : Option Addr} {ms : ML} (h : Meths w lo hi A ms) (hb : Within l h' w w') (hN : hi ≤ l ∨ h' ≤ lo) : Meths w' lo hi A ms :=
  h.keep fun b _ h2 => hb.block b (by omega)
theorem Meths.mono {w : World} {lo hi lo' hi' : Nat} {A : Option Addr} {ms : ML} (h : Meths w lo hi A ms) (h1 : lo' ≤ lo) (h2 : hi ≤ hi') : Meths w lo' hi' A ms := fun hx => by
  obtain ⟨b, off, e, h3, h4, h5⟩ := h hx
  refine ⟨b, off, e, by omega, by omega, fun k hk => ?_⟩
  obtain ⟨B, c, g1, g2, g3, g4, g5, g6, g7, g8⟩ := h5 k hk
  exact ⟨B, c, g1, g2, g3, g4, g5, g6, g7, g8.mono h1 h2⟩
/-- At A lie the methods ms. -/
def RM (w : World) (A : Option Addr) (ms : ML) : Prop := Meths w 0 w.heap.size A ms
theorem RM.step {w w' : World} {A : Option Addr} {ms : ML} (h : RM w A ms) (b : Below w.heap.size w w') : RM w' A ms := (Meths.below h b (Nat.le_refl _)).mono (Nat.le_refl _) b.size
theorem RM.at_ {w : World} {A : Option Addr} {ms : ML} (h : RM w A ms) {k : Nat} (hk : k < ms.length) {r li co qu : Int} {xs : List Int} (hf : ms.getD k noM = (r, xs, li, co, qu)) :
    ∃ b off B c, A = some ⟨b, off, none⟩ ∧ b < w.heap.size ∧ w.cell? ⟨b, off + k * 5, none⟩ = some (.int .i64 r) ∧
    w.cell? ⟨b, off + k * 5 + 1, none⟩ = some (.slice B xs.length c) ∧ w.cell? ⟨b, off + k * 5 + 2, none⟩ = some (.int .i64 li) ∧ w.cell? ⟨b, off + k * 5 + 3, none⟩ = some (.int .i64 co) ∧ w.cell? ⟨b, off + k * 5 + 4, none⟩ = some (.int .i64 qu) ∧
    xs.length ≤ c ∧ c ≤ maxLen ∧ RI w B xs := by
  obtain ⟨b, off, B, c, h1, _, h3, h4, h5, h6, h7, h8, h9, h10, h11⟩ := Meths.at_ h hk hf
  exact ⟨b, off, B, c, h1, h3, h4, h5, h6, h7, h8, h9, h10, h11⟩

section
variable {H : Type} {enc : TypeId × Value → H} {P : Program} {w : World}
theorem array5 {α : Type} {cs : Array α} (h : cs.size = 5) : ∃ c0 c1 c2 c3 c4, cs = #[c0, c1, c2, c3, c4] := by
  obtain ⟨l⟩ := cs
  match l, h with
  | [c0, c1, c2, c3, c4], _ => exact ⟨c0, c1, c2, c3, c4, rfl⟩
theorem trod_struct5 {base : Nat} {spare : Nat → Bool} {held : Bool} {t : TypeId} {f0 f1 f2 f3 f4 : Field} {fuel : Nat} {cs : List Value} {x : DataW H × List MemPlace} (ht : P.underlying t = some (.struct #[f0, f1, f2, f3, f4])) (h : DataW.trod enc P w base spare held fuel t cs = some x) :
    ∃ y0 y1 y2 y3 y4 n, cs.length = P.cellsOf t ∧ DataW.trod enc P w base spare held n f0.type ((cs.drop f0.offset).take (P.cellsOf f0.type)) = some y0 ∧
      DataW.trod enc P w base spare held n f1.type ((cs.drop f1.offset).take (P.cellsOf f1.type)) = some y1 ∧ DataW.trod enc P w base spare held n f2.type ((cs.drop f2.offset).take (P.cellsOf f2.type)) = some y2 ∧
      DataW.trod enc P w base spare held n f3.type ((cs.drop f3.offset).take (P.cellsOf f3.type)) = some y3 ∧ DataW.trod enc P w base spare held n f4.type ((cs.drop f4.offset).take (P.cellsOf f4.type)) = some y4 := by
  obtain ⟨xs, n, _, rfl, hl, hlen, hf⟩ := DataW.trod_struct ht h
  match xs, hlen with
  | [y0, y1, y2, y3, y4], _ => exact ⟨y0, y1, y2, y3, y4, n, hl, by simpa using hf 0 f0 rfl, by simpa using hf 1 f1 rfl, by simpa using hf 2 f2 rfl, by simpa using hf 3 f3 rfl, by simpa using hf 4 f4 rfl⟩
end

section
variable {H : Type} {enc : TypeId × Value → H} {w : World}
/-- Five cells that read as a method. -/
theorem open_method5 {n : Nat} {u0 u1 u2 u3 u4 : Value} {x : DataW H × List MemPlace} (ht : DataW.trod enc Try.prog w 0 (fun _ => true) true n 63 [u0, u1, u2, u3, u4] = some x) :
    ∃ (m : Met) (B : Option Addr) (c : Nat), u0 = .int .i64 m.1 ∧ u1 = .slice B m.2.1.length c ∧ u2 = .int .i64 m.2.2.1 ∧ u3 = .int .i64 m.2.2.2.1 ∧ u4 = .int .i64 m.2.2.2.2 ∧ m.2.1.length ≤ c ∧ c ≤ maxLen ∧ Ints w 0 w.heap.size B m.2.1 := by
  obtain ⟨y0, y1, y2, y3, y4, n', _, h0, h1, h2, h3, h4⟩ := trod_struct5 Try.underlying63 ht
  have k0 : Try.prog.cellsOf 3 = 1 := by kernel_rfl
  have k1 : Try.prog.cellsOf 22 = 1 := by kernel_rfl
  simp only [k0, k1] at h0 h1 h2 h3 h4
  simp at h0 h1 h2 h3 h4
  obtain ⟨z0, hz0, _, _⟩ := DataW.trod_int Try.underlying3 h0
  obtain ⟨z2, hz2, _, _⟩ := DataW.trod_int Try.underlying3 h2
  obtain ⟨z3, hz3, _, _⟩ := DataW.trod_int Try.underlying3 h3
  obtain ⟨z4, hz4, _, _⟩ := DataW.trod_int Try.underlying3 h4
  injection hz0 with hz0
  injection hz2 with hz2
  injection hz3 with hz3
  injection hz4 with hz4
  obtain ⟨B, c, xs, hv1, hl, hm, hii⟩ := open_nums (v := u1) Try.underlying22 Try.underlying3 k0 h1
  exact ⟨(z0, xs, z2, z3, z4), B, c, hz0, hv1, hz2, hz3, hz4, hl, hm, hii⟩
set_option maxRecDepth 100000 in
theorem open_methodT {r : Reach} {base : Nat} {v : Value} {d : DataW H} {p : List MemPlace} (hv : Value.okWide Try.prog w r base 63 v) (h : DataW.Trod enc Try.prog w 0 (fun _ => true) true 63 v d p) :
    ∃ (m : Met) (A : Option Addr) (c : Nat), v = .agg #[.int .i64 m.1, .slice A m.2.1.length c, .int .i64 m.2.2.1, .int .i64 m.2.2.2.1, .int .i64 m.2.2.2.2] ∧ m.2.1.length ≤ c ∧ c ≤ maxLen ∧ Ints w 0 w.heap.size A m.2.1 := by
  have hC : Try.prog.cellsOf 63 = 5 := by kernel_rfl
  obtain ⟨cs, rfl, hsz⟩ := okWide_struct Try.underlying63 hv
  obtain ⟨c0, c1, c2, c3, c4, rfl⟩ := array5 (hsz.trans hC)
  obtain ⟨fuel, hf⟩ := h
  obtain ⟨m, B, c, rfl, rfl, rfl, rfl, rfl, hl, hm, hi⟩ := open_method5 (by simpa [Value.cells] using hf)
  exact ⟨m, B, c, rfl, hl, hm, hi⟩
set_option maxRecDepth 100000 in
theorem open_methods_at {fuel : Nat} {v : Value} {x : DataW H × List MemPlace} (hf : DataW.trod enc Try.prog w 0 (fun _ => true) true fuel 23 [v] = some x) :
    ∃ (A : Option Addr) (c : Nat) (ms : ML), v = .slice A ms.length c ∧ ms.length ≤ c ∧ c ≤ maxLen ∧ Meths w 0 w.heap.size A ms := by
  have hC : Try.prog.cellsOf 63 = 5 := by kernel_rfl
  rcases Go.Deep.open_slice Try.underlying23 hf with ⟨hv, _⟩ | ⟨a, len, cap, m, n, D, Pl, hv, _, hl, hm, hmm, _, hi⟩
  · injection hv with hv
    exact ⟨none, 0, [], hv, Nat.le_refl _, by unfold maxLen; omega, fun h => absurd rfl h⟩
  · injection hv with hv
    rw [hC] at hi
    simp only [if_true] at hmm
    have each : ∀ i, i < len → ∃ x : Met, ∃ B c', w.cell? (a.add (i * 5)) = some (.int .i64 x.1) ∧ w.cell? (a.add (i * 5 + 1)) = some (.slice B x.2.1.length c') ∧ w.cell? (a.add (i * 5 + 2)) = some (.int .i64 x.2.2.1) ∧
        w.cell? (a.add (i * 5 + 3)) = some (.int .i64 x.2.2.2.1) ∧ w.cell? (a.add (i * 5 + 4)) = some (.int .i64 x.2.2.2.2) ∧ x.2.1.length ≤ c' ∧ c' ≤ maxLen ∧ Ints w 0 w.heap.size B x.2.1 := by
      intro i hil
      obtain ⟨cs, hc, ht⟩ := hi i (by omega)
      obtain ⟨_, hcl, hat⟩ := World.cells?_some hc
      have e0 := hat 0 (by omega)
      have e1 := hat 1 (by omega)
      have e2 := hat 2 (by omega)
      have e3 := hat 3 (by omega)
      have e4 := hat 4 (by omega)
      match cs, hcl with
      | [u0, u1, u2, u3, u4], _ =>
        obtain ⟨x, B, c', rfl, rfl, rfl, rfl, rfl, g1, g2, g3⟩ := open_method5 ht
        simp at e0 e1 e2 e3 e4
        rw [Go.Deep.add_add] at e1 e2 e3 e4
        exact ⟨x, B, c', e0, e1, e2, e3, e4, g1, g2, g3⟩
    obtain ⟨f, hfx⟩ := Go.Deep.choose_lt each
    have hlen : ((List.range len).map f).length = len := by simp
    refine ⟨some a, cap, (List.range len).map f, by rw [hlen]; exact hv, by rw [hlen]; exact hl, hm, fun hne => ?_⟩
    have hpos : 0 < len := by
      rcases Nat.eq_zero_or_pos len with h0 | h0
      · subst h0; simp at hne
      · exact h0
    obtain ⟨b, off, spot⟩ := a
    obtain ⟨_, _, hc0, _⟩ := hfx 0 hpos
    have hspot : spot = none := by simpa [Addr.add] using World.cell?_spot hc0
    subst hspot
    have hb := World.block_lt_of_cell? w _ hc0
    refine ⟨b, off, rfl, by omega, by simpa [Addr.add] using hb, fun k hk => ?_⟩
    have hk' : k < len := by rw [hlen] at hk; exact hk
    have e : ∀ j, (⟨b, off, none⟩ : Addr).add j = ⟨b, off + j, none⟩ := fun j => by unfold Addr.add; split <;> simp_all
    obtain ⟨B, c', g1, g2, g3, g4, g5, g6, g7, g8⟩ := hfx k hk'
    rw [e] at g1 g2 g3 g4 g5
    have hx : ((List.range len).map f).getD k noM = f k := by simp [List.getD_eq_getElem?_getD, hk']
    rw [hx]
    exact ⟨B, c', g1, g2, g3, g4, g5, g6, g7, g8⟩
set_option maxRecDepth 100000 in
theorem open_methodsT {r : Reach} {base : Nat} {v : Value} {d : DataW H} {p : List MemPlace} (hv : Value.okWide Try.prog w r base 23 v) (h : DataW.Trod enc Try.prog w 0 (fun _ => true) true 23 v d p) :
    ∃ (A : Option Addr) (c : Nat) (ms : ML), v = .slice A ms.length c ∧ ms.length ≤ c ∧ c ≤ maxLen ∧ Meths w 0 w.heap.size A ms := by
  obtain ⟨fuel, hf⟩ := h
  obtain ⟨A, l, c, rfl⟩ := okWide_slice Try.underlying23 hv
  exact open_methods_at hf
end
end Go.Proofs.Ytighalbnpgmdfaa
