/- Queries in memory: their size, their copy, their comparison by the law. Conditions: none beyond each theorem's own. Marks on queries. Conditions: none beyond each theorem's own. What the functions on a query's variables and constants answer. Conditions: none beyond each theorem's own. What the laws of functions on queries carry from call to call. Conditions: none beyond each theorem's own. -/
import Derived.Test.YtighalbnpgmdfaaAtom
import Derived.Test.YtighalbnpgmdfaaPush
import Derived.Test.YtighalbnpgmdfaaVars

namespace Go.Proofs.Ytighalbnpgmdfaa
open Go.ChangeShapes Go.WideShapes Go.ChangeAt Go.RowKit Go.Sort
open Go.Proofs.Ytighalbnpgmdfaa.atom
set_option linter.unusedVariables false
set_option linter.unusedSimpArgs false

section
variable {H : Type} {enc : TypeId × Value → H} {w : World}
set_option maxRecDepth 100000 in
theorem open_queryT {r : Reach} {base : Nat} {v : Value} {d : DataW H} {p : List MemPlace} (hv : Value.okWide Try.prog w r base 26 v) (h : DataW.Trod enc Try.prog w 0 (fun _ => true) true 26 v d p) :
    ∃ (H A : Option Addr) (ch c : Nat) (hs : List Int) (l : FL), v = .agg #[.slice H hs.length ch, .slice A l.length c] ∧ hs.length ≤ ch ∧ ch ≤ maxLen ∧ l.length ≤ c ∧ c ≤ maxLen ∧ (Ints w 0 w.heap.size H hs ∧ Facts w 0 w.heap.size A l) := by
  have hok : Value.okWide Try.prog w r base 26 v := hv
  obtain ⟨v0, v1, y0, y1, n, rfl, _, _, h0, h1⟩ := Go.Joins.open_agg2 Try.underlying26 (by kernel_rfl) (by kernel_rfl) hv h
  obtain ⟨A, c, xs, hv1, hl, hm, hi⟩ := open_nums (v := v0) Try.underlying22 Try.underlying3 (by kernel_rfl) h0
  subst hv1
  have h2 := atom.open_atoms_at (v := v1) h1
  obtain ⟨B, c2, l, rfl, hl2, hm2, hf⟩ := h2
  exact ⟨A, B, c, c2, xs, l, rfl, hl, hm, hl2, hm2, hi, hf⟩
end

/-- How many values a query holds. -/
def szQ (hs : List Int) (l : FL) : Int := (hs.length : Int) + szF l

set_option maxRecDepth 100000 in
theorem szQuery_any (H A : Option Addr) (ch c : Nat) (hs : List Int) (l : FL) (left : Int) (hh : hs.length ≤ 9223372036854775807) (hl : l.length ≤ 9223372036854775807) (h0 : 0 ≤ left) (h1 : left ≤ 1048576) (w : World) (h : RF w A l) :
    Calls Try.prog 12 #[.agg #[.slice H hs.length ch, .slice A l.length c], .int .i64 left] w fun e w' => e = .returned (.int .i64 (szR left (szQ hs l))) ∧ Below w.heap.size w w' := by
  have hn := szF_nonneg l
  have HI := Lib.hid (h.step (below_alloc w (.cells #[.slice H hs.length ch, .slice A l.length c] 26)))
  clear h
  by_cases hb : left - (hs.length : Int) < 0
  · have E := Lib.hid (szR_neg (left := left) (z := szQ hs l) (by unfold szQ; omega))
    rw [E.out]
    go_enter Try.func12, Try.ntmps12
    go_wp2_with fail
    refine (szIntS_any H ch hs.length left hh h0 h1 _).mono ?_
    rintro e w1 ⟨rfl, rfl⟩
    rw [if_pos hb]
    go_wp2
    go_ret
    exact ⟨rfl, below_alloc _ _⟩
  · have hb' : (hs.length : Int) ≤ left := by omega
    have hb2 : 0 ≤ left - (hs.length : Int) := by omega
    have XS := Lib.hid fun (W : World) (hW : RF W A l) => szAtomS_w A c l (left - hs.length) hl (by omega) (by omega) W hW
    by_cases hz : left - (hs.length : Int) - szF l < 0
    · have E := Lib.hid (szR_neg (left := left) (z := szQ hs l) (by unfold szQ; omega))
      have E2 := Lib.hid (szR_neg hz)
      rw [E.out]
      go_enter Try.func12, Try.ntmps12
      go_wp2_with fail
      refine (szIntS_any H ch hs.length left hh h0 h1 _).mono ?_
      rintro e w1 ⟨rfl, rfl⟩
      rw [if_neg (show ¬ (left - (hs.length : Int) < 0) by omega)]
      go_wp2_with fail
      refine (XS.out _ HI.out).mono ?_
      rintro e w1 ⟨he, d⟩
      rw [E2.out] at he
      subst he
      have D := Lib.hid (below_new d)
      clear d
      go_wp2
      go_ret
      exact ⟨rfl, D.out⟩
    · have hz2 : 0 ≤ left - (hs.length : Int) - szF l := by omega
      have E := Lib.hid (show szR left (szQ hs l) = left - hs.length - szF l by rw [szR_pos (by unfold szQ; omega)]; unfold szQ; omega)
      have E2 := Lib.hid (szR_pos hz)
      rw [E.out]
      go_enter Try.func12, Try.ntmps12
      go_wp2_with fail
      refine (szIntS_any H ch hs.length left hh h0 h1 _).mono ?_
      rintro e w1 ⟨rfl, rfl⟩
      rw [if_neg (show ¬ (left - (hs.length : Int) < 0) by omega)]
      go_wp2_with fail
      refine (XS.out _ HI.out).mono ?_
      rintro e w1 ⟨he, d⟩
      rw [E2.out] at he
      subst he
      have D := Lib.hid (below_new d)
      clear d
      go_wp2
      go_ret
      exact ⟨rfl, D.out⟩

/-- A query of the call's own: its head in block g, its atoms from block g + 1 on. -/
def QX (w : World) (g hi : Nat) (hs : List Int) (l : FL) : Prop := Row w g hs ∧ atom.PX w (g + 1) hi (g + 1) (l.length * 2) l
theorem QX.step {w w' : World} {g hi : Nat} {hs : List Int} {l : FL} (h : QX w g hi hs l) (b : Below w.heap.size w w') : QX w' g hi hs l := ⟨h.1.step b, h.2.step b⟩
theorem QX.keep {w w' : World} {g hi : Nat} {hs : List Int} {l : FL} (h : QX w g hi hs l) (hk : ∀ b, g ≤ b → b < hi → w'.heap[b]? = w.heap[b]?) (hs' : w.heap.size ≤ w'.heap.size) : QX w' g hi hs l :=
  ⟨h.1.of_block (hk g (Nat.le_refl _) (by have := h.2.1.2.1; omega)), h.2.keep (fun b h1 h2 => hk b (by omega) h2) hs'⟩
theorem QX.ri {w : World} {g hi : Nat} {hs : List Int} {l : FL} (h : QX w g hi hs l) : RI w (some ⟨g, 0, none⟩) hs := h.1.ri
theorem QX.rf {w : World} {g hi : Nat} {hs : List Int} {l : FL} (h : QX w g hi hs l) : RF w (some ⟨g + 1, 0, none⟩) l := h.2.rf
theorem QX.lt {w : World} {g hi : Nat} {hs : List Int} {l : FL} (h : QX w g hi hs l) : g + 1 < hi ∧ hi ≤ w.heap.size := ⟨h.2.1.2.1, h.2.2.1⟩

set_option maxHeartbeats 1000000 in
set_option maxRecDepth 100000 in
theorem toQuery_r (H A : Option Addr) (ch c : Nat) (hs : List Int) (l : FL) (hh : hs.length ≤ 1048576) (hz : szF l ≤ 1048576) (w : World) (h : RI w H hs) (h' : RF w A l) :
    Calls Try.prog 17 #[.agg #[.slice H hs.length ch, .slice A l.length c]] w fun e w' =>
      e = .returned (.agg #[.slice (some ⟨w.heap.size + 3, 0, none⟩) hs.length hs.length, .slice (some ⟨w.heap.size + 3 + 1, 0, none⟩) l.length l.length]) ∧ QX w' (w.heap.size + 3) w'.heap.size hs l ∧ Below w.heap.size w w' ∧ w.heap.size + 4 < w'.heap.size := by
  obtain ⟨W, hW⟩ : ∃ W, W = ((w.alloc (.cells #[.slice H hs.length ch, .slice A l.length c] 26)).alloc (.cells #[.slice none 0 0, .slice none 0 0] 37)).alloc (.cells #[.slice none 0 0, .slice none 0 0] 37) := ⟨_, rfl⟩
  have BW := Lib.hid (show Below w.heap.size w W by rw [hW]; exact step (step (below_alloc _ _) (below_alloc _ _)) (below_alloc _ _))
  have ZW := Lib.hid (show W.heap.size = w.heap.size + 3 by rw [hW]; simp)
  have X0 : Box W w.heap.size #[.slice H hs.length ch, .slice A l.length c] 26 := by rw [hW]; exact ((Box.new w _ _).step (below_alloc _ _)).step (below_alloc _ _)
  have X1 : Box W (w.heap.size + 1) #[.slice none 0 0, .slice none 0 0] 37 := by
    have h1 := (Box.new (w.alloc (.cells #[.slice H hs.length ch, .slice A l.length c] 26)) #[.slice none 0 0, .slice none 0 0] 37).step (below_alloc _ (.cells #[.slice none 0 0, .slice none 0 0] 37))
    rw [hW]; simpa using h1
  have X2 : Box W (w.heap.size + 2) #[.slice none 0 0, .slice none 0 0] 37 := by
    have h1 := Box.new ((w.alloc (.cells #[.slice H hs.length ch, .slice A l.length c] 26)).alloc (.cells #[.slice none 0 0, .slice none 0 0] 37)) #[.slice none 0 0, .slice none 0 0] 37
    rw [hW]; simpa using h1
  have HX0 := Lib.hid X0
  have HX1 := Lib.hid X1
  have HX2 := Lib.hid X2
  have HI := Lib.hid h
  have HF := Lib.hid h'
  have EW := Lib.hid hW
  clear h h' X0 X1 X2 hW
  go_enter Try.func17, Try.ntmps17
  go_wp2_with fail
  rw [← EW.out]
  refine (toIntS_r H ch hs hh _ (HI.out.step BW.out)).mono ?_
  rintro e w1 ⟨rfl, hr, hb, hz1⟩
  have HR := Lib.hid hr
  have HB := Lib.hid hb
  have HZ := Lib.hid hz1
  have Y0 := Lib.hid (HX0.out.step hb)
  have Y1 := Lib.hid (HX1.out.step hb)
  have Y2 := Lib.hid (HX2.out.step hb)
  have a0 := Y0.out.cell 1
  have a2 := Y2.out.cell 0
  have a3 := Y2.out.frozen 0
  simp only [List.getElem?_toArray, List.getElem?_cons_zero, List.getElem?_cons_succ] at a0 a2
  obtain ⟨g, hg⟩ : ∃ g, g = W.heap.size := ⟨_, rfl⟩
  rw [← hg]
  have G := Lib.hid hg
  have L1 : w.heap.size + 2 < w1.heap.size := Y2.out.lt
  have BX := Lib.hid (show Below w.heap.size w (w1.setCell ⟨w.heap.size + 2, 0, none⟩ (.slice (some ⟨g, 0, none⟩) hs.length hs.length)) from (step BW.out hb).setCell (by simp) _)
  clear hr hb hz1 hg
  go_wp2_with fail
  refine (toAtomS_p A c l hz _ (HF.out.step BX.out)).mono ?_
  rintro e w2 ⟨rfl, hp, d, hz2⟩
  have Z0 := Lib.hid (((Y2.out.set 0 (.slice (some ⟨g, 0, none⟩) hs.length hs.length))).step d)
  have Z1 := Lib.hid ((Y1.out.set_other (p := ⟨w.heap.size + 2, 0, none⟩) (u := .slice (some ⟨g, 0, none⟩) hs.length hs.length) (by simp)).step d)
  have HP := Lib.hid hp
  have HD := Lib.hid (step BX.out d)
  have HR2 := Lib.hid ((HR.out.set_other (p := ⟨w.heap.size + 2, 0, none⟩) (u := .slice (some ⟨g, 0, none⟩) hs.length hs.length) (by have := ZW.out; (try simp); omega)).step d)
  have z0 := Z0.out.cell 0
  have z1 := Z0.out.cell 1
  have z2 := Z0.out.frozen 0
  have z3 := Z0.out.frozen 1
  have z4 := Z1.out.cell 0
  have z5 := Z1.out.cell 1
  have z6 := Z1.out.frozen 0
  have z7 := Z1.out.frozen 1
  simp only [List.setIfInBounds_toArray, List.set_cons_zero, List.getElem?_toArray, List.getElem?_cons_zero, List.getElem?_cons_succ] at z0 z1 z4 z5
  have L2 : w.heap.size + 2 < w2.heap.size := Z0.out.lt
  obtain ⟨g2, hg2⟩ : ∃ g2, g2 = (w1.setCell ⟨w.heap.size + 2, 0, none⟩ (.slice (some ⟨g, 0, none⟩) hs.length hs.length)).heap.size := ⟨_, rfl⟩
  rw [← hg2] at HP ⊢
  have E2 := Lib.hid (show g2 = w.heap.size + 3 + 1 by rw [hg2, set_size, HZ.out, ZW.out])
  have E1 := Lib.hid (show g = w.heap.size + 3 by rw [G.out, ZW.out])
  have LZ := Lib.hid (show w.heap.size + 4 < w2.heap.size by rw [set_size, HZ.out, ZW.out] at hz2; omega)
  have ER := Lib.hid (show Row w2 g hs by rw [G.out]; exact HR2.out)
  clear hp d hz2 hg2 a0 a2 a3 Z0 Z1 Y0 Y1 Y2
  go_wp2
  refine bodyPost_ret (v := .agg #[.slice (some ⟨g, 0, none⟩) hs.length hs.length, .slice (some ⟨g2, 0, none⟩) l.length l.length]) (by simp [results, Try.results17, go_sem, z0, z1, z2, z3, z4, z5, z6, z7]) rfl ?_
  refine ⟨by rw [E1.out, E2.out], ?_, ?_, ?_⟩
  · refine (show QX w2 (w.heap.size + 3) _ hs l from ⟨by have := ER.out; rwa [E1.out] at this, by have := HP.out; rw [E2.out] at this; simpa [set_size] using this⟩).keep (fun b h1 h2 => ?_) (by simp [set_size])
    exact ((Below.heap_setCell _ ⟨w.heap.size + 1, 1, none⟩ _ b (by (try simp); omega)).trans (Below.heap_setCell _ ⟨w.heap.size + 1, 0, none⟩ _ b (by (try simp); omega))).trans (Below.heap_setCell _ ⟨w.heap.size + 2, 1, none⟩ _ b (by (try simp); omega))
  · exact Below.setCell (Below.setCell (Below.setCell HD.out (by (try simp) <;> omega) _) (by (try simp) <;> omega) _) (by (try simp) <;> omega) _
  · rw [set_size, set_size, set_size]; exact LZ.out

set_option maxHeartbeats 1000000 in
set_option maxRecDepth 100000 in
theorem eqQuery_b (H A H' A' : Option Addr) (ch c ch' c' : Nat) (hs : List Int) (l : FL) (hh : hs.length ≤ 1048576) (hz : szF l ≤ 1048577) (w : World) (h1 : RI w H hs) (h2 : RF w A l) (h3 : RI w H' hs) (h4 : RF w A' l) :
    Calls Try.prog 22 #[.agg #[.slice H hs.length ch, .slice A l.length c], .agg #[.slice H' hs.length ch', .slice A' l.length c']] w fun e w' => e = .returned (.bool true) ∧ Below w.heap.size w w' := by
  have B0 := step (below_alloc w (.cells #[.slice H hs.length ch, .slice A l.length c] 37)) (below_alloc _ (.cells #[.slice H' hs.length ch', .slice A' l.length c'] 37))
  have H1 := Lib.hid (h1.step B0)
  have H2 := Lib.hid (h2.step B0)
  have H3 := Lib.hid (h3.step B0)
  have H4 := Lib.hid (h4.step B0)
  have HB0 := Lib.hid B0
  clear h1 h2 h3 h4 B0
  go_enter Try.func22, Try.ntmps22
  go_wp2_with fail
  refine (eqIntS_r H H' ch ch' hs hh _ H1.out H3.out).mono ?_
  rintro e w1 ⟨rfl, d⟩
  have X := Box.of_new2 d
  have x1 := X.1.cell 1
  have x2 := X.2.cell 1
  simp only [List.getElem?_toArray, List.getElem?_cons_zero, List.getElem?_cons_succ] at x1 x2
  have F2 := Lib.hid (H2.out.step d)
  have F4 := Lib.hid (H4.out.step d)
  have D1 := Lib.hid (step HB0.out d)
  clear X d
  go_wp2_with fail
  refine (eqAtomS_b A A' c c' l hz _ F2.out F4.out).mono ?_
  rintro e w2 ⟨rfl, d⟩
  have D2 := Lib.hid (step D1.out d)
  clear d x1 x2
  go_wp2
  go_ret
  exact ⟨rfl, D2.out⟩
end Go.Proofs.Ytighalbnpgmdfaa

namespace Go.Proofs.Ytighalbnpgmdfaa
open Go.ChangeShapes Go.WideShapes Go.ChangeAt Go.RowKit Go.Sort
open Go.Proofs.Ytighalbnpgmdfaa.atom
set_option linter.unusedVariables false
set_option linter.unusedSimpArgs false

/-- Of the memory that was there only the blocks from lo to below hi have turned. -/
structure Mk (lo hi : Nat) (w w' : World) : Prop where
  below : Below lo w w'
  above : ∀ b, hi ≤ b → b < w.heap.size → w'.heap[b]? = w.heap[b]?
theorem Mk.keep {lo hi : Nat} {w w' : World} (h : Mk lo hi w w') {b : Nat} (hb : b < lo ∨ hi ≤ b) (hlt : b < w.heap.size) : w'.heap[b]? = w.heap[b]? := by
  rcases hb with hb | hb
  · exact h.below.block b hb
  · exact h.above b hb hlt

/-- A query of the call's own: its head from block lo to below mid, its atoms from there to below hi. -/
def QO (w : World) (lo mid hi : Nat) (H A : Option Addr) (ch c : Nat) (hs : List Int) (l : FL) : Prop :=
  (∃ q, OwnV w lo mid (.slice H hs.length ch) q hs) ∧ (l = [] ∨ ∃ g m, A = some ⟨g, 0, none⟩ ∧ atom.OwnP w mid hi g m l.length l ∧ l.length * 2 ≤ m) ∧ lo ≤ mid ∧ mid ≤ hi ∧ hi ≤ w.heap.size
theorem QO.keep {w w' : World} {lo mid hi : Nat} {H A : Option Addr} {ch c : Nat} {hs : List Int} {l : FL} (h : QO w lo mid hi H A ch c hs l) (hk : ∀ b, lo ≤ b → b < hi → w'.heap[b]? = w.heap[b]?) (hz : w.heap.size ≤ w'.heap.size) : QO w' lo mid hi H A ch c hs l := by
  obtain ⟨⟨q, h1⟩, h2, h3, h4, h5⟩ := h
  refine ⟨⟨q, h1.keep fun a b _ => hk _ a (by omega)⟩, ?_, h3, h4, by omega⟩
  rcases h2 with h2 | ⟨g, m, e, h2, h6⟩
  · exact .inl h2
  · exact .inr ⟨g, m, e, h2.keep fun b a c => hk b (by omega) c, h6⟩
theorem QO.step {w w' : World} {lo mid hi : Nat} {H A : Option Addr} {ch c : Nat} {hs : List Int} {l : FL} (h : QO w lo mid hi H A ch c hs l) (d : Below w.heap.size w w') : QO w' lo mid hi H A ch c hs l :=
  h.keep (fun b _ hb => d.block b (by have := h.2.2.2.2; omega)) d.size
theorem QO.ri {w : World} {lo mid hi : Nat} {H A : Option Addr} {ch c : Nat} {hs : List Int} {l : FL} (h : QO w lo mid hi H A ch c hs l) : RI w H hs := by
  obtain ⟨⟨q, h1⟩, _, h3, h4, h5⟩ := h
  exact (h1.ints).2.2.2.mono (Nat.zero_le _) (by omega)
theorem QO.rf {w : World} {lo mid hi : Nat} {H A : Option Addr} {ch c : Nat} {hs : List Int} {l : FL} (h : QO w lo mid hi H A ch c hs l) : RF w A l := by
  obtain ⟨_, h2, h3, h4, h5⟩ := h
  rcases h2 with rfl | ⟨g, m, rfl, h2, h6⟩
  · exact fun hne => absurd rfl hne
  · exact (h2.facts h6).mono (Nat.zero_le _) h5
theorem QX.qo {w : World} {g hi : Nat} {hs : List Int} {l : FL} (h : QX w g hi hs l) (hh : hs.length ≤ 1048576) : QO w g (g + 1) hi (some ⟨g, 0, none⟩) (some ⟨g + 1, 0, none⟩) hs.length l.length hs l :=
  ⟨⟨g, OwnV.of_row h.1 (Nat.le_refl _) (Nat.lt_succ_self _) (Nat.le_refl _) (by unfold maxLen; omega)⟩, .inr ⟨g + 1, l.length * 2, rfl, h.2.1, Nat.le_refl _⟩, Nat.le_succ _, Nat.le_of_lt h.lt.1, h.lt.2⟩

set_option maxRecDepth 100000 in
theorem markAtomS_zero (A : Option Addr) (c : Nat) (q : Int) (w : World) (h0 : 0 ≤ q) (h1 : q ≤ 1099511627776) :
    Calls Try.prog 65 #[.slice A 0 c, .int .i64 q] w fun e w' => e = .returned (.int .i64 q) ∧ w = w' := by
  go_enter Try.func65, Try.ntmps65
  go_wp2
  refine wp_loop_rounds 1 ?_
  rw [rounds_succ]
  go_wp2
  go_ret
  exact ⟨rfl, rfl⟩

theorem mkK_nil (q : Int) (n : Nat) : mkK q [] n = [] := by simp [mkK]

/-- The marks of a list of numbers of the call's own. -/
theorem markIntS_own (lo hi q : Nat) (A : Option Addr) (c : Nat) (k : Int) (xs : List Int) (hl : xs.length ≤ 1048576) (h0 : 0 ≤ k) (h1 : k ≤ 33554432) (w : World) (hlt : hi ≤ w.heap.size) (hlo : lo ≤ hi) (h : OwnV w lo hi (.slice A xs.length c) q xs) :
    Calls Try.prog 26 #[.slice A xs.length c, .int .i64 k] w fun e w' => e = .returned (.int .i64 (k + xs.length)) ∧ Within lo hi w w' ∧ Ints w' lo hi A (marks k xs.length) := by
  obtain ⟨A', c', he, _, _, hx⟩ := h
  injection he with e1 e2 e3
  subst e1 e3
  by_cases hp : 0 < xs.length
  · obtain ⟨rfl, a, b, m, F, hm, hr, _⟩ := hx hp
    refine (markIntS_any _ q c xs.length m k w hl h0 (by omega) F (fun _ => rfl) hm (fun _ => hr)).mono ?_
    rintro e w' ⟨rfl, hw, hr'⟩
    refine ⟨rfl, hw.mono a (by omega), fun _ => ⟨q, 0, rfl, a, b, fun j hj => ?_⟩⟩
    rw [marks_length] at hj
    rw [Nat.zero_add, World.rowIs.cell (hr' hp) (show j < m by omega), marks_getD _ _ _ hj, if_pos hj]
  · have hz : xs.length = 0 := by omega
    rw [hz]
    refine (markIntS_zero A c k w h0 (by omega)).mono ?_
    rintro e w' ⟨rfl, rfl⟩
    exact ⟨by simp, Within.refl _ _ _, fun h => absurd rfl h⟩

/-- The marks of a list of atoms of the call's own. -/
theorem markAtomS_own (lo hi : Nat) (A : Option Addr) (c : Nat) (k : Int) (l : FL) (hz : szF l ≤ 1048576) (h0 : 0 ≤ k) (h1 : k ≤ 16777216) (w : World)
    (h : l = [] ∨ ∃ g m, A = some ⟨g, 0, none⟩ ∧ atom.OwnP w lo hi g m l.length l ∧ l.length * 2 ≤ m) :
    Calls Try.prog 65 #[.slice A l.length c, .int .i64 k] w fun e w' => e = .returned (.int .i64 (k + szF l)) ∧ Within lo hi w w' ∧ Facts w' lo hi A (mkK k l l.length) := by
  rcases h with rfl | ⟨g, m, rfl, hO, hm⟩
  · refine (markAtomS_zero A c k w h0 (by omega)).mono ?_
    rintro e w' ⟨rfl, rfl⟩
    exact ⟨by simp [szF, sumN], Within.refl _ _ _, by rw [mkK_nil]; exact fun h => absurd rfl h⟩
  · refine (markAtomS_any lo hi g m c k l (by omega) h0 (by omega) hm w hO).mono ?_
    rintro e w' ⟨rfl, hO', hw⟩
    exact ⟨rfl, hw, atom.OwnP.facts (by rw [mkK_length]; exact hO') (by rw [mkK_length]; exact hm)⟩

set_option maxRecDepth 100000 in
theorem markQuery_o (lo mid hi : Nat) (H A : Option Addr) (ch c : Nat) (hs : List Int) (l : FL) (k : Int) (h0 : 0 ≤ k) (h1 : k ≤ 8388608) (hz : szQ hs l ≤ 1048576) (w : World) (h : QO w lo mid hi H A ch c hs l) :
    Calls Try.prog 28 #[.agg #[.slice H hs.length ch, .slice A l.length c], .int .i64 k] w fun e w' =>
      e = .returned (.int .i64 (k + szQ hs l)) ∧ Mk lo hi w w' ∧ (Ints w' lo mid H (marks k hs.length) ∧ Facts w' mid hi A (mkK (k + hs.length) l l.length)) := by
  have hn := szF_nonneg l
  have hzh : (hs.length : Int) + szF l ≤ 1048576 := hz
  have hq := h.step (below_alloc w (.cells #[.slice H hs.length ch, .slice A l.length c] 37))
  obtain ⟨⟨q, hO⟩, hA, e1, e2, e3⟩ := hq
  have e4 := h.2.2.2.2
  have XM := Lib.hid (markIntS_own lo mid q H ch k hs (by omega) h0 (by omega) _ (by omega) e1 hO)
  have XB := Lib.hid (Box.new w #[.slice H hs.length ch, .slice A l.length c] 37)
  have HA := Lib.hid hA
  clear h hO hA
  go_enter Try.func28, Try.ntmps28
  go_wp2_with fail
  refine XM.out.mono ?_
  rintro e w1 ⟨rfl, hw, hi1⟩
  have X1 : Box w1 w.heap.size #[.slice H hs.length ch, .slice A l.length c] 37 := (hw.block _ (.inr (by omega))).trans XB.out
  have x1 := X1.cell 1
  simp only [List.getElem?_toArray, List.getElem?_cons_zero, List.getElem?_cons_succ] at x1
  have HW := Lib.hid hw
  have HI := Lib.hid hi1
  have XA := Lib.hid (markAtomS_own mid hi A c (k + hs.length) l (by omega) (by omega) (by omega) w1 (by
    rcases HA.out with h | ⟨g, m, e, h, hm⟩
    · exact .inl h
    · exact .inr ⟨g, m, e, h.keep fun b a _ => hw.block b (.inr a), hm⟩))
  have hk2 : 0 ≤ k + (hs.length : Int) := by omega
  clear X1 hw hi1
  go_wp2_with fail
  refine XA.out.mono ?_
  rintro e w2 ⟨rfl, hw, hf⟩
  have HW2 := Lib.hid hw
  have HF := Lib.hid hf
  clear hw hf x1
  go_wp2
  go_ret
  refine ⟨ret_int (by unfold szQ; omega), ⟨?_, fun b hb hlt => ?_⟩, HI.out.keep fun b _ hb => HW2.out.block b (.inl hb), HF.out⟩
  · exact ((below_alloc w _).mono (by omega)).trans (HW.out.below.trans (HW2.out.below.mono e1))
  · exact (HW2.out.block b (.inr hb)).trans ((HW.out.block b (.inr (by omega))).trans (Below.heap_alloc _ _ _ hlt))

set_option maxRecDepth 100000 in
theorem heldQuery_o (H A : Option Addr) (ch c : Nat) (hs : List Int) (l : FL) (k : Int) (h0 : 0 ≤ k) (h1 : k ≤ 1) (hz : szQ hs l ≤ 1048576) (w : World) (h : RI w H (marks k hs.length)) (h' : RF w A (mkK (k + hs.length) l l.length)) :
    Calls Try.prog 42 #[.agg #[.slice H hs.length ch, .slice A l.length c], .int .i64 k] w fun e w' => e = .returned (.int .i64 (k + szQ hs l)) ∧ Below w.heap.size w w' := by
  have hn := szF_nonneg l
  have hzh : (hs.length : Int) + szF l ≤ 1048576 := hz
  have HI := Lib.hid (h.step (below_alloc w (.cells #[.slice H hs.length ch, .slice A l.length c] 37)))
  have HF := Lib.hid (h'.step (below_alloc w (.cells #[.slice H hs.length ch, .slice A l.length c] 37)))
  have hk2 : 0 ≤ k + (hs.length : Int) := by omega
  have hk3 : 0 ≤ k + (hs.length : Int) + szF l := by omega
  clear h h'
  go_enter Try.func42, Try.ntmps42
  go_wp2_with fail
  refine (heldIntS_any _ _ H ch hs.length k _ (by omega) h0 (by omega) HI.out).mono ?_
  rintro e w1 ⟨rfl, rfl⟩
  go_wp2_with fail
  refine (heldAtomS_any A c (k + hs.length) l (by omega) (by omega) (by omega) _ HF.out).mono ?_
  rintro e w1 ⟨rfl, rfl⟩
  go_wp2
  go_ret
  exact ⟨ret_int (by unfold szQ; omega), below_alloc _ _⟩
end Go.Proofs.Ytighalbnpgmdfaa

namespace Go.Proofs.Ytighalbnpgmdfaa
open Go.ChangeShapes Go.WideShapes Go.ChangeAt Go.RowKit Go.Sort
open Go.Deep (BT)
set_option linter.unusedVariables false
set_option linter.unusedSimpArgs false

set_option maxRecDepth 100000 in
set_option maxHeartbeats 1000000 in
theorem termsOf_var (H A : Option Addr) (ch c : Nat) (hs : List Int) (l : FL) (hz : szF l ≤ 1048576) (w : World) (h : RF w A l) :
    Calls Try.prog 118 #[.agg #[.slice H hs.length ch, .slice A l.length c], .func (.func 133) #[] #[]] w (ListT w (wl 10 17 (terms l))) := by
  have hl := szF_len hz
  have hl' : (l.length : Int) ≤ 1048576 := by omega
  have HI := Lib.hid h
  have B0 := Lib.hid (below_alloc w (.cells #[.slice H hs.length ch, .slice A l.length c] 37))
  clear h
  go_enter Try.func118, Try.ntmps118
  go_wp2
  go_loopw [5, 7, 9, 13] (fun p _ _ i wr => ∃ (k : Nat) (t : BT Int) (q : Option Addr), k ≤ l.length ∧ i = .int .i64 k ∧ p = .pointer q ∧ Hid (t.ptr = .pointer q) ∧ Hid (tl t = wl 10 17 (terms (l.take k))) ∧ Hid (At wr (w.heap.size + 1) t) ∧ Hid (tb t).Nodup ∧ Hid (Below w.heap.size w wr) ∧ Hid (w.heap.size + 1 ≤ wr.heap.size)) (fun _ _ _ i _ => l.length - (intOf i).toNat)
  case atStart => exact ⟨0, .nil, none, by omega, rfl, rfl, Lib.hid rfl, Lib.hid rfl, Lib.hid trivial, Lib.hid List.Pairwise.nil, B0, Lib.hid (by simp)⟩
  case round =>
    obtain ⟨k, t, q, hk, rfl, rfl, hP, hO, hT, hN, hB, hS⟩ := hrel
    have hk0 : (0 : Int) ≤ (k : Int) := by omega
    by_cases hlt : k < l.length
    · generalize hf : l.getD k (0, []) = f
      obtain ⟨r, xs⟩ := f
      have hxl : xs.length ≤ 1048576 := by have := szF_elem hz hlt; rw [hf] at this; exact this
      have hxl' : (xs.length : Int) ≤ 1048576 := by omega
      have TT := Lib.hid (terms_take l hlt hf)
      have hk1 : (k : Int) < (l.length : Int) := by omega
      obtain ⟨b, off, B, c3, rfl, hb, e0, e1, _, hcm, hJ⟩ := HI.out.at_ hlt hf
      have q0 := (hB.out.cell (p := ⟨b, off + k * 2, none⟩) hb).trans e0
      have q1 := (hB.out.cell (p := ⟨b, off + k * 2 + 1, none⟩) hb).trans e1
      have HJ := Lib.hid hJ
      have BA := below_alloc wr (.cells #[.int .i64 r, .slice B xs.length c3] 73)
      have hT1 := Lib.hid (hT.out.step BA)
      have hB1 := Lib.hid (step hB.out BA)
      have hS1 := Lib.hid (show w.heap.size + 1 ≤ (wr.alloc (.cells #[.int .i64 r, .slice B xs.length c3] 73)).heap.size by have := hS.out; simp; omega)
      generalize terms (l.take k) = T at hO TT
      clear hf e0 e1 hJ BA
      go_wp2
      go_loopw [5, 9, 20] (fun p _ i wr2 => ∃ (j : Nat) (t : BT Int) (q : Option Addr), j ≤ xs.length ∧ i = .int .i64 j ∧ p = .pointer q ∧ Hid (t.ptr = .pointer q) ∧ Hid (tl t = wl 10 17 (T ++ xs.take j)) ∧ Hid (At wr2 (w.heap.size + 1) t) ∧ Hid (tb t).Nodup ∧ Hid (Below w.heap.size w wr2) ∧ Hid (w.heap.size + 1 ≤ wr2.heap.size)) (fun _ _ i _ => xs.length - (intOf i).toNat)
      case atStart => exact ⟨0, t, q, by omega, rfl, rfl, hP, Lib.hid (by rw [hO.out]; simp), hT1, hN, hB1, hS1⟩
      case round =>
        clear q0 q1 hP hO hT hN hB hS hT1 hB1 hS1
        obtain ⟨j, t, q, hj, rfl, rfl, hP, hO, hT, hN, hB, hS⟩ := hrel
        have hj0 : (0 : Int) ≤ (j : Int) := by omega
        by_cases hjt : j < xs.length
        · have hj1 : (j : Int) < (xs.length : Int) := by omega
          obtain ⟨b2, off2, rfl, hb2, hc0⟩ := HJ.out.at_ hjt
          have hc := (hB.out.cell (p := ⟨b2, off2 + j, none⟩) hb2).trans hc0
          generalize hx : xs.getD j 0 = x at hc
          have TX := Lib.hid (takeI xs hjt hx)
          clear hx hc0
          by_cases hin : inB x 10 17 = true
          · have HN := Lib.hid hin
            have O2 := Lib.hid (show putT t x = wl 10 17 (T ++ xs.take (j + 1)) by rw [TX.out, ← List.append_assoc, wl_yes _ hin, ← hO.out]; exact putT_eq t x (by rw [hO.out]; exact wl_asc _ _ _))
            have XP0 := addTerm_any (w.heap.size + 1) x t wr hS.out hT.out hN.out
            rw [hP.out] at XP0
            have XP := Lib.hid XP0
            clear hin XP0
            go_wp2_with fail
            refine (impl_IsVar x _).mono ?_
            rintro e w' ⟨rfl, rfl⟩
            rw [HN.out]
            go_wp2_with fail
            refine XP.out.mono ?_
            rintro e w1 ⟨t4, rfl, hA⟩
            obtain ⟨q4, hq4⟩ := ptr_form t4
            rw [hq4]
            have hP4 := Lib.hid hq4
            have HA := Lib.hid hA
            clear hA hq4
            go_wp2
            go_roundw
            case rel => exact ⟨j + 1, t4, q4, by omega, by go_num, rfl, hP4, Lib.hid (HA.out.list.trans O2.out), Lib.hid HA.out.at_, Lib.hid HA.out.nodup, Lib.hid (hB.out.trans (HA.out.below.mono (by omega))), Lib.hid (by have := hS.out; have := HA.out.below.size; omega)⟩
            case measure => simp [intOf]; omega
          · have hin' : inB x 10 17 = false := by simpa using hin
            have HN := Lib.hid hin'
            have O2 := Lib.hid (show tl t = wl 10 17 (T ++ xs.take (j + 1)) by rw [TX.out, ← List.append_assoc, wl_no _ hin', hO.out])
            clear hin hin'
            go_wp2_with fail
            refine (impl_IsVar x _).mono ?_
            rintro e w' ⟨rfl, rfl⟩
            rw [HN.out]
            go_wp2
            go_roundw
            case rel => exact ⟨j + 1, t, q, by omega, by go_num, rfl, hP, O2, hT, hN, hB, hS⟩
            case measure => simp [intOf]; omega
        · obtain rfl : j = xs.length := by omega
          have O2 := Lib.hid (show tl t = wl 10 17 (terms (l.take (k + 1))) by rw [TT.out, hO.out, take_all])
          go_wp2
          go_roundw
          case rel => exact ⟨k + 1, t, q, by omega, by go_num, rfl, hP, O2, hT, hN, hB, hS⟩
          case measure => simp [intOf]; omega
    · obtain rfl : k = l.length := by omega
      have O2 := Lib.hid (show tl t = wl 10 17 (terms l) by rw [hO.out, take_all])
      have XL0 := listTerms_any (w.heap.size + 1) t wr hT.out (by have := len_hid O2.out (by omega); omega)
      rw [hP.out, O2.out] at XL0
      have XL := Lib.hid XL0
      clear XL0
      go_wp2_with fail
      refine XL.out.mono ?_
      rintro e w1 ⟨v, rfl, hown, d⟩
      have HO := Lib.hid (ownsRow_lo hown hB.out.size)
      have HD := Lib.hid (step hB.out d)
      clear hown d
      go_wp2
      go_ret
      exact ⟨v, rfl, HO.out, HD.out⟩

set_option maxRecDepth 100000 in
theorem impl_VarsOf (H A : Option Addr) (ch c : Nat) (hs : List Int) (l : FL) (hz : szF l ≤ 1048576) (w : World) (h : RF w A l) :
    Calls Try.prog 114 #[.agg #[.slice H hs.length ch, .slice A l.length c]] w (ListT w (wl 10 17 (terms l))) := by
  have HI := Lib.hid (h.step (below_alloc w (.cells #[.slice H hs.length ch, .slice A l.length c] 37)))
  clear h
  go_enter Try.func114, Try.ntmps114
  go_wp2_with fail
  refine (termsOf_var H A ch c hs l hz _ HI.out).mono ?_
  rintro e w1 ⟨v, rfl, hown, d⟩
  have HO := Lib.hid (ownsRow_lo hown (below_alloc w _).size)
  have HD := Lib.hid (below_new d)
  clear hown d
  go_wp2
  go_ret
  exact ⟨v, rfl, HO.out, HD.out⟩

set_option maxRecDepth 100000 in
set_option maxHeartbeats 1000000 in
theorem termsOf_con (H A : Option Addr) (ch c : Nat) (hs : List Int) (l : FL) (hz : szF l ≤ 1048576) (w : World) (h : RF w A l) :
    Calls Try.prog 118 #[.agg #[.slice H hs.length ch, .slice A l.length c], .func (.func 119) #[] #[]] w (ListT w (wl 0 9 (terms l))) := by
  have hl := szF_len hz
  have hl' : (l.length : Int) ≤ 1048576 := by omega
  have HI := Lib.hid h
  have B0 := Lib.hid (below_alloc w (.cells #[.slice H hs.length ch, .slice A l.length c] 37))
  clear h
  go_enter Try.func118, Try.ntmps118
  go_wp2
  go_loopw [5, 7, 9, 13] (fun p _ _ i wr => ∃ (k : Nat) (t : BT Int) (q : Option Addr), k ≤ l.length ∧ i = .int .i64 k ∧ p = .pointer q ∧ Hid (t.ptr = .pointer q) ∧ Hid (tl t = wl 0 9 (terms (l.take k))) ∧ Hid (At wr (w.heap.size + 1) t) ∧ Hid (tb t).Nodup ∧ Hid (Below w.heap.size w wr) ∧ Hid (w.heap.size + 1 ≤ wr.heap.size)) (fun _ _ _ i _ => l.length - (intOf i).toNat)
  case atStart => exact ⟨0, .nil, none, by omega, rfl, rfl, Lib.hid rfl, Lib.hid rfl, Lib.hid trivial, Lib.hid List.Pairwise.nil, B0, Lib.hid (by simp)⟩
  case round =>
    obtain ⟨k, t, q, hk, rfl, rfl, hP, hO, hT, hN, hB, hS⟩ := hrel
    have hk0 : (0 : Int) ≤ (k : Int) := by omega
    by_cases hlt : k < l.length
    · generalize hf : l.getD k (0, []) = f
      obtain ⟨r, xs⟩ := f
      have hxl : xs.length ≤ 1048576 := by have := szF_elem hz hlt; rw [hf] at this; exact this
      have hxl' : (xs.length : Int) ≤ 1048576 := by omega
      have TT := Lib.hid (terms_take l hlt hf)
      have hk1 : (k : Int) < (l.length : Int) := by omega
      obtain ⟨b, off, B, c3, rfl, hb, e0, e1, _, hcm, hJ⟩ := HI.out.at_ hlt hf
      have q0 := (hB.out.cell (p := ⟨b, off + k * 2, none⟩) hb).trans e0
      have q1 := (hB.out.cell (p := ⟨b, off + k * 2 + 1, none⟩) hb).trans e1
      have HJ := Lib.hid hJ
      have BA := below_alloc wr (.cells #[.int .i64 r, .slice B xs.length c3] 73)
      have hT1 := Lib.hid (hT.out.step BA)
      have hB1 := Lib.hid (step hB.out BA)
      have hS1 := Lib.hid (show w.heap.size + 1 ≤ (wr.alloc (.cells #[.int .i64 r, .slice B xs.length c3] 73)).heap.size by have := hS.out; simp; omega)
      generalize terms (l.take k) = T at hO TT
      clear hf e0 e1 hJ BA
      go_wp2
      go_loopw [5, 9, 20] (fun p _ i wr2 => ∃ (j : Nat) (t : BT Int) (q : Option Addr), j ≤ xs.length ∧ i = .int .i64 j ∧ p = .pointer q ∧ Hid (t.ptr = .pointer q) ∧ Hid (tl t = wl 0 9 (T ++ xs.take j)) ∧ Hid (At wr2 (w.heap.size + 1) t) ∧ Hid (tb t).Nodup ∧ Hid (Below w.heap.size w wr2) ∧ Hid (w.heap.size + 1 ≤ wr2.heap.size)) (fun _ _ i _ => xs.length - (intOf i).toNat)
      case atStart => exact ⟨0, t, q, by omega, rfl, rfl, hP, Lib.hid (by rw [hO.out]; simp), hT1, hN, hB1, hS1⟩
      case round =>
        clear q0 q1 hP hO hT hN hB hS hT1 hB1 hS1
        obtain ⟨j, t, q, hj, rfl, rfl, hP, hO, hT, hN, hB, hS⟩ := hrel
        have hj0 : (0 : Int) ≤ (j : Int) := by omega
        by_cases hjt : j < xs.length
        · have hj1 : (j : Int) < (xs.length : Int) := by omega
          obtain ⟨b2, off2, rfl, hb2, hc0⟩ := HJ.out.at_ hjt
          have hc := (hB.out.cell (p := ⟨b2, off2 + j, none⟩) hb2).trans hc0
          generalize hx : xs.getD j 0 = x at hc
          have TX := Lib.hid (takeI xs hjt hx)
          clear hx hc0
          by_cases hin : inB x 0 9 = true
          · have HN := Lib.hid hin
            have O2 := Lib.hid (show putT t x = wl 0 9 (T ++ xs.take (j + 1)) by rw [TX.out, ← List.append_assoc, wl_yes _ hin, ← hO.out]; exact putT_eq t x (by rw [hO.out]; exact wl_asc _ _ _))
            have XP0 := addTerm_any (w.heap.size + 1) x t wr hS.out hT.out hN.out
            rw [hP.out] at XP0
            have XP := Lib.hid XP0
            clear hin XP0
            go_wp2_with fail
            refine (isValue_any x _).mono ?_
            rintro e w' ⟨rfl, rfl⟩
            rw [HN.out]
            go_wp2_with fail
            refine XP.out.mono ?_
            rintro e w1 ⟨t4, rfl, hA⟩
            obtain ⟨q4, hq4⟩ := ptr_form t4
            rw [hq4]
            have hP4 := Lib.hid hq4
            have HA := Lib.hid hA
            clear hA hq4
            go_wp2
            go_roundw
            case rel => exact ⟨j + 1, t4, q4, by omega, by go_num, rfl, hP4, Lib.hid (HA.out.list.trans O2.out), Lib.hid HA.out.at_, Lib.hid HA.out.nodup, Lib.hid (hB.out.trans (HA.out.below.mono (by omega))), Lib.hid (by have := hS.out; have := HA.out.below.size; omega)⟩
            case measure => simp [intOf]; omega
          · have hin' : inB x 0 9 = false := by simpa using hin
            have HN := Lib.hid hin'
            have O2 := Lib.hid (show tl t = wl 0 9 (T ++ xs.take (j + 1)) by rw [TX.out, ← List.append_assoc, wl_no _ hin', hO.out])
            clear hin hin'
            go_wp2_with fail
            refine (isValue_any x _).mono ?_
            rintro e w' ⟨rfl, rfl⟩
            rw [HN.out]
            go_wp2
            go_roundw
            case rel => exact ⟨j + 1, t, q, by omega, by go_num, rfl, hP, O2, hT, hN, hB, hS⟩
            case measure => simp [intOf]; omega
        · obtain rfl : j = xs.length := by omega
          have O2 := Lib.hid (show tl t = wl 0 9 (terms (l.take (k + 1))) by rw [TT.out, hO.out, take_all])
          go_wp2
          go_roundw
          case rel => exact ⟨k + 1, t, q, by omega, by go_num, rfl, hP, O2, hT, hN, hB, hS⟩
          case measure => simp [intOf]; omega
    · obtain rfl : k = l.length := by omega
      have O2 := Lib.hid (show tl t = wl 0 9 (terms l) by rw [hO.out, take_all])
      have XL0 := listTerms_any (w.heap.size + 1) t wr hT.out (by have := len_hid O2.out (by omega); omega)
      rw [hP.out, O2.out] at XL0
      have XL := Lib.hid XL0
      clear XL0
      go_wp2_with fail
      refine XL.out.mono ?_
      rintro e w1 ⟨v, rfl, hown, d⟩
      have HO := Lib.hid (ownsRow_lo hown hB.out.size)
      have HD := Lib.hid (step hB.out d)
      clear hown d
      go_wp2
      go_ret
      exact ⟨v, rfl, HO.out, HD.out⟩

set_option maxRecDepth 100000 in
theorem impl_ConstantsOf (H A : Option Addr) (ch c : Nat) (hs : List Int) (l : FL) (hz : szF l ≤ 1048576) (w : World) (h : RF w A l) :
    Calls Try.prog 79 #[.agg #[.slice H hs.length ch, .slice A l.length c]] w (ListT w (wl 0 9 (terms l))) := by
  have HI := Lib.hid (h.step (below_alloc w (.cells #[.slice H hs.length ch, .slice A l.length c] 37)))
  clear h
  go_enter Try.func79, Try.ntmps79
  go_wp2_with fail
  refine (termsOf_con H A ch c hs l hz _ HI.out).mono ?_
  rintro e w1 ⟨v, rfl, hown, d⟩
  have HO := Lib.hid (ownsRow_lo hown (below_alloc w _).size)
  have HD := Lib.hid (below_new d)
  clear hown d
  go_wp2
  go_ret
  exact ⟨v, rfl, HO.out, HD.out⟩

end Go.Proofs.Ytighalbnpgmdfaa

namespace Go.Proofs.Ytighalbnpgmdfaa
open Go.ChangeShapes Go.WideShapes Go.ChangeAt Go.RowKit Go.Sort
open Go.Proofs.Ytighalbnpgmdfaa.atom
set_option linter.unusedVariables false
set_option linter.unusedSimpArgs false

/-- Numbers in blocks from lo to below hi, whatever is made later. -/
def IV (w : World) (lo hi : Nat) (A : Option Addr) (xs : List Int) : Prop := Ints w lo hi A xs ∧ hi ≤ w.heap.size
theorem IV.step {w w' : World} {lo hi : Nat} {A : Option Addr} {xs : List Int} (h : IV w lo hi A xs) (d : Below w.heap.size w w') : IV w' lo hi A xs := ⟨h.1.below d h.2, Nat.le_trans h.2 d.size⟩
theorem IV.keep {w w' : World} {lo hi : Nat} {A : Option Addr} {xs : List Int} (h : IV w lo hi A xs) (hk : ∀ b, lo ≤ b → b < hi → w'.heap[b]? = w.heap[b]?) (hz : w.heap.size ≤ w'.heap.size) : IV w' lo hi A xs := ⟨h.1.keep hk, Nat.le_trans h.2 hz⟩
theorem IV.ri {w : World} {lo hi : Nat} {A : Option Addr} {xs : List Int} (h : IV w lo hi A xs) : RI w A xs := h.1.mono (Nat.zero_le _) h.2
/-- Numbers of the call's own, in blocks from lo to below hi, whatever is made later. -/
def GV (w : World) (lo hi : Nat) (A : Option Addr) (c : Nat) (xs : List Int) : Prop := (∃ q, OwnV w lo hi (.slice A xs.length c) q xs) ∧ hi ≤ w.heap.size ∧ lo ≤ hi
theorem GV.keep {w w' : World} {lo hi : Nat} {A : Option Addr} {c : Nat} {xs : List Int} (h : GV w lo hi A c xs) (hk : ∀ b, lo ≤ b → b < hi → w'.heap[b]? = w.heap[b]?) (hz : w.heap.size ≤ w'.heap.size) : GV w' lo hi A c xs := by
  obtain ⟨⟨q, h1⟩, h2, h3⟩ := h
  exact ⟨⟨q, h1.keep fun a b _ => hk _ a b⟩, Nat.le_trans h2 hz, h3⟩
theorem GV.step {w w' : World} {lo hi : Nat} {A : Option Addr} {c : Nat} {xs : List Int} (h : GV w lo hi A c xs) (d : Below w.heap.size w w') : GV w' lo hi A c xs :=
  h.keep (fun b _ hb => d.block b (by have := h.2.1; omega)) d.size
theorem GV.ri {w : World} {lo hi : Nat} {A : Option Addr} {c : Nat} {xs : List Int} (h : GV w lo hi A c xs) : RI w A xs := by
  obtain ⟨⟨q, h1⟩, h2, h3⟩ := h
  exact (h1.ints).2.2.2.mono (Nat.zero_le _) h2

/-- What a function that lists numbers returns, as its blocks. -/
def ListG (w : World) (xs : List Int) (e : Ending) (w' : World) : Prop := ∃ A c, e = .returned (.slice A xs.length c) ∧ GV w' w.heap.size w'.heap.size A c xs ∧ Below w.heap.size w w'
theorem ListT.toG {w : World} {xs : List Int} {e : Ending} {w' : World} (h : ListT w xs e w') : ListG w xs e w' := by
  obtain ⟨v, he, ho, hb⟩ := h
  obtain ⟨A, c, rfl⟩ := ownsRow_form ho
  obtain ⟨q, hv⟩ := ownV_of_row ho
  exact ⟨A, c, he, ⟨⟨q, hv⟩, Nat.le_refl _, hb.size⟩, hb⟩
theorem PutO.toV {w : World} {xs : List Int} {e : Ending} {w' : World} (h : PutO w w.heap.size xs e w') : ∃ A c, e = .returned (.slice A xs.length c) ∧ IV w' w.heap.size w'.heap.size A xs ∧ Below w.heap.size w w' := by
  obtain ⟨A, c, he, hi, hb⟩ := h
  exact ⟨A, c, he, ⟨hi, Nat.le_refl _⟩, hb⟩
theorem markIntS_g (lo hi : Nat) (A : Option Addr) (c : Nat) (xs : List Int) (hl : xs.length ≤ 1048576) (w : World) (h : GV w lo hi A c xs) :
    Calls Try.prog 26 #[.slice A xs.length c, .int .i64 1] w fun e w' => e = .returned (.int .i64 (1 + xs.length)) ∧ Within lo hi w w' ∧ IV w' lo hi A (marks 1 xs.length) := by
  obtain ⟨⟨q, h1⟩, h2, h3⟩ := h
  refine (markIntS_own lo hi q A c 1 xs hl (by omega) (by omega) w h2 h3 h1).mono ?_
  rintro e w' ⟨rfl, hw, hi'⟩
  exact ⟨rfl, hw, hi', by rw [hw.size]; exact h2⟩
theorem heldIntS_g (lo hi : Nat) (A : Option Addr) (c n : Nat) (hl : n ≤ 1048576) (w : World) (h : IV w lo hi A (marks 1 n)) :
    Calls Try.prog 33 #[.slice A n c, .int .i64 1] w fun e w' => e = .returned (.int .i64 (1 + n)) ∧ w = w' := heldIntS_any lo hi A c n 1 w hl (by omega) (by omega) h.1
end Go.Proofs.Ytighalbnpgmdfaa
