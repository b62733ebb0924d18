/- Queries in memory: their size, their copy, their comparison by the law. Conditions: none beyond each theorem's own. -/
import Derived.Test.YtimlpdcambmcjaaAtom
import Derived.Test.YtimlpdcambmcjaaPush
namespace Go.Proofs.Ytimlpdcambmcjaa
open Go.ChangeShapes Go.WideShapes Go.ChangeAt Go.RowKit Go.Sort
open Go.Proofs.Ytimlpdcambmcjaa.atom
set_option linter.unusedVariables false
set_option linter.unusedSimpArgs false

section
variable {H : Type} {enc : TypeId × Value → H} {w : World}
set_option maxRecDepth 100000 in
theorem open_queryT {r : Reach} {base : Nat} {v : Value} {d : DataW H} {p : List MemPlace} (hv : Value.okWide Try.prog w r base 25 v) (h : DataW.Trod enc Try.prog w 0 (fun _ => true) true 25 v d p) :
    ∃ (H A : Option Addr) (ch c : Nat) (hs : List Int) (l : FL), v = .agg #[.slice H hs.length ch, .slice A l.length c] ∧ hs.length ≤ ch ∧ ch ≤ maxLen ∧ l.length ≤ c ∧ c ≤ maxLen ∧ (Ints w 0 w.heap.size H hs ∧ Facts w 0 w.heap.size A l) := by
  have hok : Value.okWide Try.prog w r base 25 v := hv
  obtain ⟨v0, v1, y0, y1, n, rfl, _, _, h0, h1⟩ := Go.Joins.open_agg2 Try.underlying25 (by kernel_rfl) (by kernel_rfl) hv h
  obtain ⟨A, c, xs, hv1, hl, hm, hi⟩ := open_nums (v := v0) Try.underlying22 Try.underlying3 (by kernel_rfl) h0
  subst hv1
  have h2 := atom.open_atoms_at (v := v1) h1
  obtain ⟨B, c2, l, rfl, hl2, hm2, hf⟩ := h2
  exact ⟨A, B, c, c2, xs, l, rfl, hl, hm, hl2, hm2, hi, hf⟩
end

/-- How many values a query holds. -/
def szQ (hs : List Int) (l : FL) : Int := (hs.length : Int) + szF l

set_option maxRecDepth 100000 in
theorem szQuery_any (H A : Option Addr) (ch c : Nat) (hs : List Int) (l : FL) (left : Int) (hh : hs.length ≤ 9223372036854775807) (hl : l.length ≤ 9223372036854775807) (h0 : 0 ≤ left) (h1 : left ≤ 1048576) (w : World) (h : RF w A l) :
    Calls Try.prog 7 #[.agg #[.slice H hs.length ch, .slice A l.length c], .int .i64 left] w fun e w' => e = .returned (.int .i64 (szR left (szQ hs l))) ∧ Below w.heap.size w w' := by
  have hn := szF_nonneg l
  have HI := Lib.hid (h.step (below_alloc w (.cells #[.slice H hs.length ch, .slice A l.length c] 25)))
  clear h
  by_cases hb : left - (hs.length : Int) < 0
  · have E := Lib.hid (szR_neg (left := left) (z := szQ hs l) (by unfold szQ; omega))
    rw [E.out]
    go_enter Try.func7, Try.ntmps7
    go_wp2_with fail
    refine (szIntS_any H ch hs.length left hh h0 h1 _).mono ?_
    rintro e w1 ⟨rfl, rfl⟩
    rw [if_pos hb]
    go_wp2
    go_ret
    exact ⟨rfl, below_alloc _ _⟩
  · have hb' : (hs.length : Int) ≤ left := by omega
    have hb2 : 0 ≤ left - (hs.length : Int) := by omega
    have XS := Lib.hid fun (W : World) (hW : RF W A l) => szAtomS_w A c l (left - hs.length) hl (by omega) (by omega) W hW
    by_cases hz : left - (hs.length : Int) - szF l < 0
    · have E := Lib.hid (szR_neg (left := left) (z := szQ hs l) (by unfold szQ; omega))
      have E2 := Lib.hid (szR_neg hz)
      rw [E.out]
      go_enter Try.func7, Try.ntmps7
      go_wp2_with fail
      refine (szIntS_any H ch hs.length left hh h0 h1 _).mono ?_
      rintro e w1 ⟨rfl, rfl⟩
      rw [if_neg (show ¬ (left - (hs.length : Int) < 0) by omega)]
      go_wp2_with fail
      refine (XS.out _ HI.out).mono ?_
      rintro e w1 ⟨he, d⟩
      rw [E2.out] at he
      subst he
      have D := Lib.hid (below_new d)
      clear d
      go_wp2
      go_ret
      exact ⟨rfl, D.out⟩
    · have hz2 : 0 ≤ left - (hs.length : Int) - szF l := by omega
      have E := Lib.hid (show szR left (szQ hs l) = left - hs.length - szF l by rw [szR_pos (by unfold szQ; omega)]; unfold szQ; omega)
      have E2 := Lib.hid (szR_pos hz)
      rw [E.out]
      go_enter Try.func7, Try.ntmps7
      go_wp2_with fail
      refine (szIntS_any H ch hs.length left hh h0 h1 _).mono ?_
      rintro e w1 ⟨rfl, rfl⟩
      rw [if_neg (show ¬ (left - (hs.length : Int) < 0) by omega)]
      go_wp2_with fail
      refine (XS.out _ HI.out).mono ?_
      rintro e w1 ⟨he, d⟩
      rw [E2.out] at he
      subst he
      have D := Lib.hid (below_new d)
      clear d
      go_wp2
      go_ret
      exact ⟨rfl, D.out⟩

/-- A query of the call's own: its head in block g, its atoms from block g + 1 on. -/
def QX (w : World) (g hi : Nat) (hs : List Int) (l : FL) : Prop := Row w g hs ∧ atom.PX w (g + 1) hi (g + 1) (l.length * 2) l
theorem QX.step {w w' : World} {g hi : Nat} {hs : List Int} {l : FL} (h : QX w g hi hs l) (b : Below w.heap.size w w') : QX w' g hi hs l := ⟨h.1.step b, h.2.step b⟩
theorem QX.keep {w w' : World} {g hi : Nat} {hs : List Int} {l : FL} (h : QX w g hi hs l) (hk : ∀ b, g ≤ b → b < hi → w'.heap[b]? = w.heap[b]?) (hs' : w.heap.size ≤ w'.heap.size) : QX w' g hi hs l :=
  ⟨h.1.of_block (hk g (Nat.le_refl _) (by have := h.2.1.2.1; omega)), h.2.keep (fun b h1 h2 => hk b (by omega) h2) hs'⟩
theorem QX.ri {w : World} {g hi : Nat} {hs : List Int} {l : FL} (h : QX w g hi hs l) : RI w (some ⟨g, 0, none⟩) hs := h.1.ri
theorem QX.rf {w : World} {g hi : Nat} {hs : List Int} {l : FL} (h : QX w g hi hs l) : RF w (some ⟨g + 1, 0, none⟩) l := h.2.rf
theorem QX.lt {w : World} {g hi : Nat} {hs : List Int} {l : FL} (h : QX w g hi hs l) : g + 1 < hi ∧ hi ≤ w.heap.size := ⟨h.2.1.2.1, h.2.2.1⟩

set_option maxHeartbeats 1000000 in
set_option maxRecDepth 100000 in
theorem toQuery_r (H A : Option Addr) (ch c : Nat) (hs : List Int) (l : FL) (hh : hs.length ≤ 1048576) (hz : szF l ≤ 1048576) (w : World) (h : RI w H hs) (h' : RF w A l) :
    Calls Try.prog 10 #[.agg #[.slice H hs.length ch, .slice A l.length c]] w fun e w' =>
      e = .returned (.agg #[.slice (some ⟨w.heap.size + 3, 0, none⟩) hs.length hs.length, .slice (some ⟨w.heap.size + 3 + 1, 0, none⟩) l.length l.length]) ∧ QX w' (w.heap.size + 3) w'.heap.size hs l ∧ Below w.heap.size w w' ∧ w.heap.size + 4 < w'.heap.size := by
  obtain ⟨W, hW⟩ : ∃ W, W = ((w.alloc (.cells #[.slice H hs.length ch, .slice A l.length c] 25)).alloc (.cells #[.slice none 0 0, .slice none 0 0] 31)).alloc (.cells #[.slice none 0 0, .slice none 0 0] 31) := ⟨_, rfl⟩
  have BW := Lib.hid (show Below w.heap.size w W by rw [hW]; exact step (step (below_alloc _ _) (below_alloc _ _)) (below_alloc _ _))
  have ZW := Lib.hid (show W.heap.size = w.heap.size + 3 by rw [hW]; simp)
  have X0 : Box W w.heap.size #[.slice H hs.length ch, .slice A l.length c] 25 := by rw [hW]; exact ((Box.new w _ _).step (below_alloc _ _)).step (below_alloc _ _)
  have X1 : Box W (w.heap.size + 1) #[.slice none 0 0, .slice none 0 0] 31 := by
    have h1 := (Box.new (w.alloc (.cells #[.slice H hs.length ch, .slice A l.length c] 25)) #[.slice none 0 0, .slice none 0 0] 31).step (below_alloc _ (.cells #[.slice none 0 0, .slice none 0 0] 31))
    rw [hW]; simpa using h1
  have X2 : Box W (w.heap.size + 2) #[.slice none 0 0, .slice none 0 0] 31 := by
    have h1 := Box.new ((w.alloc (.cells #[.slice H hs.length ch, .slice A l.length c] 25)).alloc (.cells #[.slice none 0 0, .slice none 0 0] 31)) #[.slice none 0 0, .slice none 0 0] 31
    rw [hW]; simpa using h1
  have HX0 := Lib.hid X0
  have HX1 := Lib.hid X1
  have HX2 := Lib.hid X2
  have HI := Lib.hid h
  have HF := Lib.hid h'
  have EW := Lib.hid hW
  clear h h' X0 X1 X2 hW
  go_enter Try.func10, Try.ntmps10
  go_wp2_with fail
  rw [← EW.out]
  refine (toIntS_r H ch hs hh _ (HI.out.step BW.out)).mono ?_
  rintro e w1 ⟨rfl, hr, hb, hz1⟩
  have HR := Lib.hid hr
  have HB := Lib.hid hb
  have HZ := Lib.hid hz1
  have Y0 := Lib.hid (HX0.out.step hb)
  have Y1 := Lib.hid (HX1.out.step hb)
  have Y2 := Lib.hid (HX2.out.step hb)
  have a0 := Y0.out.cell 1
  have a2 := Y2.out.cell 0
  have a3 := Y2.out.frozen 0
  simp only [List.getElem?_toArray, List.getElem?_cons_zero, List.getElem?_cons_succ] at a0 a2
  obtain ⟨g, hg⟩ : ∃ g, g = W.heap.size := ⟨_, rfl⟩
  rw [← hg]
  have G := Lib.hid hg
  have L1 : w.heap.size + 2 < w1.heap.size := Y2.out.lt
  have BX := Lib.hid (show Below w.heap.size w (w1.setCell ⟨w.heap.size + 2, 0, none⟩ (.slice (some ⟨g, 0, none⟩) hs.length hs.length)) from (step BW.out hb).setCell (by simp) _)
  clear hr hb hz1 hg
  go_wp2_with fail
  refine (toAtomS_p A c l hz _ (HF.out.step BX.out)).mono ?_
  rintro e w2 ⟨rfl, hp, d, hz2⟩
  have Z0 := Lib.hid (((Y2.out.set 0 (.slice (some ⟨g, 0, none⟩) hs.length hs.length))).step d)
  have Z1 := Lib.hid ((Y1.out.set_other (p := ⟨w.heap.size + 2, 0, none⟩) (u := .slice (some ⟨g, 0, none⟩) hs.length hs.length) (by simp)).step d)
  have HP := Lib.hid hp
  have HD := Lib.hid (step BX.out d)
  have HR2 := Lib.hid ((HR.out.set_other (p := ⟨w.heap.size + 2, 0, none⟩) (u := .slice (some ⟨g, 0, none⟩) hs.length hs.length) (by have := ZW.out; (try simp); omega)).step d)
  have z0 := Z0.out.cell 0
  have z1 := Z0.out.cell 1
  have z2 := Z0.out.frozen 0
  have z3 := Z0.out.frozen 1
  have z4 := Z1.out.cell 0
  have z5 := Z1.out.cell 1
  have z6 := Z1.out.frozen 0
  have z7 := Z1.out.frozen 1
  simp only [List.setIfInBounds_toArray, List.set_cons_zero, List.getElem?_toArray, List.getElem?_cons_zero, List.getElem?_cons_succ] at z0 z1 z4 z5
  have L2 : w.heap.size + 2 < w2.heap.size := Z0.out.lt
  obtain ⟨g2, hg2⟩ : ∃ g2, g2 = (w1.setCell ⟨w.heap.size + 2, 0, none⟩ (.slice (some ⟨g, 0, none⟩) hs.length hs.length)).heap.size := ⟨_, rfl⟩
  rw [← hg2] at HP ⊢
  have E2 := Lib.hid (show g2 = w.heap.size + 3 + 1 by rw [hg2, set_size, HZ.out, ZW.out])
  have E1 := Lib.hid (show g = w.heap.size + 3 by rw [G.out, ZW.out])
  have LZ := Lib.hid (show w.heap.size + 4 < w2.heap.size by rw [set_size, HZ.out, ZW.out] at hz2; omega)
  have ER := Lib.hid (show Row w2 g hs by rw [G.out]; exact HR2.out)
  clear hp d hz2 hg2 a0 a2 a3 Z0 Z1 Y0 Y1 Y2
  go_wp2
  refine bodyPost_ret (v := .agg #[.slice (some ⟨g, 0, none⟩) hs.length hs.length, .slice (some ⟨g2, 0, none⟩) l.length l.length]) (by simp [results, Try.results10, go_sem, z0, z1, z2, z3, z4, z5, z6, z7]) rfl ?_
  refine ⟨by rw [E1.out, E2.out], ?_, ?_, ?_⟩
  · refine (show QX w2 (w.heap.size + 3) _ hs l from ⟨by have := ER.out; rwa [E1.out] at this, by have := HP.out; rw [E2.out] at this; simpa [set_size] using this⟩).keep (fun b h1 h2 => ?_) (by simp [set_size])
    exact ((Below.heap_setCell _ ⟨w.heap.size + 1, 1, none⟩ _ b (by (try simp); omega)).trans (Below.heap_setCell _ ⟨w.heap.size + 1, 0, none⟩ _ b (by (try simp); omega))).trans (Below.heap_setCell _ ⟨w.heap.size + 2, 1, none⟩ _ b (by (try simp); omega))
  · exact Below.setCell (Below.setCell (Below.setCell HD.out (by (try simp) <;> omega) _) (by (try simp) <;> omega) _) (by (try simp) <;> omega) _
  · rw [set_size, set_size, set_size]; exact LZ.out

set_option maxHeartbeats 1000000 in
set_option maxRecDepth 100000 in
theorem eqQuery_b (H A H' A' : Option Addr) (ch c ch' c' : Nat) (hs : List Int) (l : FL) (hh : hs.length ≤ 1048576) (hz : szF l ≤ 1048577) (w : World) (h1 : RI w H hs) (h2 : RF w A l) (h3 : RI w H' hs) (h4 : RF w A' l) :
    Calls Try.prog 13 #[.agg #[.slice H hs.length ch, .slice A l.length c], .agg #[.slice H' hs.length ch', .slice A' l.length c']] w fun e w' => e = .returned (.bool true) ∧ Below w.heap.size w w' := by
  have B0 := step (below_alloc w (.cells #[.slice H hs.length ch, .slice A l.length c] 31)) (below_alloc _ (.cells #[.slice H' hs.length ch', .slice A' l.length c'] 31))
  have H1 := Lib.hid (h1.step B0)
  have H2 := Lib.hid (h2.step B0)
  have H3 := Lib.hid (h3.step B0)
  have H4 := Lib.hid (h4.step B0)
  have HB0 := Lib.hid B0
  clear h1 h2 h3 h4 B0
  go_enter Try.func13, Try.ntmps13
  go_wp2_with fail
  refine (eqIntS_r H H' ch ch' hs hh _ H1.out H3.out).mono ?_
  rintro e w1 ⟨rfl, d⟩
  have X := Box.of_new2 d
  have x1 := X.1.cell 1
  have x2 := X.2.cell 1
  simp only [List.getElem?_toArray, List.getElem?_cons_zero, List.getElem?_cons_succ] at x1 x2
  have F2 := Lib.hid (H2.out.step d)
  have F4 := Lib.hid (H4.out.step d)
  have D1 := Lib.hid (step HB0.out d)
  clear X d
  go_wp2_with fail
  refine (eqAtomS_b A A' c c' l hz _ F2.out F4.out).mono ?_
  rintro e w2 ⟨rfl, d⟩
  have D2 := Lib.hid (step D1.out d)
  clear d x1 x2
  go_wp2
  go_ret
  exact ⟨rfl, D2.out⟩
end Go.Proofs.Ytimlpdcambmcjaa
