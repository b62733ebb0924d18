/- Bindings in memory: their size, their copy, their comparison by the law. Conditions: none beyond each theorem's own. -/
import Derived.Test.YtpdmkdhnidgjoaaEqList
namespace Go.Proofs.Ytpdmkdhnidgjoaa
open Go.ChangeShapes Go.WideShapes Go.ChangeAt Go.RowKit
set_option linter.unusedVariables false
set_option linter.unusedSimpArgs false

section
variable {H : Type} {enc : TypeId × Value → H} {w : World}
set_option maxRecDepth 100000 in
theorem open_bindingT {r : Reach} {base : Nat} {v : Value} {d : DataW H} {p : List MemPlace} (hv : Value.okWide Try.prog w r base 43 v) (h : DataW.Trod enc Try.prog w 0 (fun _ => true) true 43 v d p) :
    ∃ (H A : Option Addr) (ch c : Nat) (hs l : List Int), v = .agg #[.slice H hs.length ch, .slice A l.length c] ∧ hs.length ≤ ch ∧ ch ≤ maxLen ∧ l.length ≤ c ∧ c ≤ maxLen ∧ (Ints w 0 w.heap.size H hs ∧ Ints w 0 w.heap.size A l) := by
  obtain ⟨v0, v1, y0, y1, n, rfl, _, _, h0, h1⟩ := Go.Joins.open_agg2 Try.underlying43 (by kernel_rfl) (by kernel_rfl) hv h
  obtain ⟨A, c, xs, hv1, hl, hm, hi⟩ := open_nums (v := v0) Try.underlying22 Try.underlying3 (by kernel_rfl) h0
  subst hv1
  obtain ⟨B, c2, l, hv2, hl2, hm2, hf⟩ := open_nums (v := v1) Try.underlying22 Try.underlying3 (by kernel_rfl) h1
  subst hv2
  exact ⟨A, B, c, c2, xs, l, rfl, hl, hm, hl2, hm2, hi, hf⟩
end

/-- How many values a binding holds. -/
def szB (hs l : List Int) : Int := (hs.length : Int) + (l.length : Int)

set_option maxRecDepth 100000 in
theorem szBinding_any (H A : Option Addr) (ch c : Nat) (hs l : List Int) (left : Int) (hh : hs.length ≤ 9223372036854775807) (hl : l.length ≤ 9223372036854775807) (h0 : 0 ≤ left) (h1 : left ≤ 1048576) (w : World) :
    Calls Try.prog 22 #[.agg #[.slice H hs.length ch, .slice A l.length c], .int .i64 left] w fun e w' => e = .returned (.int .i64 (szR left (szB hs l))) ∧ Below w.heap.size w w' := by
  by_cases hb : left - (hs.length : Int) < 0
  · have E := Lib.hid (szR_neg (left := left) (z := szB hs l) (by unfold szB; omega))
    rw [E.out]
    go_enter Try.func22, Try.ntmps22
    go_wp2_with fail
    refine (szIntS_any H ch hs.length left hh h0 h1 _).mono ?_
    rintro e w1 ⟨rfl, rfl⟩
    rw [if_pos hb]
    go_wp2
    go_ret
    exact ⟨rfl, below_alloc _ _⟩
  · have hb' : (hs.length : Int) ≤ left := by omega
    have hb2 : 0 ≤ left - (hs.length : Int) := by omega
    by_cases hz : left - (hs.length : Int) - (l.length : Int) < 0
    · have E := Lib.hid (szR_neg (left := left) (z := szB hs l) (by unfold szB; omega))
      rw [E.out]
      go_enter Try.func22, Try.ntmps22
      go_wp2_with fail
      refine (szIntS_any H ch hs.length left hh h0 h1 _).mono ?_
      rintro e w1 ⟨rfl, rfl⟩
      rw [if_neg (show ¬ (left - (hs.length : Int) < 0) by omega)]
      go_wp2_with fail
      refine (szIntS_any A c l.length (left - hs.length) hl (by omega) (by omega) _).mono ?_
      rintro e w1 ⟨rfl, rfl⟩
      rw [if_pos (show left - (hs.length : Int) - (l.length : Int) < 0 by omega)]
      go_wp2
      go_ret
      exact ⟨rfl, below_alloc _ _⟩
    · have hz2 : 0 ≤ left - (hs.length : Int) - (l.length : Int) := by omega
      have E := Lib.hid (show szR left (szB hs l) = left - hs.length - l.length by rw [szR_pos (by unfold szB; omega)]; unfold szB; omega)
      rw [E.out]
      go_enter Try.func22, Try.ntmps22
      go_wp2_with fail
      refine (szIntS_any H ch hs.length left hh h0 h1 _).mono ?_
      rintro e w1 ⟨rfl, rfl⟩
      rw [if_neg (show ¬ (left - (hs.length : Int) < 0) by omega)]
      go_wp2_with fail
      refine (szIntS_any A c l.length (left - hs.length) hl (by omega) (by omega) _).mono ?_
      rintro e w1 ⟨rfl, rfl⟩
      rw [if_neg (show ¬ (left - (hs.length : Int) - (l.length : Int) < 0) by omega)]
      go_wp2
      go_ret
      exact ⟨rfl, below_alloc _ _⟩

/-- A binding of the call's own: its variables in block g, its values in block g + 1. -/
def BX (w : World) (g : Nat) (hs l : List Int) : Prop := Row w g hs ∧ Row w (g + 1) l
theorem BX.step {w w' : World} {g : Nat} {hs l : List Int} (h : BX w g hs l) (b : Below w.heap.size w w') : BX w' g hs l :=
  ⟨h.1.of_block (b.block _ (World.rowIs.lt h.1)), h.2.of_block (b.block _ (World.rowIs.lt h.2))⟩
theorem BX.ri {w : World} {g : Nat} {hs l : List Int} (h : BX w g hs l) : RI w (some ⟨g, 0, none⟩) hs := h.1.ri
theorem BX.rv {w : World} {g : Nat} {hs l : List Int} (h : BX w g hs l) : RI w (some ⟨g + 1, 0, none⟩) l := h.2.ri

set_option maxHeartbeats 1000000 in
set_option maxRecDepth 100000 in
theorem toBinding_r (H A : Option Addr) (ch c : Nat) (hs l : List Int) (hh : hs.length ≤ 1048576) (hl : l.length ≤ 1048576) (w : World) (h : RI w H hs) (h' : RI w A l) :
    Calls Try.prog 24 #[.agg #[.slice H hs.length ch, .slice A l.length c]] w fun e w' =>
      e = .returned (.agg #[.slice (some ⟨w.heap.size + 3, 0, none⟩) hs.length hs.length, .slice (some ⟨w.heap.size + 3 + 1, 0, none⟩) l.length l.length]) ∧ BX w' (w.heap.size + 3) hs l ∧ Below w.heap.size w w' ∧ w'.heap.size = w.heap.size + 5 := by
  obtain ⟨W, hW⟩ : ∃ W, W = ((w.alloc (.cells #[.slice H hs.length ch, .slice A l.length c] 43)).alloc (.cells #[.slice none 0 0, .slice none 0 0] 29)).alloc (.cells #[.slice none 0 0, .slice none 0 0] 29) := ⟨_, rfl⟩
  have BW := Lib.hid (show Below w.heap.size w W by rw [hW]; exact step (step (below_alloc _ _) (below_alloc _ _)) (below_alloc _ _))
  have ZW := Lib.hid (show W.heap.size = w.heap.size + 3 by rw [hW]; simp)
  have X0 : Box W w.heap.size #[.slice H hs.length ch, .slice A l.length c] 43 := by rw [hW]; exact ((Box.new w _ _).step (below_alloc _ _)).step (below_alloc _ _)
  have X1 : Box W (w.heap.size + 1) #[.slice none 0 0, .slice none 0 0] 29 := by
    have h1 := (Box.new (w.alloc (.cells #[.slice H hs.length ch, .slice A l.length c] 43)) #[.slice none 0 0, .slice none 0 0] 29).step (below_alloc _ (.cells #[.slice none 0 0, .slice none 0 0] 29))
    rw [hW]; simpa using h1
  have X2 : Box W (w.heap.size + 2) #[.slice none 0 0, .slice none 0 0] 29 := by
    have h1 := Box.new ((w.alloc (.cells #[.slice H hs.length ch, .slice A l.length c] 43)).alloc (.cells #[.slice none 0 0, .slice none 0 0] 29)) #[.slice none 0 0, .slice none 0 0] 29
    rw [hW]; simpa using h1
  have HX0 := Lib.hid X0
  have HX1 := Lib.hid X1
  have HX2 := Lib.hid X2
  have HI := Lib.hid h
  have HF := Lib.hid h'
  have EW := Lib.hid hW
  clear h h' X0 X1 X2 hW
  go_enter Try.func24, Try.ntmps24
  go_wp2_with fail
  rw [← EW.out]
  refine (toIntS_r H ch hs hh _ (HI.out.step BW.out)).mono ?_
  rintro e w1 ⟨rfl, hr, hb, hz1⟩
  have HR := Lib.hid hr
  have HB := Lib.hid hb
  have HZ := Lib.hid hz1
  have Y0 := Lib.hid (HX0.out.step hb)
  have Y1 := Lib.hid (HX1.out.step hb)
  have Y2 := Lib.hid (HX2.out.step hb)
  have a0 := Y0.out.cell 1
  have a2 := Y2.out.cell 0
  have a3 := Y2.out.frozen 0
  simp only [List.getElem?_toArray, List.getElem?_cons_zero, List.getElem?_cons_succ] at a0 a2
  obtain ⟨g, hg⟩ : ∃ g, g = W.heap.size := ⟨_, rfl⟩
  rw [← hg]
  have G := Lib.hid hg
  have L1 : w.heap.size + 2 < w1.heap.size := Y2.out.lt
  have BX1 := Lib.hid (show Below w.heap.size w (w1.setCell ⟨w.heap.size + 2, 0, none⟩ (.slice (some ⟨g, 0, none⟩) hs.length hs.length)) from (step BW.out hb).setCell (by simp) _)
  clear hr hb hz1 hg
  go_wp2_with fail
  refine (toIntS_r A c l hl _ (HF.out.step BX1.out)).mono ?_
  rintro e w2 ⟨rfl, hp, d, hz2⟩
  have b2 : Box (w1.setCell ⟨w.heap.size + 2, 0, none⟩ (.slice (some ⟨g, 0, none⟩) hs.length hs.length)) (w.heap.size + 2) #[.slice (some ⟨g, 0, none⟩) hs.length hs.length, .slice none 0 0] 29 := Y2.out.set 0 (.slice (some ⟨g, 0, none⟩) hs.length hs.length)
  have Z0 := Lib.hid (b2.step d)
  have Z1 := Lib.hid ((Y1.out.set_other (p := ⟨w.heap.size + 2, 0, none⟩) (u := .slice (some ⟨g, 0, none⟩) hs.length hs.length) (by simp)).step d)
  have HP := Lib.hid hp
  have HD := Lib.hid (step BX1.out d)
  have hr2 := HR.out.set_other (p := ⟨w.heap.size + 2, 0, none⟩) (u := .slice (some ⟨g, 0, none⟩) hs.length hs.length) (by have := ZW.out; (try simp); omega)
  have HR2 := Lib.hid (hr2.of_block (d.block _ (World.rowIs.lt hr2)))
  have z0 := Z0.out.cell 0
  have z1 := Z0.out.cell 1
  have z2 := Z0.out.frozen 0
  have z3 := Z0.out.frozen 1
  have z4 := Z1.out.cell 0
  have z5 := Z1.out.cell 1
  have z6 := Z1.out.frozen 0
  have z7 := Z1.out.frozen 1
  simp only [List.setIfInBounds_toArray, List.set_cons_zero, List.getElem?_toArray, List.getElem?_cons_zero, List.getElem?_cons_succ] at z0 z1 z4 z5
  have L2 : w.heap.size + 2 < w2.heap.size := Z0.out.lt
  obtain ⟨g2, hg2⟩ : ∃ g2, g2 = (w1.setCell ⟨w.heap.size + 2, 0, none⟩ (.slice (some ⟨g, 0, none⟩) hs.length hs.length)).heap.size := ⟨_, rfl⟩
  rw [← hg2] at HP ⊢
  have E2 := Lib.hid (show g2 = w.heap.size + 3 + 1 by rw [hg2, set_size, HZ.out, ZW.out])
  have E1 := Lib.hid (show g = w.heap.size + 3 by rw [G.out, ZW.out])
  have LZ := Lib.hid (show w2.heap.size = w.heap.size + 5 by rw [hz2, set_size, HZ.out, ZW.out])
  have ER := Lib.hid (show Row w2 g hs by rw [G.out]; exact HR2.out)
  clear hp d hz2 hg2 a0 a2 a3 Z0 Z1 Y0 Y1 Y2 b2 hr2
  go_wp2
  refine bodyPost_ret (v := .agg #[.slice (some ⟨g, 0, none⟩) hs.length hs.length, .slice (some ⟨g2, 0, none⟩) l.length l.length]) (by simp [results, Try.results24, go_sem, z0, z1, z2, z3, z4, z5, z6, z7]) rfl ?_
  refine ⟨by rw [E1.out, E2.out], ⟨?_, ?_⟩, ?_, ?_⟩
  · have := ER.out
    rw [E1.out] at this ⊢
    exact ((this.set_other (by (try simp) <;> omega)).set_other (by (try simp) <;> omega)).set_other (by (try simp) <;> omega)
  · have := HP.out
    rw [E2.out] at this ⊢
    exact ((this.set_other (by (try simp) <;> omega)).set_other (by (try simp) <;> omega)).set_other (by (try simp) <;> omega)
  · exact Below.setCell (Below.setCell (Below.setCell HD.out (by (try simp) <;> omega) _) (by (try simp) <;> omega) _) (by (try simp) <;> omega) _
  · rw [set_size, set_size, set_size]; exact LZ.out

set_option maxHeartbeats 1000000 in
set_option maxRecDepth 100000 in
theorem eqBinding_b (H A H' A' : Option Addr) (ch c ch' c' : Nat) (hs l : List Int) (hh : hs.length ≤ 1048576) (hl : l.length ≤ 1048576) (w : World) (h1 : RI w H hs) (h2 : RI w A l) (h3 : RI w H' hs) (h4 : RI w A' l) :
    Calls Try.prog 15 #[.agg #[.slice H hs.length ch, .slice A l.length c], .agg #[.slice H' hs.length ch', .slice A' l.length c']] w fun e w' => e = .returned (.bool true) ∧ Below w.heap.size w w' := by
  have B0 := step (below_alloc w (.cells #[.slice H hs.length ch, .slice A l.length c] 29)) (below_alloc _ (.cells #[.slice H' hs.length ch', .slice A' l.length c'] 29))
  have H1 := Lib.hid (h1.step B0)
  have H2 := Lib.hid (h2.step B0)
  have H3 := Lib.hid (h3.step B0)
  have H4 := Lib.hid (h4.step B0)
  have HB0 := Lib.hid B0
  clear h1 h2 h3 h4 B0
  go_enter Try.func15, Try.ntmps15
  go_wp2_with fail
  refine (eqIntS_r H H' ch ch' hs hh _ H1.out H3.out).mono ?_
  rintro e w1 ⟨rfl, d⟩
  have X := Box.of_new2 d
  have x1 := X.1.cell 1
  have x2 := X.2.cell 1
  simp only [List.getElem?_toArray, List.getElem?_cons_zero, List.getElem?_cons_succ] at x1 x2
  have F2 := Lib.hid (H2.out.step d)
  have F4 := Lib.hid (H4.out.step d)
  have D1 := Lib.hid (step HB0.out d)
  clear X d
  go_wp2_with fail
  refine (eqIntS_r A A' c c' l hl _ F2.out F4.out).mono ?_
  rintro e w2 ⟨rfl, d⟩
  have D2 := Lib.hid (step D1.out d)
  clear d x1 x2
  go_wp2
  go_ret
  exact ⟨rfl, D2.out⟩
end Go.Proofs.Ytpdmkdhnidgjoaa
