/- States of what is reached, in memory: opened, sized, copied and compared by the laws. Conditions: none beyond each theorem's own. -/
import Derived.Test.YtnmhppiccganoaaDoorAcc
import Derived.Test.YtnmhppiccganoaaDoorMark2
namespace Go.Proofs.YtnmhppiccganoaaDoor
open Go.ChangeShapes Go.WideShapes Go.ChangeAt Go.RowKit Go.Sort
set_option linter.unusedVariables false
set_option linter.unusedSimpArgs false

section
variable {H : Type} {enc : TypeId × Value → H} {P : Program} {w : World}
theorem array4 {α : Type} {cs : Array α} (h : cs.size = 4) : ∃ c0 c1 c2 c3, cs = #[c0, c1, c2, c3] := by
  obtain ⟨l⟩ := cs
  match l, h with
  | [c0, c1, c2, c3], _ => exact ⟨c0, c1, c2, c3, rfl⟩
theorem trod_struct4 {base : Nat} {spare : Nat → Bool} {held : Bool} {t : TypeId} {f0 f1 f2 f3 : Field} {fuel : Nat} {cs : List Value} {x : DataW H × List MemPlace} (ht : P.underlying t = some (.struct #[f0, f1, f2, f3])) (h : DataW.trod enc P w base spare held fuel t cs = some x) :
    ∃ y0 y1 y2 y3 n, cs.length = P.cellsOf t ∧ DataW.trod enc P w base spare held n f0.type ((cs.drop f0.offset).take (P.cellsOf f0.type)) = some y0 ∧
      DataW.trod enc P w base spare held n f1.type ((cs.drop f1.offset).take (P.cellsOf f1.type)) = some y1 ∧ DataW.trod enc P w base spare held n f2.type ((cs.drop f2.offset).take (P.cellsOf f2.type)) = some y2 ∧
      DataW.trod enc P w base spare held n f3.type ((cs.drop f3.offset).take (P.cellsOf f3.type)) = some y3 := by
  obtain ⟨xs, n, _, rfl, hl, hlen, hf⟩ := DataW.trod_struct ht h
  match xs, hlen with
  | [y0, y1, y2, y3], _ => exact ⟨y0, y1, y2, y3, n, hl, by simpa using hf 0 f0 rfl, by simpa using hf 1 f1 rfl, by simpa using hf 2 f2 rfl, by simpa using hf 3 f3 rfl⟩
end

section
variable {H : Type} {enc : TypeId × Value → H} {w : World}
set_option maxRecDepth 100000 in
theorem open_reachedT {r : Reach} {base : Nat} {v : Value} {dd : DataW H} {p : List MemPlace} (hv : Value.okWide Tryd.prog w r base 27 v) (h : DataW.Trod enc Tryd.prog w 0 (fun _ => true) true 27 v dd p) :
    ∃ (A V L : Option Addr) (c d k : Nat) (fs : FL) (vs : List Int) (ls : FL) (n : Int), v = .agg #[.slice A fs.length c, .slice V vs.length d, .slice L ls.length k, .int .i64 n] ∧ (fs.length ≤ c ∧ vs.length ≤ d ∧ ls.length ≤ k) ∧ (c ≤ maxLen ∧ d ≤ maxLen ∧ k ≤ maxLen) ∧ (RF w A fs ∧ RI w V vs ∧ RF w L ls) := by
  have hC : Tryd.prog.cellsOf 27 = 4 := by kernel_rfl
  obtain ⟨cs, rfl, hsz⟩ := okWide_struct Tryd.underlying27 hv
  obtain ⟨c0, c1, c2, c3, rfl⟩ := array4 (hsz.trans hC)
  obtain ⟨fuel, hf⟩ := h
  have hf' : DataW.trod enc Tryd.prog w 0 (fun _ => true) true fuel 27 [c0, c1, c2, c3] = some (dd, p) := by simpa [Value.cells] using hf
  obtain ⟨y0, y1, y2, y3, n', _, h0, h1, h2, h3⟩ := trod_struct4 Tryd.underlying27 hf'
  have k0 : Tryd.prog.cellsOf 3 = 1 := by kernel_rfl
  have k1 : Tryd.prog.cellsOf 22 = 1 := by kernel_rfl
  have k2 : Tryd.prog.cellsOf 24 = 1 := by kernel_rfl
  have k3 : Tryd.prog.cellsOf 25 = 1 := by kernel_rfl
  simp only [k0, k1, k2, k3] at h0 h1 h2 h3
  simp at h0 h1 h2 h3
  obtain ⟨A, c, fs, rfl, hl, hm, hF⟩ := open_facts_at h0
  obtain ⟨V, d, vs, rfl, hl2, hm2, hI⟩ := open_nums (v := c1) Tryd.underlying22 Tryd.underlying3 k0 h1
  obtain ⟨L, k, ls, rfl, hl3, hm3, hL⟩ := open_accesses_at h2
  obtain ⟨z, hz, hwz, _⟩ := DataW.trod_int Tryd.underlying3 h3
  injection hz with hz
  subst hz
  exact ⟨A, V, L, c, d, k, fs, vs, ls, z, rfl, ⟨hl, hl2, hl3⟩, ⟨hm, hm2, hm3⟩, ⟨hF, hI, hL⟩⟩
end

/-- How many values a state holds. -/
def szC (fs : FL) (vs : List Int) (ls : FL) : Int := szF fs + ((vs.length : Int) + szF ls)
theorem szC_nonneg (fs : FL) (vs : List Int) (ls : FL) : 0 ≤ szC fs vs ls := by have := szF_nonneg fs; have := szF_nonneg ls; unfold szC; omega

set_option maxRecDepth 100000 in
set_option maxHeartbeats 1000000 in
theorem szReached_any (A V L : Option Addr) (c d k : Nat) (fs : FL) (vs : List Int) (ls : FL) (n : Int) (left : Int) (hl : fs.length ≤ 9223372036854775807) (hl2 : vs.length ≤ 9223372036854775807) (hl3 : ls.length ≤ 9223372036854775807) (h0 : 0 ≤ left) (h1 : left ≤ 1048576) (w : World) (h : RF w A fs) (h' : RF w L ls) :
    Calls Tryd.prog 5 #[.agg #[.slice A fs.length c, .slice V vs.length d, .slice L ls.length k, .int .i64 n], .int .i64 left] w fun e w' => e = .returned (.int .i64 (szR left (szC fs vs ls))) ∧ Below w.heap.size w w' := by
  have hn := szF_nonneg fs
  have hn3 := szF_nonneg ls
  have B0 := below_alloc w (.cells #[.slice A fs.length c, .slice V vs.length d, .slice L ls.length k, .int .i64 n] 27)
  have HI := Lib.hid (h.step B0)
  have HL := Lib.hid (h'.step B0)
  have X1 := Lib.hid fun (W : World) (hW : RF W A fs) => szFactS_w A c fs left hl h0 h1 W hW
  clear h h' B0
  by_cases b1 : left - szF fs < 0
  · have E := Lib.hid (szR_neg (left := left) (z := szC fs vs ls) (by unfold szC; omega))
    have E1 := Lib.hid (szR_neg b1)
    rw [E.out]
    go_enter Tryd.func5, Tryd.ntmps5
    go_wp2_with fail
    refine (X1.out _ HI.out).mono ?_
    rintro e w1 ⟨he, d1⟩
    rw [E1.out] at he
    subst he
    have D1 := Lib.hid (below_new d1)
    have XB := Lib.hid (Box.of_new d1)
    have HL1 := Lib.hid (HL.out.step d1)
    have x0 := XB.out.cell 1
    have x1 := XB.out.cell 2
    simp only [List.getElem?_toArray, List.getElem?_cons_zero, List.getElem?_cons_succ] at x0 x1
    clear d1
    go_wp2
    go_ret
    exact ⟨rfl, D1.out⟩
  · have b1' : 0 ≤ left - szF fs := by omega
    have E1 := Lib.hid (szR_pos b1)
    by_cases b2 : left - szF fs - (vs.length : Int) < 0
    · have E := Lib.hid (szR_neg (left := left) (z := szC fs vs ls) (by unfold szC; omega))
      have E2 := Lib.hid (if_pos b2 : (if left - szF fs - (vs.length : Int) < 0 then (-1 : Int) else left - szF fs - (vs.length : Int)) = -1)
      rw [E.out]
      go_enter Tryd.func5, Tryd.ntmps5
      go_wp2_with fail
      refine (X1.out _ HI.out).mono ?_
      rintro e w1 ⟨he, d1⟩
      rw [E1.out] at he
      subst he
      have D1 := Lib.hid (below_new d1)
      have XB := Lib.hid (Box.of_new d1)
      have HL1 := Lib.hid (HL.out.step d1)
      have x0 := XB.out.cell 1
      have x1 := XB.out.cell 2
      simp only [List.getElem?_toArray, List.getElem?_cons_zero, List.getElem?_cons_succ] at x0 x1
      clear d1
      go_wp2_with fail
      refine (szIntS_any V d vs.length (left - szF fs) hl2 (by omega) (by omega) _).mono ?_
      rintro e w2 ⟨he, rfl⟩
      rw [E2.out] at he
      subst he
      go_wp2
      go_ret
      exact ⟨rfl, D1.out⟩
    · have b2' : 0 ≤ left - szF fs - (vs.length : Int) := by omega
      have E2 := Lib.hid (if_neg b2 : (if left - szF fs - (vs.length : Int) < 0 then (-1 : Int) else left - szF fs - (vs.length : Int)) = left - szF fs - (vs.length : Int))
      have X3 := Lib.hid fun (W : World) (hW : RF W L ls) => szAccessS_w L k ls (left - szF fs - (vs.length : Int)) hl3 b2' (by omega) W hW
      by_cases b3 : left - szF fs - (vs.length : Int) - szF ls < 0
      · have E := Lib.hid (szR_neg (left := left) (z := szC fs vs ls) (by unfold szC; omega))
        have E3 := Lib.hid (szR_neg b3)
        rw [E.out]
        go_enter Tryd.func5, Tryd.ntmps5
        go_wp2_with fail
        refine (X1.out _ HI.out).mono ?_
        rintro e w1 ⟨he, d1⟩
        rw [E1.out] at he
        subst he
        have D1 := Lib.hid (below_new d1)
        have XB := Lib.hid (Box.of_new d1)
        have HL1 := Lib.hid (HL.out.step d1)
        have x0 := XB.out.cell 1
        have x1 := XB.out.cell 2
        simp only [List.getElem?_toArray, List.getElem?_cons_zero, List.getElem?_cons_succ] at x0 x1
        clear d1
        go_wp2_with fail
        refine (szIntS_any V d vs.length (left - szF fs) hl2 (by omega) (by omega) _).mono ?_
        rintro e w2 ⟨he, rfl⟩
        rw [E2.out] at he
        subst he
        go_wp2_with fail
        refine (X3.out _ HL1.out).mono ?_
        rintro e w3 ⟨he, d3⟩
        rw [E3.out] at he
        subst he
        have D3 := Lib.hid (step D1.out d3)
        clear d3 x0 x1
        go_wp2
        go_ret
        exact ⟨rfl, D3.out⟩
      · have b3' : 0 ≤ left - szF fs - (vs.length : Int) - szF ls := by omega
        have E := Lib.hid (show szR left (szC fs vs ls) = left - szF fs - (vs.length : Int) - szF ls by rw [szR_pos (by unfold szC; omega)]; unfold szC; omega)
        have E3 := Lib.hid (szR_pos b3)
        rw [E.out]
        go_enter Tryd.func5, Tryd.ntmps5
        go_wp2_with fail
        refine (X1.out _ HI.out).mono ?_
        rintro e w1 ⟨he, d1⟩
        rw [E1.out] at he
        subst he
        have D1 := Lib.hid (below_new d1)
        have XB := Lib.hid (Box.of_new d1)
        have HL1 := Lib.hid (HL.out.step d1)
        have x0 := XB.out.cell 1
        have x1 := XB.out.cell 2
        simp only [List.getElem?_toArray, List.getElem?_cons_zero, List.getElem?_cons_succ] at x0 x1
        clear d1
        go_wp2_with fail
        refine (szIntS_any V d vs.length (left - szF fs) hl2 (by omega) (by omega) _).mono ?_
        rintro e w2 ⟨he, rfl⟩
        rw [E2.out] at he
        subst he
        go_wp2_with fail
        refine (X3.out _ HL1.out).mono ?_
        rintro e w3 ⟨he, d3⟩
        rw [E3.out] at he
        subst he
        have D3 := Lib.hid (step D1.out d3)
        clear d3 x0 x1
        go_wp2
        go_ret
        exact ⟨rfl, D3.out⟩

/-- Accesses of the call's own. -/
def PXa (w : World) (lo hi g m : Nat) (fs : FL) : Prop := OwnPa w lo hi g m fs.length fs ∧ hi ≤ w.heap.size ∧ fs.length * 2 ≤ m
theorem OwnPa.keep {w w' : World} {lo hi g m k : Nat} {fs : FL} (h : OwnPa w lo hi g m k fs) (hk : ∀ b, lo ≤ b → b < hi → w'.heap[b]? = w.heap[b]?) : OwnPa w' lo hi g m k fs := by
  obtain ⟨h1, h2, F, bs, hr, hf, hd⟩ := h
  exact ⟨h1, h2, F, bs, World.rowIs.of_block hr (hk g h1 h2), fun j hj => ⟨(hf j hj).1, (hf j hj).2.keep fun a b c => hk _ a b⟩, hd⟩
theorem PXa.step {w w' : World} {lo hi g m : Nat} {fs : FL} (h : PXa w lo hi g m fs) (b : Below w.heap.size w w') : PXa w' lo hi g m fs :=
  ⟨h.1.keep fun q _ hq => b.block q (by have := h.2.1; omega), Nat.le_trans h.2.1 b.size, h.2.2⟩
theorem PXa.keep {w w' : World} {lo hi g m : Nat} {fs : FL} (h : PXa w lo hi g m fs) (hk : ∀ b, lo ≤ b → b < hi → w'.heap[b]? = w.heap[b]?) (hs : w.heap.size ≤ w'.heap.size) : PXa w' lo hi g m fs :=
  ⟨h.1.keep hk, Nat.le_trans h.2.1 hs, h.2.2⟩
theorem PXa.rf {w : World} {lo hi g m : Nat} {fs : FL} (h : PXa w lo hi g m fs) : RF w (some ⟨g, 0, none⟩) fs := (h.1.facts h.2.2).mono (Nat.zero_le _) h.2.1
theorem toAccessS_p (A : Option Addr) (c : Nat) (fs : FL) (hz : szF fs ≤ 1048576) (w : World) (h : RF w A fs) :
    Calls Tryd.prog 29 #[.slice A fs.length c] w fun e w' => e = .returned (.slice (some ⟨w.heap.size, 0, none⟩) fs.length fs.length) ∧ PXa w' w.heap.size w'.heap.size w.heap.size (fs.length * 2) fs ∧ Below w.heap.size w w' ∧ w.heap.size < w'.heap.size :=
  (toAccessS_any A c fs hz w h).mono fun _ _ ⟨a, b, c, d⟩ => ⟨a, ⟨b, Nat.le_refl _, Nat.le_refl _⟩, c, d⟩


/-- A state of the call's own: its facts in blocks from g to below v, its values in block v, its accesses behind it to below hi. -/
def RX (w : World) (g v hi : Nat) (fs : FL) (vs : List Int) (ls : FL) : Prop := PX w g v g (fs.length * 2) fs ∧ Row w v vs ∧ PXa w (v + 1) hi (v + 1) (ls.length * 2) ls
theorem RX.step {w w' : World} {g v hi : Nat} {fs : FL} {vs : List Int} {ls : FL} (h : RX w g v hi fs vs ls) (b : Below w.heap.size w w') : RX w' g v hi fs vs ls := ⟨h.1.step b, h.2.1.step b, h.2.2.step b⟩
theorem RX.lt {w : World} {g v hi : Nat} {fs : FL} {vs : List Int} {ls : FL} (h : RX w g v hi fs vs ls) : g < v ∧ v + 1 < hi ∧ hi ≤ w.heap.size := ⟨h.1.1.2.1, h.2.2.1.2.1, h.2.2.2.1⟩
theorem RX.keep {w w' : World} {g v hi : Nat} {fs : FL} {vs : List Int} {ls : FL} (h : RX w g v hi fs vs ls) (hk : ∀ b, g ≤ b → b < hi → w'.heap[b]? = w.heap[b]?) (hs : w.heap.size ≤ w'.heap.size) : RX w' g v hi fs vs ls := by
  have hlt := h.lt
  exact ⟨h.1.keep (fun b h1 h2 => hk b h1 (by omega)) hs, h.2.1.of_block (hk v (by omega) (by omega)), h.2.2.keep (fun b h1 h2 => hk b (by omega) h2) hs⟩
theorem RX.rf {w : World} {g v hi : Nat} {fs : FL} {vs : List Int} {ls : FL} (h : RX w g v hi fs vs ls) : RF w (some ⟨g, 0, none⟩) fs := h.1.rf
theorem RX.ri {w : World} {g v hi : Nat} {fs : FL} {vs : List Int} {ls : FL} (h : RX w g v hi fs vs ls) : RI w (some ⟨v, 0, none⟩) vs := h.2.1.ri
theorem RX.rl {w : World} {g v hi : Nat} {fs : FL} {vs : List Int} {ls : FL} (h : RX w g v hi fs vs ls) : RF w (some ⟨v + 1, 0, none⟩) ls := h.2.2.rf

set_option maxHeartbeats 1500000 in
set_option maxRecDepth 100000 in
theorem toReached_r (A V L : Option Addr) (c d k : Nat) (fs : FL) (vs : List Int) (ls : FL) (n : Int) (hz : szF fs ≤ 1048576) (hv : vs.length ≤ 1048576) (hz' : szF ls ≤ 1048576) (w : World) (h1 : RF w A fs) (h2 : RI w V vs) (h3 : RF w L ls) :
    Calls Tryd.prog 9 #[.agg #[.slice A fs.length c, .slice V vs.length d, .slice L ls.length k, .int .i64 n]] w fun e w' =>
      ∃ v, e = .returned (.agg #[.slice (some ⟨w.heap.size + 3, 0, none⟩) fs.length fs.length, .slice (some ⟨v, 0, none⟩) vs.length vs.length, .slice (some ⟨v + 1, 0, none⟩) ls.length ls.length, .int .i64 n]) ∧ RX w' (w.heap.size + 3) v w'.heap.size fs vs ls ∧ Below w.heap.size w w' ∧ w.heap.size + 4 < w'.heap.size := by
  obtain ⟨W, hW⟩ : ∃ W, W = ((w.alloc (.cells #[.slice A fs.length c, .slice V vs.length d, .slice L ls.length k, .int .i64 n] 27)).alloc (.cells #[.slice none 0 0, .slice none 0 0, .slice none 0 0, .int .i64 0] 37)).alloc (.cells #[.slice none 0 0, .slice none 0 0, .slice none 0 0, .int .i64 0] 37) := ⟨_, rfl⟩
  have BW := Lib.hid (show Below w.heap.size w W by rw [hW]; exact step (step (below_alloc _ _) (below_alloc _ _)) (below_alloc _ _))
  have ZW := Lib.hid (show W.heap.size = w.heap.size + 3 by rw [hW]; simp)
  have X0 : Box W w.heap.size #[.slice A fs.length c, .slice V vs.length d, .slice L ls.length k, .int .i64 n] 27 := by rw [hW]; exact ((Box.new w _ _).step (below_alloc _ _)).step (below_alloc _ _)
  have X1 : Box W (w.heap.size + 1) #[.slice none 0 0, .slice none 0 0, .slice none 0 0, .int .i64 0] 37 := by
    have h1 := (Box.new (w.alloc (.cells #[.slice A fs.length c, .slice V vs.length d, .slice L ls.length k, .int .i64 n] 27)) #[.slice none 0 0, .slice none 0 0, .slice none 0 0, .int .i64 0] 37).step (below_alloc _ (.cells #[.slice none 0 0, .slice none 0 0, .slice none 0 0, .int .i64 0] 37))
    rw [hW]; simpa using h1
  have X2 : Box W (w.heap.size + 2) #[.slice none 0 0, .slice none 0 0, .slice none 0 0, .int .i64 0] 37 := by
    have h1 := Box.new ((w.alloc (.cells #[.slice A fs.length c, .slice V vs.length d, .slice L ls.length k, .int .i64 n] 27)).alloc (.cells #[.slice none 0 0, .slice none 0 0, .slice none 0 0, .int .i64 0] 37)) #[.slice none 0 0, .slice none 0 0, .slice none 0 0, .int .i64 0] 37
    rw [hW]; simpa using h1
  have HX0 := Lib.hid X0
  have HX1 := Lib.hid X1
  have HX2 := Lib.hid X2
  have HF := Lib.hid (h1.step BW.out)
  have HI := Lib.hid h2
  have HL := Lib.hid h3
  have EW := Lib.hid hW
  clear h1 h2 h3 X0 X1 X2 hW
  go_enter Tryd.func9, Tryd.ntmps9
  go_wp2_with fail
  rw [← EW.out]
  refine (toFactS_p A c fs hz _ HF.out).mono ?_
  rintro e w1 ⟨rfl, hr, hb, hz1⟩
  have HR := Lib.hid hr
  have HZ := Lib.hid hz1
  have Y0 := Lib.hid (HX0.out.step hb)
  have Y1 := Lib.hid (HX1.out.step hb)
  have Y2 := Lib.hid (HX2.out.step hb)
  have a0 := Y0.out.cell 1
  have a2 := Y2.out.cell 0
  have a3 := Y2.out.frozen 0
  simp only [List.getElem?_toArray, List.getElem?_cons_zero, List.getElem?_cons_succ] at a0 a2
  obtain ⟨g, hg⟩ : ∃ g, g = W.heap.size := ⟨_, rfl⟩
  rw [← hg]
  have G := Lib.hid hg
  have L1 : w.heap.size + 2 < w1.heap.size := Y2.out.lt
  have BX := Lib.hid (show Below w.heap.size w (w1.setCell ⟨w.heap.size + 2, 0, none⟩ (.slice (some ⟨g, 0, none⟩) fs.length fs.length)) from (step BW.out hb).setCell (by simp) _)
  clear hr hb hz1 hg
  go_wp2_with fail
  refine (toIntS_r V d vs hv _ (HI.out.step BX.out)).mono ?_
  rintro e w2 ⟨rfl, hp, d2, hz2⟩
  have Z0 := Lib.hid (((Y2.out.set 0 (.slice (some ⟨g, 0, none⟩) fs.length fs.length))).step d2)
  have Z1 := Lib.hid ((Y1.out.set_other (p := ⟨w.heap.size + 2, 0, none⟩) (u := .slice (some ⟨g, 0, none⟩) fs.length fs.length) (by simp)).step d2)
  have ZA := Lib.hid ((Y0.out.set_other (p := ⟨w.heap.size + 2, 0, none⟩) (u := .slice (some ⟨g, 0, none⟩) fs.length fs.length) (by simp)).step d2)
  have HP := Lib.hid hp
  have HR2 := Lib.hid ((show PX (w1.setCell ⟨w.heap.size + 2, 0, none⟩ (.slice (some ⟨g, 0, none⟩) fs.length fs.length)) W.heap.size w1.heap.size W.heap.size (fs.length * 2) fs from HR.out.keep (fun b h1 h2 => Below.heap_setCell _ _ _ b (by have := ZW.out; (try simp); omega)) (by simp [set_size])).step d2)
  have b0 := ZA.out.cell 2
  have b2 := Z0.out.cell 1
  have b3 := Z0.out.frozen 1
  simp only [List.setIfInBounds_toArray, List.set_cons_zero, List.getElem?_toArray, List.getElem?_cons_zero, List.getElem?_cons_succ] at b0 b2
  have L2 : w.heap.size + 2 < w2.heap.size := Z0.out.lt
  obtain ⟨g2, hg2⟩ : ∃ g2, g2 = (w1.setCell ⟨w.heap.size + 2, 0, none⟩ (.slice (some ⟨g, 0, none⟩) fs.length fs.length)).heap.size := ⟨_, rfl⟩
  rw [← hg2] at HP ⊢
  have E2 := Lib.hid (show g2 = w1.heap.size by rw [hg2, set_size])
  have EZ2 := Lib.hid (show w2.heap.size = w1.heap.size + 1 by rw [hz2, set_size])
  have BX2 := Lib.hid (show Below w.heap.size w (w2.setCell ⟨w.heap.size + 2, 1, none⟩ (.slice (some ⟨g2, 0, none⟩) vs.length vs.length)) from (step BX.out d2).setCell (by simp) _)
  clear hp d2 hz2 hg2 a0 a2 a3 Y0 Y1 Y2
  go_wp2_with fail
  refine (toAccessS_p L k ls hz' _ (HL.out.step BX2.out)).mono ?_
  rintro e w3 ⟨rfl, hp, d3, hz3⟩
  have U0 := Lib.hid (((Z0.out.set 1 (.slice (some ⟨g2, 0, none⟩) vs.length vs.length))).step d3)
  have U1 := Lib.hid ((Z1.out.set_other (p := ⟨w.heap.size + 2, 1, none⟩) (u := .slice (some ⟨g2, 0, none⟩) vs.length vs.length) (by simp)).step d3)
  have UA := Lib.hid ((ZA.out.set_other (p := ⟨w.heap.size + 2, 1, none⟩) (u := .slice (some ⟨g2, 0, none⟩) vs.length vs.length) (by simp)).step d3)
  have HQ := Lib.hid hp
  have HR3 := Lib.hid ((show PX (w2.setCell ⟨w.heap.size + 2, 1, none⟩ (.slice (some ⟨g2, 0, none⟩) vs.length vs.length)) W.heap.size w1.heap.size W.heap.size (fs.length * 2) fs from HR2.out.keep (fun b h1 h2 => Below.heap_setCell _ _ _ b (by have := ZW.out; (try simp); omega)) (by simp [set_size])).step d3)
  have HP3 := Lib.hid ((HP.out.set_other (p := ⟨w.heap.size + 2, 1, none⟩) (u := .slice (some ⟨g2, 0, none⟩) vs.length vs.length) (by have := E2.out; (try simp); omega)).step d3)
  have HD := Lib.hid (step BX2.out d3)
  have z0 := U0.out.cell 0
  have z1 := U0.out.cell 1
  have z2 := U0.out.cell 2
  have z3 := U0.out.cell 3
  have y0 := U0.out.frozen 0
  have y1 := U0.out.frozen 1
  have y2 := U0.out.frozen 2
  have y3 := U0.out.frozen 3
  have t0 := U1.out.cell 0
  have t1 := U1.out.cell 1
  have t2 := U1.out.cell 2
  have t3 := U1.out.cell 3
  have s0 := U1.out.frozen 0
  have s1 := U1.out.frozen 1
  have s2 := U1.out.frozen 2
  have s3 := U1.out.frozen 3
  have c3 := UA.out.cell 3
  simp only [List.setIfInBounds_toArray, List.set_cons_zero, List.set_cons_succ, List.getElem?_toArray, List.getElem?_cons_zero, List.getElem?_cons_succ] at z0 z1 z2 z3 t0 t1 t2 t3 c3
  have L3 : w.heap.size + 2 < w3.heap.size := U0.out.lt
  obtain ⟨g3, hg3⟩ : ∃ g3, g3 = (w2.setCell ⟨w.heap.size + 2, 1, none⟩ (.slice (some ⟨g2, 0, none⟩) vs.length vs.length)).heap.size := ⟨_, rfl⟩
  rw [← hg3] at HQ ⊢
  have E3 := Lib.hid (show g3 = g2 + 1 by rw [hg3, set_size, EZ2.out, E2.out])
  have E1 := Lib.hid (show g = w.heap.size + 3 by rw [G.out, ZW.out])
  have LZ := Lib.hid (show w.heap.size + 4 < w3.heap.size by have h4 := EZ2.out; have h5 := ZW.out; have h6 := HZ.out; rw [set_size] at hz3; omega)
  have EX := Lib.hid (show RX w3 (w.heap.size + 3) g2 w3.heap.size fs vs ls from ⟨by have := HR3.out; rw [ZW.out, ← E2.out] at this; exact this, HP3.out, by have := HQ.out; rw [E3.out] at this; exact this⟩)
  have B3 := Lib.hid (show w1.heap.size = g2 from E2.out.symm)
  clear hp d3 hz3 hg3 b0 b2 b3 Z0 Z1 ZA
  go_wp2
  refine bodyPost_ret (v := .agg #[.slice (some ⟨g, 0, none⟩) fs.length fs.length, .slice (some ⟨g2, 0, none⟩) vs.length vs.length, .slice (some ⟨g3, 0, none⟩) ls.length ls.length, .int .i64 n]) (by simp [results, Tryd.results9, go_sem, z0, z1, z2, z3, y0, y1, y2, y3, t0, t1, t2, t3, s0, s1, s2, s3]) rfl ?_
  refine ⟨g2, by rw [E1.out, E3.out], ?_, ?_, ?_⟩
  · refine (show RX w3 (w.heap.size + 3) g2 _ fs vs ls from by simpa only [set_size] using EX.out).keep (fun b h1 h2 => ?_) (by simp [set_size])
    iterate 6 (refine (Below.heap_setCell _ _ _ b (by (try simp); omega)).trans ?_)
    rfl
  · repeat (refine Below.setCell ?_ (by (try simp) <;> omega) _)
    exact HD.out
  · simp only [set_size]; exact LZ.out

set_option maxHeartbeats 1000000 in
set_option maxRecDepth 100000 in
theorem eqReached_r (A V L A' V' L' : Option Addr) (c d k c' d' k' : Nat) (fs : FL) (vs : List Int) (ls : FL) (n : Int) (hz : szF fs ≤ 1048576) (hv : vs.length ≤ 1048576) (hz' : szF ls ≤ 1048576) (w : World) (h1 : RF w A fs) (h2 : RI w V vs) (h3 : RF w L ls) (h4 : RF w A' fs) (h5 : RI w V' vs) (h6 : RF w L' ls) :
    Calls Tryd.prog 14 #[.agg #[.slice A fs.length c, .slice V vs.length d, .slice L ls.length k, .int .i64 n], .agg #[.slice A' fs.length c', .slice V' vs.length d', .slice L' ls.length k', .int .i64 n]] w fun e w' => e = .returned (.bool true) ∧ Below w.heap.size w w' := by
  have B0 := step (below_alloc w (.cells #[.slice A fs.length c, .slice V vs.length d, .slice L ls.length k, .int .i64 n] 37)) (below_alloc _ (.cells #[.slice A' fs.length c', .slice V' vs.length d', .slice L' ls.length k', .int .i64 n] 37))
  have H1 := Lib.hid (h1.step B0)
  have H2 := Lib.hid (h2.step B0)
  have H3 := Lib.hid (h3.step B0)
  have H4 := Lib.hid (h4.step B0)
  have H5 := Lib.hid (h5.step B0)
  have H6 := Lib.hid (h6.step B0)
  have HB0 := Lib.hid B0
  clear h1 h2 h3 h4 h5 h6 B0
  go_enter Tryd.func14, Tryd.ntmps14
  go_wp2_with fail
  refine (eqFactS_r A A' c c' fs hz _ H1.out H4.out).mono ?_
  rintro e w1 ⟨rfl, dd⟩
  have X := Box.of_new2 dd
  have XA := Lib.hid X.1
  have XB := Lib.hid X.2
  have x1 := X.1.cell 1
  have x2 := X.2.cell 1
  simp only [List.getElem?_toArray, List.getElem?_cons_zero, List.getElem?_cons_succ] at x1 x2
  have F2 := Lib.hid (H2.out.step dd)
  have F5 := Lib.hid (H5.out.step dd)
  have F3 := Lib.hid (H3.out.step dd)
  have F6 := Lib.hid (H6.out.step dd)
  have D1 := Lib.hid (step HB0.out dd)
  clear X dd
  go_wp2_with fail
  refine (eqIntS_r V V' d d' vs hv _ F2.out F5.out).mono ?_
  rintro e w2 ⟨rfl, dd⟩
  have YA := Lib.hid (XA.out.step dd)
  have YB := Lib.hid (XB.out.step dd)
  have G3 := Lib.hid (F3.out.step dd)
  have G6 := Lib.hid (F6.out.step dd)
  have D2 := Lib.hid (step D1.out dd)
  clear dd x1 x2
  have x1 := YA.out.cell 2
  have x2 := YB.out.cell 2
  simp only [List.getElem?_toArray, List.getElem?_cons_zero, List.getElem?_cons_succ] at x1 x2
  go_wp2_with fail
  refine (eqAccessS_r L L' k k' ls hz' _ G3.out G6.out).mono ?_
  rintro e w3 ⟨rfl, dd⟩
  have x3 := (YA.out.step dd).cell 3
  have x4 := (YB.out.step dd).cell 3
  simp only [List.getElem?_toArray, List.getElem?_cons_zero, List.getElem?_cons_succ] at x3 x4
  have D3 := Lib.hid (step D2.out dd)
  clear dd x1 x2
  go_wp2
  go_ret
  exact ⟨rfl, by first | exact D3.out | exact D3.out.drew⟩
end Go.Proofs.YtnmhppiccganoaaDoor

