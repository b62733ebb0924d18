/- What the program reads of a method's text. Conditions: none beyond each theorem's own. -/
import Derived.Test.YtenondgjipmhnaaDoorMpP
import Derived.Deep.RegionLaw
import Derived.Deep.RegionHeld3
namespace Go.Proofs.YtenondgjipmhnaaDoor
open Go.ChangeShapes Go.WideShapes Go.ChangeAt Go.RowKit Go.Sort
set_option linter.unusedVariables false
set_option linter.unusedSimpArgs false

/-- What parseListOr answers with ParseInt. -/
def LsOut (w : World) (word s : ByteArray) (e : Ending) (w' : World) : Prop :=
  ∃ A c ok q xs, e = .returned (.tuple #[.slice A xs.length c, .bool ok]) ∧ OwnV w' w.heap.size w'.heap.size (.slice A xs.length c) q xs ∧ Below w.heap.size w w' ∧ xs.length ≤ s.size + 1 ∧ (s = word → xs = []) ∧ (s ≠ word → allN (wordsI s) → xs = nums (wordsI s))
set_option maxRecDepth 100000 in
set_option maxHeartbeats 1000000 in
theorem parseListOr_int (s : ByteArray) (m : Int) (hs : s.size ≤ 1048576) (w : World) (hm : w.cell? ⟨0, 0, none⟩ = some (.int .i64 m)) (ht : Tab w) :
    Calls Tryd.prog 52 #[.string freeB, .string s, .func (.func 50) #[] #[]] w (LsOut w freeB s) := by
  have XL := Lib.hid (parseList_int s m hs w hm ht)
  clear hm ht
  have EF : freeB = ⟨#[102, 114, 101, 101]⟩ := rfl
  go_enter Tryd.func52, Tryd.ntmps52
  by_cases hf : s = freeB
  · have f1 : (s.toList == [102, 114, 101, 101]) = true := by rw [hf]; decide +kernel
    have f2 : s.toList = [102, 114, 101, 101] := by simpa using f1
    go_wp2
    refine bodyPost_ret (v := .tuple #[.slice none 0 0, .bool true]) (by simp [results, Tryd.results52, go_sem]) rfl ?_
    exact ⟨none, 0, true, 0, [], rfl, ownV_nil _ _ _, Below.refl _ _, by simp, fun _ => rfl, fun h => absurd hf h⟩
  · have f1 : (s.toList == [102, 114, 101, 101]) = false := by
      simp only [beq_eq_false_iff_ne, ne_eq]
      intro h
      exact hf (by
        rw [ByteArray.toList_eq] at h
        apply ByteArray.ext; apply Array.toList_inj.1; exact h)
    have f2 : ¬ s.toList = [102, 114, 101, 101] := by simpa using f1
    go_wp2_with fail
    refine XL.out.mono ?_
    rintro e w1 ⟨A, c, ok, q, xs, rfl, hv, d, hl, ho, hx⟩
    have OO := Lib.hid (show LsOut w freeB s (.returned (.tuple #[.slice A xs.length c, .bool ok])) w1 from ⟨A, c, ok, q, xs, rfl, hv, d, hl, fun h => absurd h hf, fun _ h => hx (ho.2 h)⟩)
    clear hv d hl ho hx
    go_wp2
    refine bodyPost_ret (v := .tuple #[.slice A xs.length c, .bool ok]) (by simp [results, Tryd.results52, go_sem]) rfl ?_
    exact OO.out

def RmOut (w : World) (ws : List ByteArray) (e : Ending) (w' : World) : Prop :=
  (ws.length ≠ 9 ∧ e = .returned (.tuple #[.agg #[.int .i64 0, .slice none 0 0, .int .i64 0, .int .i64 0, .int .i64 0], .bool false]) ∧ Below w.heap.size w w') ∨
  (ws.length = 9 ∧ ∃ (A : Option Addr) (c q : Nat) (m : Met), e = .returned (.tuple #[.agg #[.int .i64 m.1, .slice A m.2.1.length c, .int .i64 m.2.2.1, .int .i64 m.2.2.2.1, .int .i64 m.2.2.2.2], .bool true]) ∧ OwnV w' w.heap.size w'.heap.size (.slice A m.2.1.length c) q m.2.1 ∧ Below w.heap.size w w' ∧ m.2.1.length ≤ 1048576 ∧ ReadI ws m)
set_option maxRecDepth 100000 in
set_option maxHeartbeats 8000000 in
theorem readMethod_any (g1 cw : Nat) (ws : List ByteArray) (hlw : ws.length ≤ 1048577) (hsz : szB ws ≤ 1048577) (m : Int) (w : World) (hr : g1 < w.heap.size) (hc : ∀ k, k < ws.length → w.cell? ⟨g1, k, none⟩ = some (.string (ws.getD k ⟨#[]⟩))) (hm : w.cell? ⟨0, 0, none⟩ = some (.int .i64 m)) (ht : Tab w) :
    Calls Tryd.prog 32 #[.slice (some ⟨g1, 0, none⟩) ws.length cw] w (RmOut w ws) := by
  have HT := Lib.hid (Lib.tabBelow_of_tabIs ht)
  have B0 := Lib.hid (below_alloc w (.cells #[.int .i64 0, .slice none 0 0, .int .i64 0, .int .i64 0, .int .i64 0] 27))
  have X0 := Lib.hid (Box.new w #[.int .i64 0, .slice none 0 0, .int .i64 0, .int .i64 0, .int .i64 0] 27)
  have HM := Lib.hid (fun (W : World) (hW : Below w.heap.size w W) => (hW.cell (p := ⟨0, 0, none⟩) (by show 0 < w.heap.size; omega)).trans hm)
  clear hm ht
  go_enter Tryd.func32, Tryd.ntmps32
  go_wp2_with fail
  refine (methodNumbers_any _).mono ?_
  rintro e w1 ⟨rfl, hT, d1⟩
  rw [al_size] at hT
  rw [al_size]
  have B1 := Lib.hid (step B0.out d1)
  have X1 := Lib.hid (X0.out.step d1)
  have T1 := Lib.hid hT
  have nT := hT.lt
  have n1 := d1.size
  rw [al_size] at n1
  clear hT d1 B0 X0
  by_cases h9 : ws.length = 9
  · rw [h9]
    have c0 := (B1.out.cell (p := ⟨g1, 0, none⟩) hr).trans (hc 0 (by omega))
    have z0 := nine_size (k := 0) (n := 1048576) hsz h9 (by omega)
    have c2 := (B1.out.cell (p := ⟨g1, 2, none⟩) hr).trans (hc 2 (by omega))
    have z2 := nine_size (k := 2) (n := 1048576) hsz h9 (by omega)
    have c4 := (B1.out.cell (p := ⟨g1, 4, none⟩) hr).trans (hc 4 (by omega))
    have z4 := nine_size (k := 4) (n := 1048576) hsz h9 (by omega)
    have c6 := (B1.out.cell (p := ⟨g1, 6, none⟩) hr).trans (hc 6 (by omega))
    have z6 := nine_size (k := 6) (n := 1048576) hsz h9 (by omega)
    have c8 := (B1.out.cell (p := ⟨g1, 8, none⟩) hr).trans (hc 8 (by omega))
    have z8 := nine_size (k := 8) (n := 1048576) hsz h9 (by omega)
    have RD := Lib.hid (show ∀ xs, (ws.getD 2 ⟨#[]⟩ = freeB → xs = []) → (ws.getD 2 ⟨#[]⟩ ≠ freeB → allN (wordsI (ws.getD 2 ⟨#[]⟩)) → xs = nums (wordsI (ws.getD 2 ⟨#[]⟩))) → ReadI ws (parN ⟨(Lib.trimPrefix (ws.getD 0 ⟨#[]⟩).data.toList [114]).toArray⟩, xs, parN (ws.getD 4 ⟨#[]⟩), parN (ws.getD 6 ⟨#[]⟩), parN (ws.getD 8 ⟨#[]⟩)) from fun xs h1 h2 => ⟨rfl, rfl, rfl, rfl, h1, h2⟩)
    have H9 := Lib.hid h9
    clear hsz h9 hc
    generalize ws.getD 0 ⟨#[]⟩ = x0 at c0 z0 RD
    generalize ws.getD 2 ⟨#[]⟩ = x2 at c2 z2 RD
    generalize ws.getD 4 ⟨#[]⟩ = x4 at c4 z4 RD
    generalize ws.getD 6 ⟨#[]⟩ = x6 at c6 z6 RD
    generalize ws.getD 8 ⟨#[]⟩ = x8 at c8 z8 RD
    have XT := Lib.hid (fun (W : World) => (show Calls Tryd.prog 51 #[.string x0, .string ⟨#[114]⟩] W fun e w' => e = .returned (.string ⟨(Lib.trimPrefix x0.data.toList [114]).toArray⟩) ∧ w' = W from Tryd.strings_TrimPrefix x0 ⟨#[114]⟩ W))
    have zt : (⟨(Lib.trimPrefix x0.data.toList [114]).toArray⟩ : ByteArray).size ≤ 1048576 := by
      have := Lib.trimPrefix_le x0.data.toList [114]
      have h2 : x0.data.toList.length = x0.size := Array.length_toList
      rw [size_mk]
      omega
    generalize (⟨(Lib.trimPrefix x0.data.toList [114]).toArray⟩ : ByteArray) = y0 at XT zt RD
    have XN0 := Lib.hid (fun (W : World) (hW : Below w.heap.size w W) => impl_ParseInt y0 zt W (HT.out W hW))
    have XN4 := Lib.hid (fun (W : World) (hW : Below w.heap.size w W) => impl_ParseInt x4 (by omega) W (HT.out W hW))
    have XN6 := Lib.hid (fun (W : World) (hW : Below w.heap.size w W) => impl_ParseInt x6 (by omega) W (HT.out W hW))
    have XN8 := Lib.hid (fun (W : World) (hW : Below w.heap.size w W) => impl_ParseInt x8 (by omega) W (HT.out W hW))
    have XL := Lib.hid (fun (W : World) (hW : Below w.heap.size w W) => parseListOr_int x2 m (by omega) W (HM.out W hW) (HT.out W hW))
    have EF : freeB = ⟨#[102, 114, 101, 101]⟩ := rfl
    generalize parN y0 = r at XN0 RD
    generalize parN x4 = li at XN4 RD
    generalize parN x6 = co at XN6 RD
    generalize parN x8 = qu at XN8 RD
    generalize parB y0 = p0 at XN0
    generalize parB x4 = p4 at XN4
    generalize parB x6 = p6 at XN6
    generalize parB x8 = p8 at XN8
    obtain ⟨w2, hw2⟩ : ∃ W, W = w1.alloc (.cells #[.int .i64 0, .slice none 0 0, .int .i64 0, .int .i64 0, .int .i64 0] 27) := ⟨_, rfl⟩
    have E2 := Lib.hid hw2
    have d2 : Below w1.heap.size w1 w2 := by rw [hw2]; exact below_alloc _ _
    have Y2 := Lib.hid (show Box w2 w1.heap.size #[.int .i64 0, .slice none 0 0, .int .i64 0, .int .i64 0, .int .i64 0] 27 by rw [hw2]; exact Box.new _ _ _)
    have B2 := Lib.hid (step B1.out d2)
    have X2 := Lib.hid (X1.out.step d2)
    have T2 := Lib.hid (T1.out.step d2)
    have e0 := (d2.cell (p := ⟨g1, 0, none⟩) (by show g1 < _; omega)).trans c0
    have C := Lib.hid (show w2.cell? ⟨g1, 2, none⟩ = some (.string x2) ∧ w2.cell? ⟨g1, 4, none⟩ = some (.string x4) ∧ w2.cell? ⟨g1, 6, none⟩ = some (.string x6) ∧ w2.cell? ⟨g1, 8, none⟩ = some (.string x8) from
      ⟨(d2.cell (p := ⟨g1, 2, none⟩) (by show g1 < _; omega)).trans c2, (d2.cell (p := ⟨g1, 4, none⟩) (by show g1 < _; omega)).trans c4, (d2.cell (p := ⟨g1, 6, none⟩) (by show g1 < _; omega)).trans c6, (d2.cell (p := ⟨g1, 8, none⟩) (by show g1 < _; omega)).trans c8⟩)
    clear c0 c2 c4 c6 c8 hw2 HM HT X1 B1 T1 d2
    rw [E2.out] at e0
    go_wp2_with fail
    refine (XT.out _).mono ?_
    rintro e w2' ⟨rfl, rfl⟩
    go_wp2_with fail
    rw [← E2.out]
    refine (XN0.out _ B2.out).mono ?_
    rintro e w3 ⟨rfl, d3⟩
    have B3 := Lib.hid (step B2.out d3)
    have X3 := Lib.hid (X2.out.step d3)
    have T3 := Lib.hid (T2.out.step d3)
    have Y3 := Lib.hid (Y2.out.step d3)
    have k2 := (d3.cell (p := ⟨g1, 2, none⟩) (by have := B2.out.size; show g1 < _; omega)).trans C.out.1
    have C3 := Lib.hid (show w3.cell? ⟨g1, 2, none⟩ = some (.string x2) ∧ w3.cell? ⟨g1, 4, none⟩ = some (.string x4) ∧ w3.cell? ⟨g1, 6, none⟩ = some (.string x6) ∧ w3.cell? ⟨g1, 8, none⟩ = some (.string x8) from
      ⟨k2, (d3.cell (p := ⟨g1, 4, none⟩) (by have := B2.out.size; show g1 < _; omega)).trans C.out.2.1, (d3.cell (p := ⟨g1, 6, none⟩) (by have := B2.out.size; show g1 < _; omega)).trans C.out.2.2.1, (d3.cell (p := ⟨g1, 8, none⟩) (by have := B2.out.size; show g1 < _; omega)).trans C.out.2.2.2⟩)
    have q0 := Y3.out.cell 0
    have q1 := Y3.out.frozen 0
    simp only [List.getElem?_toArray, List.getElem?_cons_zero, List.getElem?_cons_succ] at q0
    have ng : g1 ≠ w1.heap.size := by omega
    have ng' : w1.heap.size ≠ g1 := by omega
    clear d3 Y2 X2 T2 C XN0 XT zt z0 e0
    go_wp2_with fail
    have gl0 : w.heap.size + 1 < w1.heap.size := by omega
    have Y4 := Lib.hid (show Box (w3.setCell ⟨w1.heap.size, 0, none⟩ (.int .i64 r)) w1.heap.size #[.int .i64 r, .slice none 0 0, .int .i64 0, .int .i64 0, .int .i64 0] 27 by simpa using Box.set Y3.out 0 (.int .i64 r))
    have X4 := Lib.hid (Box.set_other X3.out (p := ⟨w1.heap.size, 0, none⟩) (u := .int .i64 r) (by show w.heap.size ≠ w1.heap.size; omega))
    have T4 := Lib.hid (Box.set_other T3.out (p := ⟨w1.heap.size, 0, none⟩) (u := .int .i64 r) (by show w.heap.size + 1 ≠ w1.heap.size; omega))
    have B4 := Lib.hid (Below.setCell B3.out (p := ⟨w1.heap.size, 0, none⟩) (by show w.heap.size ≤ w1.heap.size; omega) (.int .i64 r))
    have gs : w1.heap.size < w3.heap.size := Y3.out.lt
    have S4 := Lib.hid (set_size w3 ⟨w1.heap.size, 0, none⟩ (.int .i64 r))
    have C4 := Lib.hid (fun (b i : Nat) (hb : b ≠ w1.heap.size) => cell_blk (i := i) (Below.heap_setCell w3 ⟨w1.heap.size, 0, none⟩ (.int .i64 r) b hb))
    obtain ⟨w4, hw4⟩ : ∃ W, W = w3.setCell ⟨w1.heap.size, 0, none⟩ (.int .i64 r) := ⟨_, rfl⟩
    rw [← hw4] at Y4 X4 T4 B4 S4 C4 ⊢
    refine (show Calls _ _ _ _ _ from XL.out _ B4.out).mono ?_
    rintro e w5 ⟨A, c, ok, q, xs, rfl, hv, d5, hl, hx1, hx2⟩
    have B5 := Lib.hid (step B4.out d5)
    have X5 := Lib.hid (X4.out.step d5)
    have T5 := Lib.hid (T4.out.step d5)
    have Y5 := Lib.hid (Y4.out.step d5)
    have V5 := Lib.hid hv
    have RX := Lib.hid (RD.out xs hx1 hx2)
    have n4 := S4.out
    have n5 := d5.size
    have C5 := Lib.hid (show w5.cell? ⟨g1, 4, none⟩ = some (.string x4) ∧ w5.cell? ⟨g1, 6, none⟩ = some (.string x6) ∧ w5.cell? ⟨g1, 8, none⟩ = some (.string x8) from
      ⟨((d5.cell (p := ⟨g1, 4, none⟩) (by show g1 < _; omega)).trans (C4.out g1 4 (by omega))).trans C3.out.2.1, ((d5.cell (p := ⟨g1, 6, none⟩) (by show g1 < _; omega)).trans (C4.out g1 6 (by omega))).trans C3.out.2.2.1, ((d5.cell (p := ⟨g1, 8, none⟩) (by show g1 < _; omega)).trans (C4.out g1 8 (by omega))).trans C3.out.2.2.2⟩)
    have hxl : xs.length ≤ 1048576 := by omega
    have p1 := Y5.out.cell 1
    have p3 := Y5.out.frozen 1
    simp only [List.getElem?_toArray, List.getElem?_cons_zero, List.getElem?_cons_succ] at p1
    clear hv d5 hx1 hx2 RD XL C4 C3 Y3 X3 T3 B3 q0 q1 hw4 X4 T4 B4 Y4 k2
    have Y6 := Lib.hid (show Box (w5.setCell ⟨w1.heap.size, 1, none⟩ (.slice A xs.length c)) w1.heap.size #[.int .i64 r, .slice A xs.length c, .int .i64 0, .int .i64 0, .int .i64 0] 27 by simpa using Box.set Y5.out 1 (.slice A xs.length c))
    have X6 := Lib.hid (Box.set_other X5.out (p := ⟨w1.heap.size, 1, none⟩) (u := .slice A xs.length c) (by show w.heap.size ≠ w1.heap.size; omega))
    have T6 := Lib.hid (Box.set_other T5.out (p := ⟨w1.heap.size, 1, none⟩) (u := .slice A xs.length c) (by show w.heap.size + 1 ≠ w1.heap.size; omega))
    have B6 := Lib.hid (Below.setCell B5.out (p := ⟨w1.heap.size, 1, none⟩) (by show w.heap.size ≤ w1.heap.size; omega) (.slice A xs.length c))
    have S6 := Lib.hid (set_size w5 ⟨w1.heap.size, 1, none⟩ (.slice A xs.length c))
    have V6 := Lib.hid (V5.out.keep (w' := w5.setCell ⟨w1.heap.size, 1, none⟩ (.slice A xs.length c)) fun h1 _ _ => Below.heap_setCell _ ⟨w1.heap.size, 1, none⟩ _ q (by show q ≠ w1.heap.size; omega))
    have C6 := Lib.hid (show (w5.setCell ⟨w1.heap.size, 1, none⟩ (.slice A xs.length c)).cell? ⟨g1, 4, none⟩ = some (.string x4) ∧ (w5.setCell ⟨w1.heap.size, 1, none⟩ (.slice A xs.length c)).cell? ⟨g1, 6, none⟩ = some (.string x6) ∧ (w5.setCell ⟨w1.heap.size, 1, none⟩ (.slice A xs.length c)).cell? ⟨g1, 8, none⟩ = some (.string x8) from
      ⟨(cell_blk (i := 4) (Below.heap_setCell w5 ⟨w1.heap.size, 1, none⟩ (.slice A xs.length c) g1 (by show g1 ≠ w1.heap.size; omega))).trans C5.out.1, (cell_blk (i := 6) (Below.heap_setCell w5 ⟨w1.heap.size, 1, none⟩ (.slice A xs.length c) g1 (by show g1 ≠ w1.heap.size; omega))).trans C5.out.2.1, (cell_blk (i := 8) (Below.heap_setCell w5 ⟨w1.heap.size, 1, none⟩ (.slice A xs.length c) g1 (by show g1 ≠ w1.heap.size; omega))).trans C5.out.2.2⟩)
    clear Y5 X5 T5 B5 V5 C5
    go_wp2_with fail
    obtain ⟨w6, hw6⟩ : ∃ W, W = w5.setCell ⟨w1.heap.size, 1, none⟩ (.slice A xs.length c) := ⟨_, rfl⟩
    rw [← hw6] at Y6 X6 T6 B6 S6 V6 C6 ⊢
    have n6 := S6.out
    clear hw6 p1 p3
    go_loopw [6, 7, 36] (fun _ _ i wr => ∃ (k : Nat) (a b d : Int), k ≤ 3 ∧ i = .int .i64 k ∧ Hid (Box wr w1.heap.size #[.int .i64 r, .slice A xs.length c, .int .i64 a, .int .i64 b, .int .i64 d] 27) ∧ a = (if 1 ≤ k then li else 0) ∧ b = (if 2 ≤ k then co else 0) ∧ d = (if 3 ≤ k then qu else 0) ∧ Hid (Below w1.heap.size w6 wr) ∧ Hid (∀ b, b < w6.heap.size → b ≠ w1.heap.size → wr.heap[b]? = w6.heap[b]?) ∧ w6.heap.size ≤ wr.heap.size) (fun _ _ i _ => 3 - (intOf i).toNat)
    case atStart => exact ⟨0, 0, 0, 0, by omega, rfl, Y6, rfl, rfl, rfl, Lib.hid (Below.refl _ _), Lib.hid (fun _ _ _ => rfl), Nat.le_refl _⟩
    obtain ⟨k, va, vb, vd, hk, rfl, HY, ha, hb, hd, HB, HK, hsz⟩ := hrel
    have HBw := Lib.hid (B6.out.trans (HB.out.mono (by omega)))
    have HT := Lib.hid (show Box wr (w.heap.size + 1) numCells 52 from (HB.out.block _ (by omega)).trans T6.out)
    have s4 := (cell_blk (i := 4) (HB.out.block g1 (by omega))).trans C6.out.1
    have s6 := (cell_blk (i := 6) (HB.out.block g1 (by omega))).trans C6.out.2.1
    have s8 := (cell_blk (i := 8) (HB.out.block g1 (by omega))).trans C6.out.2.2
    have gw : w1.heap.size < wr.heap.size := HY.out.lt
    rcases (by omega : k = 0 ∨ k = 1 ∨ k = 2 ∨ k = 3) with rfl | rfl | rfl | rfl
    · have ha' : 0 = va := by simpa using ha.symm
      have hb' : 0 = vb := by simpa using hb.symm
      have hd' : 0 = vd := by simpa using hd.symm
      clear ha hb hd
      subst ha' hb' hd'
      rw [show ((0 : Nat) : Int) = 0 from rfl]
      have t0 := HT.out.cell 0
      have t1 := HT.out.cell 1
      have t2 := HT.out.cell 2
      have t3 := HT.out.cell 3
      simp only [List.getElem?_toArray, List.getElem?_cons_zero, List.getElem?_cons_succ] at t0 t1 t2 t3
      have bv := below_alloc wr (.cells #[.int .i64 0, .int .i64 9, .string ⟨#[108, 105, 109, 105, 116]⟩, .func (.func 42) #[] #[]] 52)
      have XI := Box.new wr #[.int .i64 0, .int .i64 9, .string ⟨#[108, 105, 109, 105, 116]⟩, .func (.func 42) #[] #[]] 52
      have i3 := XI.cell 3
      simp only [List.getElem?_toArray, List.getElem?_cons_zero, List.getElem?_cons_succ] at i3
      have BV := Lib.hid bv
      have YV := Lib.hid (HY.out.step bv)
      have e4 := (bv.cell (p := ⟨g1, 4, none⟩) (by show g1 < _; omega)).trans s4
      have BW := Lib.hid (step HBw.out bv)
      have IN := XI.lt
      rw [al_size] at IN
      clear XI bv s4 s6 s8
      go_wp2
      clear t0 t1 t2 t3
      have wa1 : IntKind.i64.wrap (2 * 0) = 0 := by decide
      have wa2 : IntKind.i64.wrap 0 = 0 := by decide
      have wa3 : IntKind.i64.wrap (4 + 0) = 4 := by decide
      have wa4 : IntKind.i64.wrap (0 + 4) = 4 := by decide
      have wa5 : IntKind.i64.wrap 4 = 4 := by decide
      go_region_held3 (fun w' => w'.cell? ⟨wr.heap.size, 3, none⟩ = some (.func (.func 42) #[] #[]) ∧ w'.cell? ⟨g1, 4, none⟩ = some (.string x4))
        (first
          | go_keep
          | (go_split_ands; refine ⟨?_, ?_⟩ <;> (rw [d21.cell (by (try simp) <;> omega)]; assumption)))
        (first
          | (go_at_call 42
             refine (limitOf_eq w1.heap.size _).mono ?_
             rintro e v20 ⟨rfl, rfl⟩)
          | (go_at_call 50
             refine (XN4.out _ (by first | exact BW.out | exact step BW.out (below_drew _))).mono ?_
             rintro e v21 ⟨rfl, d21⟩
             have b21 : Below (wr.alloc (.cells #[.int .i64 0, .int .i64 9, .string ⟨#[108, 105, 109, 105, 116]⟩, .func (.func 42) #[] #[]] 52)).heap.size (wr.alloc (.cells #[.int .i64 0, .int .i64 9, .string ⟨#[108, 105, 109, 105, 116]⟩, .func (.func 42) #[] #[]] 52)) v21 := by first | exact d21 | exact und d21
             have Y21 := Lib.hid (YV.out.step b21)
             have q2 := Y21.out.cell 2
             have q3 := Y21.out.frozen 2
             simp only [List.getElem?_toArray, List.getElem?_cons_zero, List.getElem?_cons_succ] at q2
             have n21 := b21.size
             rw [al_size] at n21
             have ne21 : w1.heap.size ≠ wr.heap.size := by omega
             have ne22 : w1.heap.size ≠ g1 := by omega))
      have YN := Lib.hid (show Box (v21.setCell ⟨w1.heap.size, 2, none⟩ (.int .i64 li)) w1.heap.size #[.int .i64 r, .slice A xs.length c, .int .i64 li, .int .i64 0, .int .i64 0] 27 by simpa using Box.set Y21.out 2 (.int .i64 li))
      have bw := Lib.hid (step BV.out b21)
      clear q2 q3 d21 b21 i3 e4 wa1 wa2 wa3 wa4 wa5
      go_wp2
      go_roundw
      case rel => exact ⟨1, li, 0, 0, by omega, by go_num, YN, rfl, rfl, rfl, Lib.hid ((HB.out.trans (bw.out.mono (by omega))).setCell (Nat.le_refl _) _), Lib.hid (fun b h1 h2 => (Below.heap_setCell _ ⟨w1.heap.size, 2, none⟩ _ b h2).trans ((bw.out.block b (by omega)).trans (HK.out b h1 h2))), by rw [set_size]; omega⟩
      case measure => simp [intOf]
    · have ha' : li = va := by simpa using ha.symm
      have hb' : 0 = vb := by simpa using hb.symm
      have hd' : 0 = vd := by simpa using hd.symm
      clear ha hb hd
      subst ha' hb' hd'
      rw [show ((1 : Nat) : Int) = 1 from rfl]
      have t0 := HT.out.cell 4
      have t1 := HT.out.cell 5
      have t2 := HT.out.cell 6
      have t3 := HT.out.cell 7
      simp only [List.getElem?_toArray, List.getElem?_cons_zero, List.getElem?_cons_succ] at t0 t1 t2 t3
      have bv := below_alloc wr (.cells #[.int .i64 0, .int .i64 99, .string ⟨#[99, 111, 115, 116]⟩, .func (.func 43) #[] #[]] 52)
      have XI := Box.new wr #[.int .i64 0, .int .i64 99, .string ⟨#[99, 111, 115, 116]⟩, .func (.func 43) #[] #[]] 52
      have i3 := XI.cell 3
      simp only [List.getElem?_toArray, List.getElem?_cons_zero, List.getElem?_cons_succ] at i3
      have BV := Lib.hid bv
      have YV := Lib.hid (HY.out.step bv)
      have e4 := (bv.cell (p := ⟨g1, 6, none⟩) (by show g1 < _; omega)).trans s6
      have BW := Lib.hid (step HBw.out bv)
      have IN := XI.lt
      rw [al_size] at IN
      clear XI bv s4 s6 s8
      go_wp2
      clear t0 t1 t2 t3
      have wa1 : IntKind.i64.wrap (2 * 1) = 2 := by decide
      have wa2 : IntKind.i64.wrap 2 = 2 := by decide
      have wa3 : IntKind.i64.wrap (4 + 2) = 6 := by decide
      have wa4 : IntKind.i64.wrap (2 + 4) = 6 := by decide
      have wa5 : IntKind.i64.wrap 6 = 6 := by decide
      go_region_held3 (fun w' => w'.cell? ⟨wr.heap.size, 3, none⟩ = some (.func (.func 43) #[] #[]) ∧ w'.cell? ⟨g1, 6, none⟩ = some (.string x6))
        (first
          | go_keep
          | (go_split_ands; refine ⟨?_, ?_⟩ <;> (rw [d21.cell (by (try simp) <;> omega)]; assumption)))
        (first
          | (go_at_call 43
             refine (costOf_eq w1.heap.size _).mono ?_
             rintro e v20 ⟨rfl, rfl⟩)
          | (go_at_call 50
             refine (XN6.out _ (by first | exact BW.out | exact step BW.out (below_drew _))).mono ?_
             rintro e v21 ⟨rfl, d21⟩
             have b21 : Below (wr.alloc (.cells #[.int .i64 0, .int .i64 99, .string ⟨#[99, 111, 115, 116]⟩, .func (.func 43) #[] #[]] 52)).heap.size (wr.alloc (.cells #[.int .i64 0, .int .i64 99, .string ⟨#[99, 111, 115, 116]⟩, .func (.func 43) #[] #[]] 52)) v21 := by first | exact d21 | exact und d21
             have Y21 := Lib.hid (YV.out.step b21)
             have q2 := Y21.out.cell 3
             have q3 := Y21.out.frozen 3
             simp only [List.getElem?_toArray, List.getElem?_cons_zero, List.getElem?_cons_succ] at q2
             have n21 := b21.size
             rw [al_size] at n21
             have ne21 : w1.heap.size ≠ wr.heap.size := by omega
             have ne22 : w1.heap.size ≠ g1 := by omega))
      have YN := Lib.hid (show Box (v21.setCell ⟨w1.heap.size, 3, none⟩ (.int .i64 co)) w1.heap.size #[.int .i64 r, .slice A xs.length c, .int .i64 li, .int .i64 co, .int .i64 0] 27 by simpa using Box.set Y21.out 3 (.int .i64 co))
      have bw := Lib.hid (step BV.out b21)
      clear q2 q3 d21 b21 i3 e4 wa1 wa2 wa3 wa4 wa5
      go_wp2
      go_roundw
      case rel => exact ⟨2, li, co, 0, by omega, by go_num, YN, rfl, rfl, rfl, Lib.hid ((HB.out.trans (bw.out.mono (by omega))).setCell (Nat.le_refl _) _), Lib.hid (fun b h1 h2 => (Below.heap_setCell _ ⟨w1.heap.size, 3, none⟩ _ b h2).trans ((bw.out.block b (by omega)).trans (HK.out b h1 h2))), by rw [set_size]; omega⟩
      case measure => simp [intOf]
    · have ha' : li = va := by simpa using ha.symm
      have hb' : co = vb := by simpa using hb.symm
      have hd' : 0 = vd := by simpa using hd.symm
      clear ha hb hd
      subst ha' hb' hd'
      rw [show ((2 : Nat) : Int) = 2 from rfl]
      have t0 := HT.out.cell 8
      have t1 := HT.out.cell 9
      have t2 := HT.out.cell 10
      have t3 := HT.out.cell 11
      simp only [List.getElem?_toArray, List.getElem?_cons_zero, List.getElem?_cons_succ] at t0 t1 t2 t3
      have bv := below_alloc wr (.cells #[.int .i64 1, .int .i64 99, .string ⟨#[113, 117, 111, 116, 97]⟩, .func (.func 44) #[] #[]] 52)
      have XI := Box.new wr #[.int .i64 1, .int .i64 99, .string ⟨#[113, 117, 111, 116, 97]⟩, .func (.func 44) #[] #[]] 52
      have i3 := XI.cell 3
      simp only [List.getElem?_toArray, List.getElem?_cons_zero, List.getElem?_cons_succ] at i3
      have BV := Lib.hid bv
      have YV := Lib.hid (HY.out.step bv)
      have e4 := (bv.cell (p := ⟨g1, 8, none⟩) (by show g1 < _; omega)).trans s8
      have BW := Lib.hid (step HBw.out bv)
      have IN := XI.lt
      rw [al_size] at IN
      clear XI bv s4 s6 s8
      go_wp2
      clear t0 t1 t2 t3
      have wa1 : IntKind.i64.wrap (2 * 2) = 4 := by decide
      have wa2 : IntKind.i64.wrap 4 = 4 := by decide
      have wa3 : IntKind.i64.wrap (4 + 4) = 8 := by decide
      have wa4 : IntKind.i64.wrap (4 + 4) = 8 := by decide
      have wa5 : IntKind.i64.wrap 8 = 8 := by decide
      go_region_held3 (fun w' => w'.cell? ⟨wr.heap.size, 3, none⟩ = some (.func (.func 44) #[] #[]) ∧ w'.cell? ⟨g1, 8, none⟩ = some (.string x8))
        (first
          | go_keep
          | (go_split_ands; refine ⟨?_, ?_⟩ <;> (rw [d21.cell (by (try simp) <;> omega)]; assumption)))
        (first
          | (go_at_call 44
             refine (quotaOf_eq w1.heap.size _).mono ?_
             rintro e v20 ⟨rfl, rfl⟩)
          | (go_at_call 50
             refine (XN8.out _ (by first | exact BW.out | exact step BW.out (below_drew _))).mono ?_
             rintro e v21 ⟨rfl, d21⟩
             have b21 : Below (wr.alloc (.cells #[.int .i64 1, .int .i64 99, .string ⟨#[113, 117, 111, 116, 97]⟩, .func (.func 44) #[] #[]] 52)).heap.size (wr.alloc (.cells #[.int .i64 1, .int .i64 99, .string ⟨#[113, 117, 111, 116, 97]⟩, .func (.func 44) #[] #[]] 52)) v21 := by first | exact d21 | exact und d21
             have Y21 := Lib.hid (YV.out.step b21)
             have q2 := Y21.out.cell 4
             have q3 := Y21.out.frozen 4
             simp only [List.getElem?_toArray, List.getElem?_cons_zero, List.getElem?_cons_succ] at q2
             have n21 := b21.size
             rw [al_size] at n21
             have ne21 : w1.heap.size ≠ wr.heap.size := by omega
             have ne22 : w1.heap.size ≠ g1 := by omega))
      have YN := Lib.hid (show Box (v21.setCell ⟨w1.heap.size, 4, none⟩ (.int .i64 qu)) w1.heap.size #[.int .i64 r, .slice A xs.length c, .int .i64 li, .int .i64 co, .int .i64 qu] 27 by simpa using Box.set Y21.out 4 (.int .i64 qu))
      have bw := Lib.hid (step BV.out b21)
      clear q2 q3 d21 b21 i3 e4 wa1 wa2 wa3 wa4 wa5
      go_wp2
      go_roundw
      case rel => exact ⟨3, li, co, qu, by omega, by go_num, YN, rfl, rfl, rfl, Lib.hid ((HB.out.trans (bw.out.mono (by omega))).setCell (Nat.le_refl _) _), Lib.hid (fun b h1 h2 => (Below.heap_setCell _ ⟨w1.heap.size, 4, none⟩ _ b h2).trans ((bw.out.block b (by omega)).trans (HK.out b h1 h2))), by rw [set_size]; omega⟩
      case measure => simp [intOf]
    · have ha' : li = va := by simpa using ha.symm
      have hb' : co = vb := by simpa using hb.symm
      have hd' : qu = vd := by simpa using hd.symm
      clear ha hb hd
      subst ha' hb' hd'
      have X7 := Lib.hid (show Box wr w.heap.size #[.int .i64 0, .slice none 0 0, .int .i64 0, .int .i64 0, .int .i64 0] 27 from (HB.out.block _ (by omega)).trans X6.out)
      have V7 := Lib.hid (show OwnV wr (w.heap.size + 1) wr.heap.size (.slice A xs.length c) q xs from (V6.out.keep (w' := wr) fun h1 h2 _ => HK.out q (by omega) (by omega)).mono (by omega) (by omega))
      clear s4 s6 s8
      have q0 := X7.out.cell 0
      have q1 := X7.out.cell 1
      have q2 := X7.out.cell 2
      have q3 := X7.out.cell 3
      have q4 := X7.out.cell 4
      have qf0 := X7.out.frozen 0
      have qf1 := X7.out.frozen 1
      have qf2 := X7.out.frozen 2
      have qf3 := X7.out.frozen 3
      have qf4 := X7.out.frozen 4
      simp only [List.getElem?_toArray, List.getElem?_cons_zero, List.getElem?_cons_succ] at q0 q1 q2 q3 q4
      have y0 := HY.out.cell 0
      have y1 := HY.out.cell 1
      have y2 := HY.out.cell 2
      have y3 := HY.out.cell 3
      have y4 := HY.out.cell 4
      simp only [List.getElem?_toArray, List.getElem?_cons_zero, List.getElem?_cons_succ] at y0 y1 y2 y3 y4
      go_wp2
      refine bodyPost_ret (v := .tuple #[.agg #[.int .i64 r, .slice A xs.length c, .int .i64 li, .int .i64 co, .int .i64 qu], .bool true]) (by simp [results, Tryd.results32, go_sem, q0, q1, q2, q3, q4, qf0, qf1, qf2, qf3, qf4]) rfl ?_
      exact (show RmOut w ws _ _ from .inr ⟨H9.out, A, c, q, (r, xs, li, co, qu), rfl, ownV_all5 _ _ _ _ _ V7.out, below_all5 _ _ _ _ _ HBw.out (Nat.le_refl _), hxl, RX.out⟩)
  · have h9i : ¬ ((ws.length : Int) = 9) := by omega
    have h9b : ((ws.length : Int) == 9) = false := by simpa using h9i
    have h9c : ((ws.length : Int) != 9) = true := by simpa using h9i
    have H9 := Lib.hid h9
    clear h9 HT HM T1 hc hsz
    have q0 := X1.out.cell 0
    have q1 := X1.out.cell 1
    have q2 := X1.out.cell 2
    have q3 := X1.out.cell 3
    have q4 := X1.out.cell 4
    have qf0 := X1.out.frozen 0
    have qf1 := X1.out.frozen 1
    have qf2 := X1.out.frozen 2
    have qf3 := X1.out.frozen 3
    have qf4 := X1.out.frozen 4
    simp only [List.getElem?_toArray, List.getElem?_cons_zero, List.getElem?_cons_succ] at q0 q1 q2 q3 q4
    go_wp2
    refine bodyPost_ret (v := .tuple #[.agg #[.int .i64 0, .slice none 0 0, .int .i64 0, .int .i64 0, .int .i64 0], .bool false]) (by simp [results, Tryd.results32, go_sem, q0, q1, q2, q3, q4, qf0, qf1, qf2, qf3, qf4]) rfl ?_
    exact (show RmOut w ws _ _ from .inl ⟨H9.out, rfl, below_all5 _ _ _ _ _ B1.out (Nat.le_refl _)⟩)
end Go.Proofs.YtenondgjipmhnaaDoor
