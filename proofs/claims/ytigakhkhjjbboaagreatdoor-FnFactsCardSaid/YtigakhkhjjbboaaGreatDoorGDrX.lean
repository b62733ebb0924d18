/- The model's drawing of the inputs of functions on facts. Conditions: none beyond each theorem's own. The model's copy of a list of facts, and the drawing of two lists. Conditions: none beyond each theorem's own. The model's drawing of two facts. Conditions: none beyond each theorem's own. -/
import Derived.Test.YtigakhkhjjbboaaGreatDoorGDrD
import Derived.Test.YtigakhkhjjbboaaGreatDoorPut
import Derived.Deep.RegionHeld3

namespace Go.Proofs.YtigakhkhjjbboaaGreatDoor
open Go.ChangeShapes Go.WideShapes Go.ChangeAt Go.RowKit Go.Sort
set_option linter.unusedVariables false
set_option linter.unusedSimpArgs false

theorem ownV_dr {w w' : World} {lo g len cap q : Nat} {A : Option Addr} {v : Value} {xs : List Int} (h : OwnV w lo w.heap.size v q xs) (hl : g < lo) (d : Dr g A len cap w w') : OwnV w' lo w'.heap.size v q xs :=
  (h.keep fun h1 h2 _ => d.block h2 (by omega)).mono (Nat.le_refl _) d.size
theorem ownC_some {w : World} {lo hi c : Nat} {X : Addr} {fs : FL} {cs : List Value} {bs : Nat → Nat} (h : OwnC w lo hi (.slice (some X) fs.length c) fs cs bs) : ∃ b, X = ⟨b, 0, none⟩ ∧ fs.length ≤ c ∧ c ≤ maxLen := by
  rcases h.1.2 with ⟨e, _⟩ | ⟨g, cap, _, e, _, _, h1, h2, _⟩
  · cases e
  · injection e with e1 e2 e3
    injection e1 with e1
    subst e3
    exact ⟨g, e1, h1, h2⟩
theorem ownC_facts {w : World} {lo b c : Nat} {fs : FL} {cs : List Value} {bs : Nat → Nat} (h : OwnC w lo w.heap.size (.slice (some ⟨b, 0, none⟩) fs.length c) fs cs bs) : Facts w lo w.heap.size (some ⟨b, 0, none⟩) fs := by
  obtain ⟨h1, h2, h3⟩ := h.to_P
  exact h3.facts (by omega)
theorem ownsI {w : World} {lo c : Nat} {X : Option Addr} {s : List Int} (h : w.ownsRow lo 3 1 (.slice X s.length c) s.length (s.map (Value.int .i64))) : Ints w lo w.heap.size X s := ints_own h (Nat.le_refl _)
theorem Ints.drm {w w' : World} {lo g len cap : Nat} {A X : Option Addr} {xs : List Int} (h : Ints w lo w.heap.size X xs) (hl : g < lo) (d : Dr g A len cap w w') : Ints w' lo w'.heap.size X xs := (h.dr hl (Nat.le_refl _) d).mono (Nat.le_refl _) d.size

/-- A schema, and a fact: what is drawn. -/
def DSch (w : World) (e : Ending) (w' : World) : Prop := ∃ X c s, e = .returned (.slice X s.length c) ∧ s.length ≤ 4 ∧ RI w' X s ∧ Below w.heap.size w w'
def DSF (w : World) (e : Ending) (w' : World) : Prop :=
  ∃ (X : Option Addr) (c : Nat) (s : List Int) (r : Int) (Y : Option Addr) (cy : Nat) (xs : List Int), e = .returned (.tuple #[.slice X s.length c, .agg #[.int .i64 r, .slice Y xs.length cy]]) ∧ s.length ≤ 4 ∧ xs.length ≤ 4 ∧ RI w' X s ∧ RI w' Y xs ∧ Below w.heap.size w w'
def DSL (w : World) (e : Ending) (w' : World) : Prop :=
  ∃ (X : Option Addr) (c : Nat) (s : List Int) (b cl : Nat) (fs : FL), e = .returned (.tuple #[.slice X s.length c, .slice (some ⟨b, 0, none⟩) fs.length cl]) ∧ s.length ≤ 4 ∧ szF fs ≤ 40 ∧ RI w' X s ∧ RF w' (some ⟨b, 0, none⟩) fs ∧ Below w.heap.size w w'
def DLF (w : World) (e : Ending) (w' : World) : Prop :=
  ∃ (b cl : Nat) (fs : FL) (r : Int) (Y : Option Addr) (cy : Nat) (xs : List Int), e = .returned (.tuple #[.slice (some ⟨b, 0, none⟩) fs.length cl, .agg #[.int .i64 r, .slice Y xs.length cy]]) ∧ (fs.length ≤ cl ∧ cl ≤ maxLen) ∧ szF fs ≤ 40 ∧ (xs.length ≤ cy ∧ cy ≤ maxLen) ∧ xs.length ≤ 4 ∧ RF w' (some ⟨b, 0, none⟩) fs ∧ RI w' Y xs ∧ Below w.heap.size w w'

set_option maxRecDepth 100000 in
set_option maxHeartbeats 1000000 in
theorem DrawIsSchema_any (A : Option Addr) (len cap : Nat) (w : World) (hlen : len ≤ 1048576) (hcode : CodeIn w.heap.size w A len) :
    Calls Tryz.prog 19 #[.slice A len cap] w (DSch w) := by
  have CW := Lib.hid hcode
  clear hcode
  go_enter Tryz.func19, Tryz.ntmps19
  go_wp2_with fail
  refine (l1New_any A len cap _ hlen (CW.out)).mono ?_
  rintro e w1 ⟨g, rfl, hg, hc1, hb1⟩
  have hgw := hc1.lt
  have BN := Lib.hid hb1
  have CC := Lib.hid (CW.out.below hb1)
  have HC := Lib.hid fun (W : World) (d : Dr g A len cap w1 W) => CC.out.below (d.below hg hgw)
  have T1 := Lib.hid (Dr.refl hc1)
  clear hc1 hb1
  go_wp2_with fail
  refine (l2AnySchema_any w.heap.size g A len cap w1 hlen hg T1.out.cur (HC.out _ T1.out)).mono ?_
  rintro e w2 ⟨X, c, s, rfl, ho, hs, d⟩
  have T2 := Lib.hid (T1.out.trans d)
  have z2 := d.size
  have I2 := Lib.hid (ownsI ho)
  have HS := Lib.hid hs
  clear ho hs
  clear d
  go_wp2
  go_ret
  exact ⟨X, c, s, rfl, HS.out, I2.out.mono (Nat.zero_le _) (Nat.le_refl _), BN.out.trans (T2.out.below hg hgw)⟩

set_option maxRecDepth 100000 in
set_option maxHeartbeats 1000000 in
theorem DrawAreFacts_any (A : Option Addr) (len cap : Nat) (w : World) (hlen : len ≤ 1048576) (hcode : CodeIn w.heap.size w A len) :
    Calls Tryz.prog 17 #[.slice A len cap] w (DSL w) := by
  have CW := Lib.hid hcode
  clear hcode
  go_enter Tryz.func17, Tryz.ntmps17
  go_wp2_with fail
  refine (l1New_any A len cap _ hlen (CW.out)).mono ?_
  rintro e w1 ⟨g, rfl, hg, hc1, hb1⟩
  have hgw := hc1.lt
  have BN := Lib.hid hb1
  have CC := Lib.hid (CW.out.below hb1)
  have HC := Lib.hid fun (W : World) (d : Dr g A len cap w1 W) => CC.out.below (d.below hg hgw)
  have T1 := Lib.hid (Dr.refl hc1)
  clear hc1 hb1
  go_wp2_with fail
  refine (l2AnySchema_any w.heap.size g A len cap w1 hlen hg T1.out.cur (HC.out _ T1.out)).mono ?_
  rintro e w2 ⟨X, c, s, rfl, ho, hs, d⟩
  have T2 := Lib.hid (T1.out.trans d)
  have z2 := d.size
  have I2 := Lib.hid (ownsI ho)
  have HS := Lib.hid hs
  clear ho hs
  clear d
  go_wp2_with fail
  refine (l2AnyFacts_any w.heap.size g w1.heap.size w2.heap.size A len cap X c s w2 HS.out I2.out (by omega) (Nat.le_refl _) hlen hg T2.out.cur (HC.out _ T2.out)).mono ?_
  rintro e w3 ⟨Y, cl, fs, csl, bs, rfl, ho, hz, d⟩
  have T3 := Lib.hid (T2.out.trans d)
  have z3 := d.size
  have J3 := Lib.hid (I2.out.drm (by omega) d)
  obtain ⟨b, rfl, hc1, hc2⟩ := ownC_some ho
  have F3 := Lib.hid (ownC_facts ho)
  have HZ := Lib.hid hz
  clear ho hz
  clear d
  go_wp2
  go_ret2
  exact ⟨X, c, s, b, cl, fs, rfl, HS.out, HZ.out, J3.out.mono (Nat.zero_le _) (Nat.le_refl _), F3.out.mono (Nat.zero_le _) (Nat.le_refl _), BN.out.trans (T3.out.below hg hgw)⟩

set_option maxRecDepth 100000 in
set_option maxHeartbeats 2000000 in
theorem DrawIsFact_any (A : Option Addr) (len cap : Nat) (w : World) (hlen : len ≤ 1048576) (hcode : CodeIn w.heap.size w A len) :
    Calls Tryz.prog 14 #[.slice A len cap] w (DSF w) := by
  have B0 := Lib.hid (below_alloc w (.cells #[.int .i64 0, .slice none 0 0] 27))
  have X0 := Lib.hid (Box.new w #[.int .i64 0, .slice none 0 0] 27)
  have CW := Lib.hid ((hcode.below B0.out).mono B0.out.size)
  clear hcode
  go_enter Tryz.func14, Tryz.ntmps14
  go_wp2_with fail
  refine (l1New_any A len cap _ hlen (CW.out)).mono ?_
  rintro e w1 ⟨g, rfl, hg, hc1, hb1⟩
  have hgw := hc1.lt
  have BN := Lib.hid hb1
  have CC := Lib.hid (CW.out.below hb1)
  have HC := Lib.hid fun (W : World) (d : Dr g A len cap w1 W) => CC.out.below (d.below hg hgw)
  have T1 := Lib.hid (Dr.refl hc1)
  clear hc1 hb1
  go_wp2_with fail
  refine (l2AnySchema_any (w.alloc (.cells #[.int .i64 0, .slice none 0 0] 27)).heap.size g A len cap w1 hlen hg T1.out.cur (HC.out _ T1.out)).mono ?_
  rintro e w2 ⟨X, c, s, rfl, ho, hs, d⟩
  have T2 := Lib.hid (T1.out.trans d)
  have z2 := d.size
  have I2 := Lib.hid (ownsI ho)
  have HS := Lib.hid hs
  clear ho hs
  clear d
  go_wp2_with fail
  refine (l2AnyFact_any (w.alloc (.cells #[.int .i64 0, .slice none 0 0] 27)).heap.size g w1.heap.size w2.heap.size A len cap X c s w2 HS.out I2.out (by omega) (Nat.le_refl _) hlen hg T2.out.cur (HC.out _ T2.out)).mono ?_
  rintro e w3 ⟨r, Y, cy, q, xs, rfl, hv, hx, d⟩
  have T3 := Lib.hid (T2.out.trans d)
  have z3 := d.size
  have J3 := Lib.hid (I2.out.drm (by omega) d)
  have V3 := Lib.hid hv
  have HX := Lib.hid hx
  clear hv hx
  clear d
  have s1 := BN.out.size
  (try simp only [al_size] at s1)
  have XB := (X0.out.step BN.out).dr (by have := X0.out.lt; omega) T3.out
  have a0 := XB.cell 0
  have a1 := XB.cell 1
  have a2 := XB.frozen 0
  have a3 := XB.frozen 1
  simp only [List.getElem?_toArray, List.getElem?_cons_zero, List.getElem?_cons_succ] at a0 a1
  have la := XB.lt
  have BT := Lib.hid (B0.out.trans ((BN.out.trans (T3.out.below hg hgw)).mono B0.out.size))
  have LG := X0.out.lt
  have LG2 := BN.out.size
  clear XB
  go_wp2
  refine bodyPost_ret (v := .tuple #[.slice X s.length c, .agg #[.int .i64 r, .slice Y xs.length cy]]) (by simp [results, Tryz.results14, go_sem, a0, a1, a2, a3]) rfl ?_
  refine (show DSF w _ _ from ⟨X, c, s, r, Y, cy, xs, rfl, HS.out, HX.out, (J3.out.keep (fun b hb _ => (Below.heap_setCell _ ⟨w.heap.size, 1, none⟩ _ b (by (try simp); omega)).trans (Below.heap_setCell _ ⟨w.heap.size, 0, none⟩ _ b (by (try simp); omega)))).mono (Nat.zero_le _) (by rw [size2]; exact Nat.le_refl _), (((V3.out.keep (fun hb _ _ => (Below.heap_setCell _ ⟨w.heap.size, 1, none⟩ _ _ (by (try simp); omega)).trans (Below.heap_setCell _ ⟨w.heap.size, 0, none⟩ _ _ (by (try simp); omega)))).ints).2.2.2).mono (Nat.zero_le _) (by rw [size2]; exact Nat.le_refl _), (BT.out.setCell (Nat.le_refl _) _).setCell (Nat.le_refl _) _⟩)

set_option maxRecDepth 100000 in
set_option maxHeartbeats 2000000 in
theorem DrawAddFact_any (A : Option Addr) (len cap : Nat) (w : World) (hlen : len ≤ 1048576) (hcode : CodeIn w.heap.size w A len) :
    Calls Tryz.prog 6 #[.slice A len cap] w (DLF w) := by
  have B0 := Lib.hid (below_alloc w (.cells #[.int .i64 0, .slice none 0 0] 27))
  have X0 := Lib.hid (Box.new w #[.int .i64 0, .slice none 0 0] 27)
  have CW := Lib.hid ((hcode.below B0.out).mono B0.out.size)
  clear hcode
  go_enter Tryz.func6, Tryz.ntmps6
  go_wp2_with fail
  refine (l1New_any A len cap _ hlen (CW.out)).mono ?_
  rintro e w1 ⟨g, rfl, hg, hc1, hb1⟩
  have hgw := hc1.lt
  have BN := Lib.hid hb1
  have CC := Lib.hid (CW.out.below hb1)
  have HC := Lib.hid fun (W : World) (d : Dr g A len cap w1 W) => CC.out.below (d.below hg hgw)
  have T1 := Lib.hid (Dr.refl hc1)
  clear hc1 hb1
  go_wp2_with fail
  refine (l2Schema_any (w.alloc (.cells #[.int .i64 0, .slice none 0 0] 27)).heap.size g A len cap w1 hlen hg T1.out.cur (HC.out _ T1.out)).mono ?_
  rintro e w2 ⟨X, c, s, rfl, ho, hs, d⟩
  have T2 := Lib.hid (T1.out.trans d)
  have z2 := d.size
  have I2 := Lib.hid (ownsI ho)
  have HS := Lib.hid (show schB s = true from hs)
  have HL := Lib.hid (sch_len (show schB s = true from hs)).2
  clear ho hs
  clear d
  go_wp2_with fail
  refine (l2AnyFacts_any (w.alloc (.cells #[.int .i64 0, .slice none 0 0] 27)).heap.size g w1.heap.size w2.heap.size A len cap X c s w2 (by have := HL.out; omega) I2.out (by omega) (Nat.le_refl _) hlen hg T2.out.cur (HC.out _ T2.out)).mono ?_
  rintro e w3 ⟨Y, cl, fs, csl, bs, rfl, ho, hz, d⟩
  have T3 := Lib.hid (T2.out.trans d)
  have z3 := d.size
  have J3 := Lib.hid (I2.out.drm (by omega) d)
  obtain ⟨b, rfl, hc1, hc2⟩ := ownC_some ho
  have O3 := Lib.hid ho
  have HZ := Lib.hid hz
  have HC1 := Lib.hid hc1
  have HC2 := Lib.hid hc2
  clear ho hz hc1 hc2
  clear d
  go_wp2_with fail
  refine (l1Once_any (w.alloc (.cells #[.int .i64 0, .slice none 0 0] 27)).heap.size g A len cap 2 w3 (by omega) (by omega) hlen hg T3.out.cur (HC.out _ T3.out)).mono ?_
  rintro e w4 ⟨bb, rfl, d⟩
  have T4 := Lib.hid (T3.out.trans d)
  have z4 := d.size
  have J4 := Lib.hid (J3.out.drm (by omega) d)
  have O4 := Lib.hid (O3.out.dr (by omega) d)
  clear d
  have s1 := BN.out.size
  (try simp only [al_size] at s1)
  cases bb
  · go_wp2_with fail
    refine (l2AnyFact_any (w.alloc (.cells #[.int .i64 0, .slice none 0 0] 27)).heap.size g w1.heap.size w4.heap.size A len cap X c s w4 (by have := HL.out; omega) J4.out (by omega) (Nat.le_refl _) hlen hg T4.out.cur (HC.out _ T4.out)).mono ?_
    rintro e w5 ⟨r, Y2, cy, q, xs, rfl, hv, hx, d⟩
    have T5 := Lib.hid (T4.out.trans d)
    have z5 := d.size
    have F5 := Lib.hid (ownC_facts (O4.out.dr (by omega) d))
    have V5 := Lib.hid hv
    have HX := Lib.hid (show xs.length ≤ 4 from hx)
    have HY := Lib.hid (show xs.length ≤ cy ∧ cy ≤ maxLen from ⟨(hv.ints).2.1, (hv.ints).2.2.1⟩)
    clear hv hx
    clear d
    have XB := (X0.out.step BN.out).dr (by have := X0.out.lt; omega) T5.out
    have a0 := XB.cell 0
    have a1 := XB.cell 1
    have a2 := XB.frozen 0
    have a3 := XB.frozen 1
    simp only [List.getElem?_toArray, List.getElem?_cons_zero, List.getElem?_cons_succ] at a0 a1
    have la := XB.lt
    have BT := Lib.hid (B0.out.trans ((BN.out.trans (T5.out.below hg hgw)).mono B0.out.size))
    have LG := X0.out.lt
    have LG2 := BN.out.size
    clear XB
    go_wp2
    refine bodyPost_ret (v := .tuple #[.slice (some ⟨b, 0, none⟩) fs.length cl, .agg #[.int .i64 r, .slice Y2 xs.length cy]]) (by simp [results, Tryz.results6, go_sem, a0, a1, a2, a3]) rfl ?_
    refine (show DLF w _ _ from ⟨b, cl, fs, r, Y2, cy, xs, rfl, ⟨HC1.out, HC2.out⟩, HZ.out, HY.out, HX.out, (F5.out.keep (fun b hb _ => (Below.heap_setCell _ ⟨w.heap.size, 1, none⟩ _ b (by (try simp); omega)).trans (Below.heap_setCell _ ⟨w.heap.size, 0, none⟩ _ b (by (try simp); omega)))).mono (Nat.zero_le _) (by rw [size2]; exact Nat.le_refl _), (((V5.out.keep (fun hb _ _ => (Below.heap_setCell _ ⟨w.heap.size, 1, none⟩ _ _ (by (try simp); omega)).trans (Below.heap_setCell _ ⟨w.heap.size, 0, none⟩ _ _ (by (try simp); omega)))).ints).2.2.2).mono (Nat.zero_le _) (by rw [size2]; exact Nat.le_refl _), (BT.out.setCell (Nat.le_refl _) _).setCell (Nat.le_refl _) _⟩)
  · go_wp2_with fail
    refine (l2Fact_any (w.alloc (.cells #[.int .i64 0, .slice none 0 0] 27)).heap.size g w1.heap.size w4.heap.size A len cap X c s 4 w4 (by omega) (by omega) HS.out J4.out (by omega) (Nat.le_refl _) hlen hg T4.out.cur (HC.out _ T4.out)).mono ?_
    rintro e w5 ⟨r, Y2, cy, xs, rfl, hw5, hx, d⟩
    have T5 := Lib.hid (T4.out.trans d)
    have z5 := d.size
    have F5 := Lib.hid (ownC_facts (O4.out.dr (by omega) d))
    obtain ⟨q, hv⟩ := ownV_of_row hw5
    have V5 := Lib.hid hv
    have HX := Lib.hid (show xs.length ≤ 4 by omega)
    have HY := Lib.hid (show xs.length ≤ cy ∧ cy ≤ maxLen from ⟨(hv.ints).2.1, (hv.ints).2.2.1⟩)
    clear hv hx hw5
    clear d
    have XB := (X0.out.step BN.out).dr (by have := X0.out.lt; omega) T5.out
    have a0 := XB.cell 0
    have a1 := XB.cell 1
    have a2 := XB.frozen 0
    have a3 := XB.frozen 1
    simp only [List.getElem?_toArray, List.getElem?_cons_zero, List.getElem?_cons_succ] at a0 a1
    have la := XB.lt
    have BT := Lib.hid (B0.out.trans ((BN.out.trans (T5.out.below hg hgw)).mono B0.out.size))
    have LG := X0.out.lt
    have LG2 := BN.out.size
    clear XB
    go_wp2
    refine bodyPost_ret (v := .tuple #[.slice (some ⟨b, 0, none⟩) fs.length cl, .agg #[.int .i64 r, .slice Y2 xs.length cy]]) (by simp [results, Tryz.results6, go_sem, a0, a1, a2, a3]) rfl ?_
    refine (show DLF w _ _ from ⟨b, cl, fs, r, Y2, cy, xs, rfl, ⟨HC1.out, HC2.out⟩, HZ.out, HY.out, HX.out, (F5.out.keep (fun b hb _ => (Below.heap_setCell _ ⟨w.heap.size, 1, none⟩ _ b (by (try simp); omega)).trans (Below.heap_setCell _ ⟨w.heap.size, 0, none⟩ _ b (by (try simp); omega)))).mono (Nat.zero_le _) (by rw [size2]; exact Nat.le_refl _), (((V5.out.keep (fun hb _ _ => (Below.heap_setCell _ ⟨w.heap.size, 1, none⟩ _ _ (by (try simp); omega)).trans (Below.heap_setCell _ ⟨w.heap.size, 0, none⟩ _ _ (by (try simp); omega)))).ints).2.2.2).mono (Nat.zero_le _) (by rw [size2]; exact Nat.le_refl _), (BT.out.setCell (Nat.le_refl _) _).setCell (Nat.le_refl _) _⟩)
end Go.Proofs.YtigakhkhjjbboaaGreatDoor

namespace Go.Proofs.YtigakhkhjjbboaaGreatDoor
open Go.ChangeShapes Go.WideShapes Go.ChangeAt Go.RowKit Go.Sort
set_option linter.unusedVariables false
set_option linter.unusedSimpArgs false

def CopyR (w : World) (l : FL) (e : Ending) (w' : World) : Prop := ∃ A c, e = .returned (.slice A l.length c) ∧ RF w' A l ∧ Below w.heap.size w w'
theorem takeF (l : FL) {k : Nat} (hk : k < l.length) {f : Int × List Int} (hf : l.getD k (0, []) = f) : l.take (k + 1) = l.take k ++ [f] := by
  rw [List.take_succ_eq_append_getElem hk]
  subst hf
  simp [List.getD_eq_getElem?_getD, hk]

set_option maxRecDepth 100000 in
set_option maxHeartbeats 4000000 in
theorem l2Copy_any (A : Option Addr) (c : Nat) (l : FL) (hz : szF l ≤ 1048576) (w : World) (h : RF w A l) :
    Calls Tryz.prog 56 #[.slice A l.length c] w (CopyR w l) := by
  obtain ⟨i0, hi, hz0, hz1, hz2⟩ := info_parts fact_info
  have hl := szF_len hz
  have hl' : (l.length : Int) ≤ 1048576 := by omega
  have HF := Lib.hid h
  have B0 := Lib.hid (below_alloc w (.cells #[] 27))
  have O0 := Lib.hid (show OwnC (w.alloc (.cells #[] 27)) w.heap.size (w.alloc (.cells #[] 27)).heap.size (.slice (some ⟨w.heap.size, 0, none⟩) 0 0) [] [] (fun _ => 0) from
    ⟨World.ownsRow_lit (base := w.heap.size) (e := 27) (size := 2) w #[] 0 (Nat.le_refl _) (by unfold maxLen; omega) rfl, Items.nil _ _ _⟩)
  clear h
  go_enter Tryz.func56, Tryz.ntmps56
  go_wp2
  go_loopw [3, 4] (fun v i wr => ∃ (k : Nat) (out : FL) (cs : List Value) (bs : Nat → Nat) (A2 : Option Addr) (c2 : Nat), k ≤ l.length ∧ i = .int .i64 k ∧ v = .slice A2 out.length c2 ∧ Hid (out = l.take k) ∧ Hid (OwnC wr w.heap.size wr.heap.size (.slice A2 out.length c2) out cs bs) ∧ Hid (Below w.heap.size w wr)) (fun _ i _ => l.length - (intOf i).toNat)
  case atStart => exact ⟨0, [], [], _, _, _, by omega, rfl, rfl, Lib.hid rfl, O0, B0⟩
  case round =>
    obtain ⟨k, out, cs, bs, A2, c2, hk, rfl, rfl, hOut, HO, HB⟩ := hrel
    have hlen : out.length ≤ k := by rw [hOut.out, List.length_take]; omega
    by_cases hlt : k < l.length
    · generalize hf : l.getD k (0, []) = f
      obtain ⟨r, xs⟩ := f
      have hxl : xs.length ≤ 1048576 := by have := szF_elem hz hlt; rw [hf] at this; exact this
      have TK := Lib.hid (takeF l hlt hf)
      obtain ⟨b, off, B, c5, rfl, n1, E0, E1, hxc, hcm, hX⟩ := HF.out.at_ hlt hf
      have e0 := (HB.out.cell (p := ⟨b, off + k * 2, none⟩) n1).trans E0
      have e1 := (HB.out.cell (p := ⟨b, off + k * 2 + 1, none⟩) n1).trans E1
      have HX := Lib.hid (hX.step HB.out)
      have LOW1 := Lib.hid HB.out.size
      have n6 := LOW1.out
      have hk0 : (0 : Int) ≤ (k : Int) := by omega
      have hk1 : (k : Int) < (l.length : Int) := by omega
      clear hf hX E0 E1
      go_wp2
      have tk1 : True := trivial
      go_region_held3 (fun w' => w'.cell? ⟨b, off + k * 2, none⟩ = some (.int .i64 r) ∧ w'.cell? ⟨b, off + k * 2 + 1, none⟩ = some (.slice B xs.length c5))
        (first
          | go_keep
          | (go_split_ands; refine ⟨?_, ?_⟩ <;> (rw [d21.cell (by (try simp) <;> omega)]; assumption))
          | (go_split_ands; refine ⟨?_, ?_⟩ <;> (rw [d31.cell (by (try simp) <;> omega)]; first | assumption | go_keep)))
        (first
          | (go_at_call 46
             clear tk1
             refine (l2One_any r B c5 xs hxl _ (by first | exact HX.out | exact HX.out.step (below_drew _))).mono ?_
             rintro e v21 ⟨A31, c31, q31, rfl, hv21, d21⟩
             have b21 : Below wr.heap.size wr v21 := by first | exact d21 | exact und d21
             have HO21 := Lib.hid ((OwnC.cur HO.out (Nat.le_refl _) b21).cur b21.size (below_alloc v21 (.cells #[.int .i64 r, .slice A31 xs.length c31] 27)))
             have HV21 := Lib.hid (show OwnV (v21.alloc (.cells #[.int .i64 r, .slice A31 xs.length c31] 27)) wr.heap.size (v21.alloc (.cells #[.int .i64 r, .slice A31 xs.length c31] 27)).heap.size (.slice A31 xs.length c31) q31 xs from OwnV.step (show OwnV v21 wr.heap.size v21.heap.size (.slice A31 xs.length c31) q31 xs from hv21) (below_alloc v21 (.cells #[.int .i64 r, .slice A31 xs.length c31] 27)))
             have n21 := b21.size
             clear hv21)
          | (refine step_append_lies _ (by rfl) _ _ _ (by rfl) w.heap.size 27 i0 _ 2 32 Tryz.underlying24 hi hz0 hz1 hz2 rfl (by omega) (.slice A2 out.length c2) out.length cs (by rfl) (by first | exact HO21.out.1 | exact HO21.out.1.drew)
               ⟨v21.heap.size, 0, none⟩ 1 1 [.int .i64 r, .slice A31 xs.length c31] (by rfl) (by rfl) (World.news_of_block (cs := #[.int .i64 r, .slice A31 xs.length c31]) (t := 27) (fr := (0, 0)) (heap_alloc_new v21 _)) (by simp [Value.oneCell']) (by omega) (by unfold maxLen; omega) (by omega) (by (try simp) <;> omega) (v21.heap.size + 1) (by simp) ?_
             intro g31 cap31 v31 hown31 hgrow31 hat31 hlt31
             have hg31 : (v21.alloc (.cells #[.int .i64 r, .slice A31 xs.length c31] 27)).grownBy v31 (Value.slice A2 out.length c2).ownBlock := ⟨hgrow31.os, hgrow31.tape, hgrow31.output, hgrow31.size, hgrow31.block⟩
             have d31 : Below w.heap.size (v21.alloc (.cells #[.int .i64 r, .slice A31 xs.length c31] 27)) v31 := (Below.refl _ _).grown hg31 (by (try simp) <;> omega) (fun q hq => (HO21.out.1.lt q hq).1)
             obtain ⟨bs31, ho31⟩ := own_append HO21.out (Items.one HV21.out) LOW1.out (by (try simp) <;> omega) hown31 hg31
             have HO31 := Lib.hid ho31
             have b31 : Below w.heap.size wr v31 := ((step b21 (below_alloc v21 (.cells #[.int .i64 r, .slice A31 xs.length c31] 27))).mono LOW1.out).trans d31
             clear hown31 hgrow31 hat31 ho31))
      have TB31 := Lib.hid (HB.out.trans b31)
      clear hg31 hlt31
      go_wp2
      go_roundw
      case rel => exact ⟨k + 1, out ++ [(r, xs)], _, bs31, _, _, by omega, by go_num, by rw [List.length_append]; rfl, Lib.hid (by rw [TK.out, hOut.out]), Lib.hid (by have := HO31.out; rw [List.length_append]; exact this), TB31⟩
      case measure => simp [intOf]; omega
    · obtain rfl : k = l.length := by omega
      have EO := Lib.hid (show out = l by rw [hOut.out, take_all])
      go_wp2
      go_ret
      exact ⟨A2, c2, congrArg (fun o : FL => Ending.returned (.slice A2 o.length c2)) EO.out, by have := HO.out.rf; rwa [EO.out] at this, HB.out⟩

/-- Two lists of facts: what is drawn. -/
def DLL (w : World) (e : Ending) (w' : World) : Prop :=
  ∃ (b cl : Nat) (fs : FL) (Y : Option Addr) (cm : Nat) (gs : FL), e = .returned (.tuple #[.slice (some ⟨b, 0, none⟩) fs.length cl, .slice Y gs.length cm]) ∧ szF fs ≤ 40 ∧ szF gs ≤ 40 ∧ RF w' (some ⟨b, 0, none⟩) fs ∧ RF w' Y gs ∧ Below w.heap.size w w'

set_option maxRecDepth 100000 in
set_option maxHeartbeats 2000000 in
theorem DrawSameFacts_any (A : Option Addr) (len cap : Nat) (w : World) (hlen : len ≤ 1048576) (hcode : CodeIn w.heap.size w A len) :
    Calls Tryz.prog 18 #[.slice A len cap] w (DLL w) := by
  have CW := Lib.hid hcode
  clear hcode
  go_enter Tryz.func18, Tryz.ntmps18
  go_wp2_with fail
  refine (l1New_any A len cap _ hlen (CW.out)).mono ?_
  rintro e w1 ⟨g, rfl, hg, hc1, hb1⟩
  have hgw := hc1.lt
  have BN := Lib.hid hb1
  have CC := Lib.hid (CW.out.below hb1)
  have HC := Lib.hid fun (W : World) (d : Dr g A len cap w1 W) => CC.out.below (d.below hg hgw)
  have T1 := Lib.hid (Dr.refl hc1)
  clear hc1 hb1
  go_wp2_with fail
  refine (l2Schema_any w.heap.size g A len cap w1 hlen hg T1.out.cur (HC.out _ T1.out)).mono ?_
  rintro e w2 ⟨X, c, s, rfl, ho, hs, d⟩
  have T2 := Lib.hid (T1.out.trans d)
  have z2 := d.size
  have I2 := Lib.hid (ownsI ho)
  have HL := Lib.hid (sch_len (show schB s = true from hs)).2
  clear ho hs
  clear d
  go_wp2_with fail
  refine (l2AnyFacts_any w.heap.size g w1.heap.size w2.heap.size A len cap X c s w2 (by have := HL.out; omega) I2.out (by omega) (Nat.le_refl _) hlen hg T2.out.cur (HC.out _ T2.out)).mono ?_
  rintro e w3 ⟨Y, cl, fs, csl, bs, rfl, ho, hz, d⟩
  have T3 := Lib.hid (T2.out.trans d)
  have z3 := d.size
  have J3 := Lib.hid (I2.out.drm (by omega) d)
  obtain ⟨b, rfl, hc1, hc2⟩ := ownC_some ho
  have O3 := Lib.hid ho
  have HZ := Lib.hid hz
  clear ho hz hc1 hc2
  clear d
  go_wp2_with fail
  refine (l1Once_any w.heap.size g A len cap 2 w3 (by omega) (by omega) hlen hg T3.out.cur (HC.out _ T3.out)).mono ?_
  rintro e w4 ⟨bb, rfl, d⟩
  have T4 := Lib.hid (T3.out.trans d)
  have z4 := d.size
  have J4 := Lib.hid (J3.out.drm (by omega) d)
  have O4 := Lib.hid (O3.out.dr (by omega) d)
  clear d
  cases bb
  · go_wp2_with fail
    refine (l2AnyFacts_any w.heap.size g w1.heap.size w4.heap.size A len cap X c s w4 (by have := HL.out; omega) J4.out (by omega) (Nat.le_refl _) hlen hg T4.out.cur (HC.out _ T4.out)).mono ?_
    rintro e w5 ⟨Y5, cl5, gs, csl5, bs5, rfl, ho5, hz5, d⟩
    have T5 := Lib.hid (T4.out.trans d)
    have z5 := d.size
    have F5 := Lib.hid (ownC_facts (O4.out.dr (by omega) d))
    have R5 := Lib.hid ho5.rf
    have HZ5 := Lib.hid hz5
    clear ho5 hz5
    clear d
    go_wp2
    go_ret2
    exact ⟨b, cl, fs, some Y5, cl5, gs, rfl, HZ.out, HZ5.out, F5.out.mono (Nat.zero_le _) (Nat.le_refl _), R5.out, BN.out.trans (T5.out.below hg hgw)⟩
  · have R4 := Lib.hid (show RF w4 (some ⟨b, 0, none⟩) fs from O4.out.rf)
    go_wp2_with fail
    refine (l2Copy_any (some ⟨b, 0, none⟩) cl fs (by have := HZ.out; omega) w4 R4.out).mono ?_
    rintro e w5 ⟨A5, c5, rfl, hr5, d⟩
    have R5 := Lib.hid hr5
    have S5 := Lib.hid (R4.out.step d)
    have T5 := Lib.hid (BN.out.trans ((T4.out.below hg hgw).trans (d.mono (by have := T4.out.size; have := BN.out.size; omega))))
    clear hr5 d
    go_wp2
    go_ret2
    exact ⟨b, cl, fs, A5, c5, fs, rfl, HZ.out, HZ.out, S5.out, R5.out, T5.out⟩
end Go.Proofs.YtigakhkhjjbboaaGreatDoor

namespace Go.Proofs.YtigakhkhjjbboaaGreatDoor
open Go.ChangeShapes Go.WideShapes Go.ChangeAt Go.RowKit Go.Sort
set_option linter.unusedVariables false
set_option linter.unusedSimpArgs false

/-- Two facts: what is drawn. -/
def DFF (w : World) (e : Ending) (w' : World) : Prop :=
  ∃ (r : Int) (X : Option Addr) (c : Nat) (xs : List Int) (r' : Int) (Y : Option Addr) (cy : Nat) (ys : List Int), e = .returned (.tuple #[.agg #[.int .i64 r, .slice X xs.length c], .agg #[.int .i64 r', .slice Y ys.length cy]]) ∧ xs.length ≤ 4 ∧ ys.length ≤ 4 ∧ RI w' X xs ∧ RI w' Y ys ∧ Below w.heap.size w w'

theorem cell_set {w : World} {a p : Addr} {v x : Value} (h : p.block ≠ a.block) (e : w.cell? p = some x) : (w.setCell a v).cell? p = some x := (World.cell?_of_block (Below.heap_setCell _ _ _ _ h)).trans e

/-- The four cells of a result. -/
def four (w6 : World) (b : Nat) (r : Int) (Y : Option Addr) (n cy : Nat) (r6 : Int) (Y6 : Option Addr) (n6 c6 : Nat) : World :=
  (((w6.setCell ⟨b, 0, none⟩ (.int .i64 r)).setCell ⟨b, 1, none⟩ (.slice Y n cy)).setCell ⟨b + 1, 0, none⟩ (.int .i64 r6)).setCell ⟨b + 1, 1, none⟩ (.slice Y6 n6 c6)
theorem four_size {w6 : World} {b : Nat} {r : Int} {Y : Option Addr} {n cy : Nat} {r6 : Int} {Y6 : Option Addr} {n6 c6 : Nat} : (four w6 b r Y n cy r6 Y6 n6 c6).heap.size = w6.heap.size := by
  unfold four
  rw [size2, size2]
theorem four_heap {w6 : World} {b : Nat} {r : Int} {Y : Option Addr} {n cy : Nat} {r6 : Int} {Y6 : Option Addr} {n6 c6 q : Nat} (h : b + 2 ≤ q) : (four w6 b r Y n cy r6 Y6 n6 c6).heap[q]? = w6.heap[q]? := by
  unfold four
  exact (Below.heap_setCell _ ⟨b + 1, 1, none⟩ _ q (by (try simp); omega)).trans ((Below.heap_setCell _ ⟨b + 1, 0, none⟩ _ q (by (try simp); omega)).trans ((Below.heap_setCell _ ⟨b, 1, none⟩ _ q (by (try simp); omega)).trans (Below.heap_setCell _ ⟨b, 0, none⟩ _ q (by (try simp); omega))))
theorem dff_end {w w6 : World} {r r6 : Int} {Y Y6 : Option Addr} {cy c6 lo q lo6 q6 : Nat} {xs ys : List Int} (hV : OwnV w6 lo w6.heap.size (.slice Y xs.length cy) q xs) (hV6 : OwnV w6 lo6 w6.heap.size (.slice Y6 ys.length c6) q6 ys) (h1 : w.heap.size + 2 ≤ lo) (h2 : w.heap.size + 2 ≤ lo6) (hx : xs.length ≤ 4) (hy : ys.length ≤ 4) (B : Below w.heap.size w w6) :
    DFF w (.returned (.tuple #[.agg #[.int .i64 r, .slice Y xs.length cy], .agg #[.int .i64 r6, .slice Y6 ys.length c6]])) (four w6 w.heap.size r Y xs.length cy r6 Y6 ys.length c6) :=
  ⟨r, Y, cy, xs, r6, Y6, c6, ys, rfl, hx, hy, ((hV.keep (fun hb _ _ => four_heap (by omega))).ints).2.2.2.mono (Nat.zero_le _) (by rw [four_size]; exact Nat.le_refl _), ((hV6.keep (fun hb _ _ => four_heap (by omega))).ints).2.2.2.mono (Nat.zero_le _) (by rw [four_size]; exact Nat.le_refl _),
    (((B.setCell (p := ⟨w.heap.size, 0, none⟩) (Nat.le_refl _) _).setCell (p := ⟨w.heap.size, 1, none⟩) (Nat.le_refl _) _).setCell (p := ⟨w.heap.size + 1, 0, none⟩) (Nat.le_succ _) _).setCell (p := ⟨w.heap.size + 1, 1, none⟩) (Nat.le_succ _) _⟩

set_option maxRecDepth 100000 in
set_option maxHeartbeats 4000000 in
theorem DrawCompareFacts_any (A : Option Addr) (len cap : Nat) (w : World) (hlen : len ≤ 1048576) (hcode : CodeIn w.heap.size w A len) :
    Calls Tryz.prog 13 #[.slice A len cap] w (DFF w) := by
  have B0 := Lib.hid (step (below_alloc w (.cells #[.int .i64 0, .slice none 0 0] 27)) (below_alloc _ (.cells #[.int .i64 0, .slice none 0 0] 27)))
  have X0 := Lib.hid ((Box.new w #[.int .i64 0, .slice none 0 0] 27).step (below_alloc _ (.cells #[.int .i64 0, .slice none 0 0] 27)))
  have X1 := Lib.hid (show Box ((w.alloc (.cells #[.int .i64 0, .slice none 0 0] 27)).alloc (.cells #[.int .i64 0, .slice none 0 0] 27)) (w.heap.size + 1) #[.int .i64 0, .slice none 0 0] 27 by simpa using Box.new (w.alloc (.cells #[.int .i64 0, .slice none 0 0] 27)) #[.int .i64 0, .slice none 0 0] 27)
  have CW := Lib.hid ((hcode.below B0.out).mono B0.out.size)
  clear hcode
  go_enter Tryz.func13, Tryz.ntmps13
  go_wp2_with fail
  refine (l1New_any A len cap _ hlen (CW.out)).mono ?_
  rintro e w1 ⟨g, rfl, hg, hc1, hb1⟩
  have hgw := hc1.lt
  have BN := Lib.hid hb1
  have CC := Lib.hid (CW.out.below hb1)
  have HC := Lib.hid fun (W : World) (d : Dr g A len cap w1 W) => CC.out.below (d.below hg hgw)
  have T1 := Lib.hid (Dr.refl hc1)
  clear hc1 hb1
  go_wp2_with fail
  refine (l2Schema_any ((w.alloc (.cells #[.int .i64 0, .slice none 0 0] 27)).alloc (.cells #[.int .i64 0, .slice none 0 0] 27)).heap.size g A len cap w1 hlen hg T1.out.cur (HC.out _ T1.out)).mono ?_
  rintro e w2 ⟨X, c, s, rfl, ho, hs, d⟩
  have T2 := Lib.hid (T1.out.trans d)
  have z2 := d.size
  have I2 := Lib.hid (ownsI ho)
  have HL := Lib.hid (sch_len (show schB s = true from hs)).2
  clear ho hs
  clear d
  go_wp2_with fail
  refine (l2AnyFact_any ((w.alloc (.cells #[.int .i64 0, .slice none 0 0] 27)).alloc (.cells #[.int .i64 0, .slice none 0 0] 27)).heap.size g w1.heap.size w2.heap.size A len cap X c s w2 (by have := HL.out; omega) I2.out (by omega) (Nat.le_refl _) hlen hg T2.out.cur (HC.out _ T2.out)).mono ?_
  rintro e w3 ⟨r, Y, cy, q, xs, rfl, hv, hx, d⟩
  have T3 := Lib.hid (T2.out.trans d)
  have z3 := d.size
  have J3 := Lib.hid (I2.out.drm (by omega) d)
  have V3 := Lib.hid hv
  have HX := Lib.hid hx
  clear hv hx
  clear d
  have T4 := Lib.hid (T3.out.alloc (.cells #[.int .i64 r, .slice Y xs.length cy] 27))
  have J4 := Lib.hid (J3.out.drm (by omega) (Dr.refl T3.out.cur |>.alloc (.cells #[.int .i64 r, .slice Y xs.length cy] 27)))
  have V4 := Lib.hid (ownV_dr V3.out (by omega) (Dr.refl T3.out.cur |>.alloc (.cells #[.int .i64 r, .slice Y xs.length cy] 27)))
  have Y4 := Lib.hid (Box.new w3 #[.int .i64 r, .slice Y xs.length cy] 27)
  obtain ⟨w4, hw4⟩ : ∃ W, W = w3.alloc (.cells #[.int .i64 r, .slice Y xs.length cy] 27) := ⟨_, rfl⟩
  have E4 := Lib.hid hw4
  have n4 : w4.heap.size = w3.heap.size + 1 := by rw [hw4, al_size]
  rw [← hw4] at T4 J4 V4 Y4
  clear hw4
  go_wp2_with fail
  rw [← E4.out]
  refine (l1Once_any ((w.alloc (.cells #[.int .i64 0, .slice none 0 0] 27)).alloc (.cells #[.int .i64 0, .slice none 0 0] 27)).heap.size g A len cap 4 w4 (by omega) (by omega) hlen hg T4.out.cur (HC.out _ T4.out)).mono ?_
  rintro e w5 ⟨bb, rfl, d⟩
  have T5 := Lib.hid (T4.out.trans d)
  have J5 := Lib.hid (J4.out.drm (by omega) d)
  have V5 := Lib.hid (ownV_dr V4.out (by omega) d)
  have Y5 := Lib.hid (Y4.out.dr (by omega) d)
  have s1 := BN.out.size
  rw [al_size, al_size] at s1
  have la := al_size (w.alloc (.cells #[.int .i64 0, .slice none 0 0] 27)) (.cells #[.int .i64 0, .slice none 0 0] 27)
  have la0 := al_size w (.cells #[.int .i64 0, .slice none 0 0] 27)
  have n5 := d.size
  have XA := Lib.hid ((X0.out.step BN.out).dr (by omega) T5.out)
  have XB := Lib.hid ((X1.out.step BN.out).dr (by omega) T5.out)
  have a0 := XA.out.cell 0
  have a1 := XA.out.cell 1
  have a2 := XA.out.frozen 0
  have a3 := XA.out.frozen 1
  have b0 := XB.out.cell 0
  have b1 := XB.out.cell 1
  have b2 := XB.out.frozen 0
  have b3 := XB.out.frozen 1
  have y0 := Y5.out.cell 0
  have y1 := Y5.out.cell 1
  simp only [List.getElem?_toArray, List.getElem?_cons_zero, List.getElem?_cons_succ] at a0 a1 b0 b1 y0 y1
  have lw3 : w.heap.size + 1 < w3.heap.size := by omega
  have lw5 : w3.heap.size < w5.heap.size := by omega
  have BT5 := Lib.hid (B0.out.trans ((BN.out.trans (T5.out.below hg hgw)).mono B0.out.size))
  clear d
  cases bb
  · have tk1 : True := trivial
    go_wp2
    go_region_held3 (fun w' => w'.cell? ⟨w3.heap.size, 0, none⟩ = some (.int .i64 r) ∧ w'.cell? ⟨w3.heap.size, 1, none⟩ = some (.slice Y xs.length cy))
      (first
        | go_keep
        | (go_split_ands; refine ⟨?_, ?_⟩ <;> (repeat refine cell_set (by (try simp) <;> omega) ?_) <;> assumption))
      (first
        | (go_at_call 43
           clear tk1
           refine (l2AnyFact_any ((w.alloc (.cells #[.int .i64 0, .slice none 0 0] 27)).alloc (.cells #[.int .i64 0, .slice none 0 0] 27)).heap.size g w1.heap.size w5.heap.size A len cap X c s (World.drew w5) (by have := HL.out; omega) (J5.out.drm (by omega) (Dr.refl T5.out.cur).drew) (by omega) (Nat.le_refl _) hlen hg T5.out.drew.cur (HC.out _ T5.out.drew)).mono ?_
           rintro e w6 ⟨r6, Y6, c6, q6, ys, rfl, hv6, hx6, d6⟩
           have T6 := Lib.hid (T5.out.drew.trans d6)
           have YB := Lib.hid ((Y5.out.dr (by omega) (Dr.refl T5.out.cur).drew).dr (by (try simp) <;> omega) d6)
           have y60 := YB.out.cell 0
           have y61 := YB.out.cell 1
           have XA6 := Lib.hid ((XA.out.dr (by omega) (Dr.refl T5.out.cur).drew).dr (by (try simp) <;> omega) d6)
           have XB6 := Lib.hid ((XB.out.dr (by omega) (Dr.refl T5.out.cur).drew).dr (by (try simp) <;> omega) d6)
           clear a0 a1 a2 a3 b0 b1 b2 b3 y0 y1
           have a0 := XA6.out.cell 0
           have a1 := XA6.out.cell 1
           have a2 := XA6.out.frozen 0
           have a3 := XA6.out.frozen 1
           have b0 := XB6.out.cell 0
           have b1 := XB6.out.cell 1
           have b2 := XB6.out.frozen 0
           have b3 := XB6.out.frozen 1
           simp only [List.getElem?_toArray, List.getElem?_cons_zero, List.getElem?_cons_succ] at y60 y61 a0 a1 b0 b1
           have lx6 := YB.out.lt
           have V6 := Lib.hid (ownV_dr (ownV_dr V5.out (by omega) (Dr.refl T5.out.cur).drew) (by (try simp) <;> omega) d6)
           have HV6 := Lib.hid hv6
           have HX6 := Lib.hid hx6
           have BT6 := Lib.hid (B0.out.trans ((BN.out.trans (T6.out.below hg hgw)).mono B0.out.size))
           have lz6 : w.heap.size + 2 ≤ (World.drew w5).heap.size := by (try simp) <;> omega
           clear hv6 hx6 d6))
    go_wp2
    refine bodyPost_ret (v := .tuple #[.agg #[.int .i64 r, .slice Y xs.length cy], .agg #[.int .i64 r6, .slice Y6 ys.length c6]]) (by simp [results, Tryz.results13, go_sem, a0, a1, a2, a3, b0, b1, b2, b3]) rfl ?_
    exact dff_end V6.out HV6.out (by omega) lz6 HX.out HX6.out BT6.out
  · have tk1 : True := trivial
    go_wp2
    go_region_held3 (fun w' => w'.cell? ⟨w3.heap.size, 0, none⟩ = some (.int .i64 r) ∧ w'.cell? ⟨w3.heap.size, 1, none⟩ = some (.slice Y xs.length cy))
      (first
        | go_keep
        | (go_split_ands; refine ⟨?_, ?_⟩ <;> (repeat refine cell_set (by (try simp) <;> omega) ?_) <;> assumption))
      (first
        | (go_at_call 46
           clear tk1
           refine (l2One_any r Y cy xs (by have := HX.out; omega) (World.drew w5) (((ownV_dr V5.out (by omega) (Dr.refl T5.out.cur).drew).ints).2.2.2.mono (Nat.zero_le _) (Nat.le_refl _))).mono ?_
           rintro e w6 ⟨Y6, c6, q6, rfl, hv6, b6⟩
           have d6 := Lib.hid ((Dr.refl T5.out.cur).drew.then b6)
           have T6 := Lib.hid (T5.out.trans d6.out)
           have YB := Lib.hid (Y5.out.dr (by omega) d6.out)
           have y60 := YB.out.cell 0
           have y61 := YB.out.cell 1
           have XA6 := Lib.hid (XA.out.dr (by omega) d6.out)
           have XB6 := Lib.hid (XB.out.dr (by omega) d6.out)
           clear a0 a1 a2 a3 b0 b1 b2 b3 y0 y1
           have a0 := XA6.out.cell 0
           have a1 := XA6.out.cell 1
           have a2 := XA6.out.frozen 0
           have a3 := XA6.out.frozen 1
           have b0 := XB6.out.cell 0
           have b1 := XB6.out.cell 1
           have b2 := XB6.out.frozen 0
           have b3 := XB6.out.frozen 1
           simp only [List.getElem?_toArray, List.getElem?_cons_zero, List.getElem?_cons_succ] at y60 y61 a0 a1 b0 b1
           have lx6 := YB.out.lt
           have V6 := Lib.hid (ownV_dr V5.out (by omega) d6.out)
           have HV6 := Lib.hid hv6
           have HX6 := HX
           have BT6 := Lib.hid (B0.out.trans ((BN.out.trans (T6.out.below hg hgw)).mono B0.out.size))
           have lz6 : w.heap.size + 2 ≤ (World.drew w5).heap.size := by (try simp) <;> omega
           clear hv6 b6 d6))
    go_wp2
    refine bodyPost_ret (v := .tuple #[.agg #[.int .i64 r, .slice Y xs.length cy], .agg #[.int .i64 r, .slice Y6 xs.length c6]]) (by simp [results, Tryz.results13, go_sem, a0, a1, a2, a3, b0, b1, b2, b3]) rfl ?_
    exact dff_end V6.out HV6.out (by omega) lz6 HX.out HX6.out BT6.out
end Go.Proofs.YtigakhkhjjbboaaGreatDoor
