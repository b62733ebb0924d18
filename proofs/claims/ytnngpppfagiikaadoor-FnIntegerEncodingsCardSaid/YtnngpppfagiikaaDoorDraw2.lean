/- The model's drawing of numbers and texts out of a code. Conditions: none beyond each theorem's own. -/
import Derived.Test.YtnngpppfagiikaaDoorDraw
import Derived.Test.YtnngpppfagiikaaDoorEncVar
namespace Go.Proofs.YtnngpppfagiikaaDoor
open Go.ChangeShapes Go.WideShapes Go.ChangeAt Go.RowKit
set_option linter.unusedVariables false

theorem numCells : ∀ k, k < 17 → ∃ z : Int, (#[.int .i64 (-1), .int .i64 0, .int .i64 127, .int .i64 128, .int .i64 255, .int .i64 256, .int .i64 16383, .int .i64 16384, .int .i64 65535, .int .i64 65536, .int .i64 562949953421311, .int .i64 562949953421312, .int .i64 999999999, .int .i64 1000000000, .int .i64 (-999999999), .int .i64 9223372036854775807, .int .i64 (-9223372036854775808)] : Array Value)[k]? = some (.int .i64 z) ∧ -9223372036854775808 ≤ z ∧ z ≤ 9223372036854775807 := by
  intro k hk
  rcases (by omega : k = 0 ∨ k = 1 ∨ k = 2 ∨ k = 3 ∨ k = 4 ∨ k = 5 ∨ k = 6 ∨ k = 7 ∨ k = 8 ∨ k = 9 ∨ k = 10 ∨ k = 11 ∨ k = 12 ∨ k = 13 ∨ k = 14 ∨ k = 15 ∨ k = 16) with rfl | rfl | rfl | rfl | rfl | rfl | rfl | rfl | rfl | rfl | rfl | rfl | rfl | rfl | rfl | rfl | rfl
  all_goals exact ⟨_, rfl, by omega, by omega⟩

theorem CodeIn.of {B g : Nat} {w w1 : World} {A : Option Addr} {len cap : Nat} (h : CodeIn B w A len) (hg : B ≤ g) (hc : Cur w g A len cap) (hw : w.grownBy w1 (some g)) : CodeIn B w1 A len := h.below (below_of hg hc.lt hw)
theorem Cur.alloc {w : World} {g : Nat} {A : Option Addr} {len cap : Nat} (h : Cur w g A len cap) (o : Obj) : Cur (w.alloc o) g A len cap := by
  have hl := h.lt
  obtain ⟨i, z, hi, hh⟩ := h
  exact ⟨i, z, hi, (Below.heap_alloc w o g hl).trans hh⟩

set_option maxRecDepth 100000 in
set_option maxHeartbeats 400000 in
theorem l1Num_any (B g : Nat) (A : Option Addr) (len cap : Nat) (w : World) (hlen : len ≤ 1048576) (hg : B ≤ g) (hc : Cur w g A len cap) (hcode : CodeIn B w A len) :
    Calls Tryd.prog 22 #[.pointer (some ⟨g, 0, none⟩)] w (NumOut w g A len cap) := by
  go_enter Tryd.func22, Tryd.ntmps22
  go_wp2_with fail
  refine (l1Below_any B g A len cap 8 _ (by omega) (by omega) hlen hg hc hcode).mono ?_
  rintro e w1 ⟨x, rfl, hx0, hx1, hc1, hg1⟩
  have hcode1 := hcode.of hg hc hg1
  by_cases e0 : x = 0
  · subst e0
    go_wp2_with fail
    have hL := numCells
    refine (l1PickInt_any B g A len cap w1.heap.size 17 _ (by omega) (by omega) (by have := hc1.lt; omega) ?_ hlen hg (hc1.alloc _) (hcode1.below ((Below.refl _ _).alloc (by have := hc1.lt; omega) _))).mono ?_
    · intro k hk
      obtain ⟨z, hz, h1⟩ := hL k hk
      exact ⟨z, by rw [World.cell?_alloc_at _ _ _ _ rfl]; exact hz, h1⟩
    · rintro e w2 ⟨y, rfl, hy0, hy1, hc2, hg2⟩
      go_wp2
      go_ret
      exact ⟨y, rfl, hy0, hy1, hc2, (hg1.trans (World.grownBy_alloc _ _ _)).trans hg2⟩
  · have n0 : (x == 0) = false := by simpa using e0
    by_cases e1 : x = 1
    · subst e1
      go_wp2_with fail
      refine (l1Below_any B g A len cap 1000000000 _ (by omega) (by omega) hlen hg hc1 hcode1).mono ?_
      rintro e w2 ⟨y, rfl, hy0, hy1, hc2, hg2⟩
      go_wp2_with fail
      refine (l1Below_any B g A len cap 1000000000 _ (by omega) (by omega) hlen hg hc2 (hcode1.of hg hc1 hg2)).mono ?_
      rintro e w3 ⟨v, rfl, hv0, hv1, hc3, hg3⟩
      have hp0 : 0 ≤ y * v := Int.mul_nonneg hy0 hv0
      have hp1 : y * v ≤ 999999999 * 999999999 := Int.mul_le_mul (by omega) (by omega) hv0 (by omega)
      go_wp2
      go_ret
      exact ⟨_, rfl, by omega, by omega, hc3, (hg1.trans hg2).trans hg3⟩
    · have n1 : (x == 1) = false := by simpa using e1
      by_cases e2 : x = 2
      · subst e2
        go_wp2_with fail
        refine (l1Below_any B g A len cap 100000 _ (by omega) (by omega) hlen hg hc1 hcode1).mono ?_
        rintro e w2 ⟨y, rfl, hy0, hy1, hc2, hg2⟩
        go_wp2
        go_ret
        exact ⟨_, rfl, by omega, by omega, hc2, hg1.trans hg2⟩
      · have n2 : (x == 2) = false := by simpa using e2
        go_wp2_with fail
        refine (l1Below_any B g A len cap 70000 _ (by omega) (by omega) hlen hg hc1 hcode1).mono ?_
        rintro e w2 ⟨y, rfl, hy0, hy1, hc2, hg2⟩
        go_wp2
        go_ret
        exact ⟨_, rfl, by omega, by omega, hc2, hg1.trans hg2⟩

/-- A text of at most m bytes is drawn; only the cursor has turned. -/
def TextOut (w : World) (g : Nat) (A : Option Addr) (len cap : Nat) (m : Nat) (e : Ending) (w' : World) : Prop :=
  ∃ s : ByteArray, e = .returned (.string s) ∧ s.size ≤ m ∧ Cur w' g A len cap ∧ w.grownBy w' (some g)
theorem grown_then {w w1 w2 : World} {g : Nat} (h : w.grownBy w1 (some g)) (hb : Below w.heap.size w1 w2) (hs : w1.heap.size ≤ w2.heap.size) : w.grownBy w2 (some g) :=
  ⟨hb.os.trans h.os, hb.tape.trans h.tape, hb.output.trans h.output, Nat.le_trans h.size hs, fun k hk hne => (hb.block k hk).trans (h.block k hk hne)⟩
theorem Cur.below {B : Nat} {w w1 : World} {g : Nat} {A : Option Addr} {len cap : Nat} (h : Cur w g A len cap) (hb : Below B w w1) (hg : g < B) : Cur w1 g A len cap := by
  obtain ⟨i, z, hi, hh⟩ := h
  exact ⟨i, z, hi, (hb.block g hg).trans hh⟩
theorem own_kept {w w1 : World} {B g : Nat} {e : TypeId} {v : Value} {n : Nat} {xs : List Value} (h : w.ownsRow B e 1 v n xs) (hg : g < B) (hw : w.grownBy w1 (some g)) : w1.ownsRow B e 1 v n xs := by
  refine h.kept hw ?_
  cases hv : v.ownBlock with
  | none => exact .inl rfl
  | some k =>
    right
    intro e
    have := (h.lt k hv).1
    injection e with e
    omega

set_option maxRecDepth 100000 in
set_option maxHeartbeats 800000 in
theorem l1Text_any (B g : Nat) (A : Option Addr) (len cap : Nat) (most : Nat) (w : World) (hm : most ≤ 1000) (hlen : len ≤ 1048576) (hg : B ≤ g) (hc : Cur w g A len cap) (hcode : CodeIn B w A len) :
    Calls Tryd.prog 23 #[.pointer (some ⟨g, 0, none⟩), .int .i64 most] w (TextOut w g A len cap most) := by
  obtain ⟨i0, hi, hz0, hz1, hz2⟩ := info_parts u8_info
  have hgw := hc.lt
  have hrow0 : (w.alloc (.cells #[] 5)).ownsRow w.heap.size 5 1 (.slice (some ⟨w.heap.size, 0, none⟩) 0 0) 0 [] := World.ownsRow_lit w #[] 0 (Nat.le_refl _) (by unfold maxLen; omega) rfl
  go_enter Tryd.func23, Tryd.ntmps23
  go_wp2_with fail
  refine (l1Below_any B g A len cap 4 _ (by omega) (by omega) hlen hg (hc.alloc _) (hcode.below ((Below.refl _ _).alloc (by omega) _))).mono ?_
  rintro e w1 ⟨st, rfl, hs0, hs1, hc1, hg1⟩
  have hrow1 := own_kept hrow0 hgw hg1
  have hg1' := (World.grownBy_alloc w (.cells #[] 5) (some g)).trans hg1
  have hcode1 := hcode.of hg hc hg1'
  go_wp2_with fail
  refine (l1Below_any B g A len cap ((most : Int) + 1) _ (by omega) (by omega) hlen hg hc1 hcode1).mono ?_
  rintro e w2 ⟨n0, rfl, hn0, hn1, hc2, hg2⟩
  have hrow2 := own_kept hrow1 hgw hg2
  have hg2' := hg1'.trans hg2
  obtain ⟨n0, rfl⟩ := Int.eq_ofNat_of_zero_le hn0
  go_wp2
  go_loopw [5, 7] (fun v c wr => ∃ (xs : List Int) (n : Nat), c = .int .i64 n ∧ xs.length + n ≤ most ∧ wr.ownsRow w.heap.size 5 1 v xs.length (xs.map (Value.int .u8)) ∧ Cur wr g A len cap ∧ w.grownBy wr (some g)) (fun _ c _ => (intOf c).toNat)
  case atStart => exact ⟨[], n0, rfl, by simp; omega, hrow2, hc2, hg2'⟩
  case round =>
    obtain ⟨xs, n, rfl, hx, hown, hcr, hgr⟩ := hrel
    have hcoder := hcode.of hg hc hgr
    by_cases hn : 0 < n
    · go_wp2_with fail
      refine (l1Byte_any B g A len cap _ hlen hg hcr hcoder).mono ?_
      rintro e w3 ⟨x, rfl, hx0, hx1, hc3, hg3⟩
      have hown3 := own_kept hown hgw hg3
      have hgr3 := hgr.trans hg3
      have hsz3 := hgr3.size
      rcases (by omega : st = 1 ∨ st = 2 ∨ (¬ st = 1 ∧ ¬ st = 2)) with rfl | rfl | ⟨e1, e2⟩
      · go_wp2_with (at_builtin; refine wpList_app1 (w0 := w3) rfl _ _ _ _ rfl i0 Tryd.underlying22 hi hz0 hz1 hz2 rfl rfl hown3 (Below.refl _ _) hsz3 (by omega) ?_; intro v' w' hown' hb')
        go_roundw
        case rel => exact ⟨xs ++ [_], n - 1, by go_num, by rw [List.length_append]; simp; omega, by rw [List.length_append]; exact hown', hc3.below hb' hgw, grown_then hgr3 hb' hb'.size⟩
        case measure => simp [intOf]; omega
      · go_wp2_with (at_builtin; refine wpList_app1 (w0 := w3) rfl _ _ _ _ rfl i0 Tryd.underlying22 hi hz0 hz1 hz2 rfl rfl hown3 (Below.refl _ _) hsz3 (by omega) ?_; intro v' w' hown' hb')
        go_roundw
        case rel => exact ⟨xs ++ [_], n - 1, by go_num, by rw [List.length_append]; simp; omega, by rw [List.length_append]; exact hown', hc3.below hb' hgw, grown_then hgr3 hb' hb'.size⟩
        case measure => simp [intOf]; omega
      · have n1 : (st == 1) = false := by simpa using e1
        have n2 : (st == 2) = false := by simpa using e2
        go_wp2_with (at_builtin; refine wpList_app1 (w0 := w3) rfl _ _ _ _ rfl i0 Tryd.underlying22 hi hz0 hz1 hz2 rfl rfl hown3 (Below.refl _ _) hsz3 (by omega) ?_; intro v' w' hown' hb')
        go_roundw
        case rel => exact ⟨xs ++ [_], n - 1, by go_num, by rw [List.length_append]; simp; omega, by rw [List.length_append]; exact hown', hc3.below hb' hgw, grown_then hgr3 hb' hb'.size⟩
        case measure => simp [intOf]; omega
    · have hcv := convOwn Tryd.prog 22 5 9 Tryd.underlying22 Tryd.underlying5 Tryd.underlying9 hown
      go_wp2
      go_ret
      exact ⟨_, rfl, by rw [show (⟨(xs.map fun n => UInt8.ofNat n.toNat).toArray⟩ : ByteArray).size = xs.length by simp [ByteArray.size]]; omega, hcr, hgr⟩

set_option maxRecDepth 100000 in
set_option maxHeartbeats 400000 in
theorem DrawEncodeVarint_any (A : Option Addr) (len cap : Nat) (w : World) (hlen : len ≤ 1048576) (hcode : CodeIn w.heap.size w A len) :
    Calls Tryd.prog 7 #[.slice A len cap] w fun e w' => ∃ x : Int, e = .returned (.int .i64 x) ∧ -9223372036854775808 ≤ x ∧ x ≤ 9223372036854775807 ∧ Below w.heap.size w w' := by
  go_enter Tryd.func7, Tryd.ntmps7
  go_wp2_with fail
  refine (l1New_any A len cap _ hlen hcode).mono ?_
  rintro e w1 ⟨g, rfl, hg, hc1, hb1⟩
  go_wp2_with fail
  refine (l1Num_any w.heap.size g A len cap _ hlen hg hc1 (hcode.below hb1)).mono ?_
  rintro e w2 ⟨x, rfl, hx0, hx1, hc2, hg2⟩
  go_wp2
  go_ret
  exact ⟨x, rfl, hx0, hx1, hb1.trans (below_of hg hc1.lt hg2)⟩

set_option maxRecDepth 100000 in
set_option maxHeartbeats 400000 in
theorem DrawEncodeHex_any (A : Option Addr) (len cap : Nat) (w : World) (hlen : len ≤ 1048576) (hcode : CodeIn w.heap.size w A len) :
    Calls Tryd.prog 8 #[.slice A len cap] w fun e w' => ∃ s : ByteArray, e = .returned (.string s) ∧ s.size ≤ 40 ∧ Below w.heap.size w w' := by
  go_enter Tryd.func8, Tryd.ntmps8
  go_wp2_with fail
  refine (l1New_any A len cap _ hlen hcode).mono ?_
  rintro e w1 ⟨g, rfl, hg, hc1, hb1⟩
  go_wp2_with fail
  refine (l1Text_any w.heap.size g A len cap 40 _ (by omega) hlen hg hc1 (hcode.below hb1)).mono ?_
  rintro e w2 ⟨s, rfl, hs, hc2, hg2⟩
  go_wp2
  go_ret
  exact ⟨s, rfl, hs, hb1.trans (below_of hg hc1.lt hg2)⟩

set_option maxRecDepth 100000 in
set_option maxHeartbeats 400000 in
theorem DrawEncodeFixed_any (A : Option Addr) (len cap : Nat) (w : World) (hlen : len ≤ 1048576) (hcode : CodeIn w.heap.size w A len) :
    Calls Tryd.prog 11 #[.slice A len cap] w fun e w' => ∃ x y : Int, e = .returned (.tuple #[.int .i64 x, .int .i64 y]) ∧ -9223372036854775808 ≤ x ∧ x ≤ 9223372036854775807 ∧ -1 ≤ y ∧ y ≤ 8 ∧ Below w.heap.size w w' := by
  go_enter Tryd.func11, Tryd.ntmps11
  go_wp2_with fail
  refine (l1New_any A len cap _ hlen hcode).mono ?_
  rintro e w1 ⟨g, rfl, hg, hc1, hb1⟩
  have hcode1 := hcode.below hb1
  go_wp2_with fail
  refine (l1Num_any w.heap.size g A len cap _ hlen hg hc1 hcode1).mono ?_
  rintro e w2 ⟨x, rfl, hx0, hx1, hc2, hg2⟩
  have b2 := below_of hg hc1.lt hg2
  go_wp2_with fail
  refine (l1Below_any w.heap.size g A len cap 10 _ (by omega) (by omega) hlen hg hc2 (hcode1.below b2)).mono ?_
  rintro e w3 ⟨y, rfl, hy0, hy1, hc3, hg3⟩
  go_wp2
  go_ret2
  exact ⟨x, _, rfl, hx0, hx1, by omega, by omega, (hb1.trans b2).trans (below_of hg hc2.lt hg3)⟩
end Go.Proofs.YtnngpppfagiikaaDoor
