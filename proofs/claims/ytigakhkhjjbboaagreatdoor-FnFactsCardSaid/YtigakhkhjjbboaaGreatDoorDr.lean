/- The model's drawing of schemas and facts: what is drawn is of the call's own. Conditions: none beyond each theorem's own. -/
import Derived.Test.YtigakhkhjjbboaaGreatDoorDraw
import Derived.Test.YtigakhkhjjbboaaGreatDoorAddS
import Derived.Test.YtigakhkhjjbboaaGreatDoorPush
namespace Go.Proofs.YtigakhkhjjbboaaGreatDoor
open Go.ChangeShapes Go.WideShapes Go.ChangeAt Go.RowKit Go.Sort
set_option linter.unusedVariables false
set_option linter.unusedSimpArgs false

theorem CodeIn.of {B g : Nat} {w w1 : World} {A : Option Addr} {len cap : Nat} (h : CodeIn B w A len) (hg : B ≤ g) (hc : Cur w g A len cap) (hw : w.grownBy w1 (some g)) : CodeIn B w1 A len := h.below (below_of hg hc.lt hw)
theorem Cur.alloc {w : World} {g : Nat} {A : Option Addr} {len cap : Nat} (h : Cur w g A len cap) (o : Obj) : Cur (w.alloc o) g A len cap := by
  have hl := h.lt
  obtain ⟨i, z, hi, hh⟩ := h
  exact ⟨i, z, hi, (Below.heap_alloc w o g hl).trans hh⟩
theorem grown_then {w w1 w2 : World} {g : Nat} (h : w.grownBy w1 (some g)) (hb : Below w.heap.size w1 w2) (hs : w1.heap.size ≤ w2.heap.size) : w.grownBy w2 (some g) :=
  ⟨hb.os.trans h.os, hb.tape.trans h.tape, hb.output.trans h.output, Nat.le_trans h.size hs, fun k hk hne => (hb.block k hk).trans (h.block k hk hne)⟩
theorem Cur.below {B : Nat} {w w1 : World} {g : Nat} {A : Option Addr} {len cap : Nat} (h : Cur w g A len cap) (hb : Below B w w1) (hg : g < B) : Cur w1 g A len cap := by
  obtain ⟨i, z, hi, hh⟩ := h
  exact ⟨i, z, hi, (hb.block g hg).trans hh⟩
theorem own_kept {w w1 : World} {B g size n : Nat} {e : TypeId} {v : Value} {xs : List Value} (h : w.ownsRow B e size v n xs) (hg : g < B) (hw : w.grownBy w1 (some g)) : w1.ownsRow B e size v n xs := by
  refine h.kept hw ?_
  cases hv : v.ownBlock with
  | none => exact .inl rfl
  | some k =>
    right
    intro e
    have := (h.lt k hv).1
    injection e with e
    omega

/-- Only the cursor has turned; new memory may have come. -/
structure Dr (g : Nat) (A : Option Addr) (len cap : Nat) (w w' : World) : Prop where
  cur : Cur w' g A len cap
  grown : w.grownBy w' (some g)
theorem Dr.trans {g len cap : Nat} {A : Option Addr} {a b c : World} (h : Dr g A len cap a b) (k : Dr g A len cap b c) : Dr g A len cap a c := ⟨k.cur, h.grown.trans k.grown⟩
theorem Dr.refl {g len cap : Nat} {A : Option Addr} {w : World} (h : Cur w g A len cap) : Dr g A len cap w w := ⟨h, World.grownBy.refl w _⟩
theorem Dr.alloc {g len cap : Nat} {A : Option Addr} {a w : World} (h : Dr g A len cap a w) (o : Obj) : Dr g A len cap a (w.alloc o) := ⟨h.cur.alloc o, h.grown.trans (World.grownBy_alloc _ _ _)⟩
theorem Dr.size {g len cap : Nat} {A : Option Addr} {a w : World} (h : Dr g A len cap a w) : a.heap.size ≤ w.heap.size := h.grown.size
theorem Dr.block {g len cap : Nat} {A : Option Addr} {a w : World} (h : Dr g A len cap a w) {b : Nat} (hb : b < a.heap.size) (hne : b ≠ g) : w.heap[b]? = a.heap[b]? := h.grown.block b hb fun e => by injection e with e; exact hne e
theorem Dr.then {g len cap : Nat} {A : Option Addr} {a w w' : World} (h : Dr g A len cap a w) (hb : Below w.heap.size w w') : Dr g A len cap a w' := ⟨h.cur.below hb h.cur.lt, grown_then h.grown (hb.mono h.size) hb.size⟩
theorem Dr.setCell {g len cap : Nat} {A : Option Addr} {a w : World} (h : Dr g A len cap a w) {p : Addr} (hp : a.heap.size ≤ p.block) (hg : g < a.heap.size) (v : Value) : Dr g A len cap a (w.setCell p v) := by
  refine ⟨?_, ?_⟩
  · obtain ⟨i, z, hi, hh⟩ := h.cur
    exact ⟨i, z, hi, (Below.heap_setCell _ _ _ _ (by omega)).trans hh⟩
  · exact ⟨h.grown.os, h.grown.tape, h.grown.output, by rw [set_size]; exact h.grown.size, fun k hk hne => (Below.heap_setCell _ _ _ _ (by omega)).trans (h.grown.block k hk hne)⟩
theorem Dr.below {B g len cap : Nat} {A : Option Addr} {a w : World} (h : Dr g A len cap a w) (hB : B ≤ g) (hg : g < a.heap.size) : Below B a w := below_of hB hg h.grown
theorem ByteOut.dr {w w' : World} {g len cap : Nat} {A : Option Addr} {m : Int} {e : Ending} (h : ByteOut w g A len cap m e w') : ∃ x : Int, e = .returned (.int .i64 x) ∧ 0 ≤ x ∧ x ≤ m ∧ Dr g A len cap w w' := by
  obtain ⟨x, h1, h2, h3, h4, h5⟩ := h
  exact ⟨x, h1, h2, h3, h4, h5⟩
theorem Ints.dr {w w' : World} {lo hi g len cap : Nat} {A X : Option Addr} {xs : List Int} (h : Ints w lo hi X xs) (hl : g < lo) (hh : hi ≤ w.heap.size) (d : Dr g A len cap w w') : Ints w' lo hi X xs := h.keep fun b h1 h2 => d.block (by omega) (by omega)

def DrawB (g : Nat) (A : Option Addr) (len cap : Nat) (m : Int) (w : World) (e : Ending) (w' : World) : Prop := ∃ x : Int, e = .returned (.int .i64 x) ∧ 0 ≤ x ∧ x ≤ m ∧ Dr g A len cap w w'
theorem l1Below_d (B g : Nat) (A : Option Addr) (len cap : Nat) (n : Int) (w : World) (hn0 : 1 ≤ n) (hn : n ≤ 2147483647) (hlen : len ≤ 1048576) (hg : B ≤ g) (hc : Cur w g A len cap) (hcode : CodeIn B w A len) :
    Calls Tryz.prog 79 #[.pointer (some ⟨g, 0, none⟩), .int .i64 n] w (DrawB g A len cap (n - 1) w) := (l1Below_any B g A len cap n w hn0 hn hlen hg hc hcode).mono fun _ _ h => h.dr

def OnceOut (g : Nat) (A : Option Addr) (len cap : Nat) (w : World) (e : Ending) (w' : World) : Prop := ∃ b : Bool, e = .returned (.bool b) ∧ Dr g A len cap w w'
set_option maxRecDepth 100000 in
theorem l1Once_any (B g : Nat) (A : Option Addr) (len cap : Nat) (n : Int) (w : World) (hn0 : 1 ≤ n) (hn : n ≤ 2147483647) (hlen : len ≤ 1048576) (hg : B ≤ g) (hc : Cur w g A len cap) (hcode : CodeIn B w A len) :
    Calls Tryz.prog 41 #[.pointer (some ⟨g, 0, none⟩), .int .i64 n] w (OnceOut g A len cap w) := by
  have XB := Lib.hid (l1Below_d B g A len cap n w hn0 hn hlen hg hc hcode)
  clear hc hcode
  go_enter Tryz.func41, Tryz.ntmps41
  go_wp2_with fail
  refine XB.out.mono ?_
  rintro e w1 ⟨x, rfl, _, _, d⟩
  have D := Lib.hid d
  clear d
  by_cases h : x = 0
  · have h2 : (x == 0) = true := by simpa using h
    go_wp2
    go_ret
    exact ⟨_, rfl, D.out⟩
  · have h2 : (x == 0) = false := by simpa using h
    go_wp2
    go_ret
    exact ⟨_, rfl, D.out⟩

/-- Numbers of the call's own. -/
def DrawI (g : Nat) (A : Option Addr) (len cap : Nat) (P : List Int → Prop) (w : World) (e : Ending) (w' : World) : Prop :=
  ∃ (X : Option Addr) (c : Nat) (s : List Int), e = .returned (.slice X s.length c) ∧ w'.ownsRow w.heap.size 3 1 (.slice X s.length c) s.length (s.map (Value.int .i64)) ∧ P s ∧ Dr g A len cap w w'

set_option maxRecDepth 100000 in
set_option maxHeartbeats 1000000 in
theorem l2Schema_any (B g : Nat) (A : Option Addr) (len cap : Nat) (w : World) (hlen : len ≤ 1048576) (hg : B ≤ g) (hc : Cur w g A len cap) (hcode : CodeIn B w A len) :
    Calls Tryz.prog 39 #[.pointer (some ⟨g, 0, none⟩)] w (DrawI g A len cap (fun s => schB s = true) w) := by
  obtain ⟨i0, hi, hz0, hz1, hz2⟩ := info_parts int_info
  have hgw := hc.lt
  have HC := Lib.hid fun (W : World) (d : Dr g A len cap w W) => hcode.below (d.below hg hgw)
  have D0 := Lib.hid ((Dr.refl hc).alloc (.cells #[] 3))
  have O0 := Lib.hid (World.ownsRow_lit (base := w.heap.size) (e := 3) (size := 1) w #[] 0 (Nat.le_refl _) (by unfold maxLen; omega) rfl)
  clear hc hcode
  go_enter Tryz.func39, Tryz.ntmps39
  go_wp2_with fail
  refine (l1Below_d B g A len cap 3 _ (by omega) (by omega) hlen hg D0.out.cur (HC.out _ D0.out)).mono ?_
  rintro e w1 ⟨x, rfl, hx0, hx1, d⟩
  obtain ⟨n, rfl⟩ := Int.eq_ofNat_of_zero_le hx0
  have D1 := Lib.hid (D0.out.trans d)
  have O1 := Lib.hid (own_kept O0.out hgw d.grown)
  clear d
  go_wp2
  go_loopw [3, 4, 5] (fun v c _ wr => ∃ (s : List Int) (m : Nat) (X : Option Addr) (cp : Nat), c = .int .i64 m ∧ v = .slice X s.length cp ∧ 1 ≤ s.length + m ∧ s.length + m ≤ 3 ∧ Hid (allB 1 3 s = true) ∧ Hid (wr.ownsRow w.heap.size 3 1 (.slice X s.length cp) s.length (s.map (Value.int .i64))) ∧ Hid (Dr g A len cap w wr)) (fun _ c _ _ => (intOf c).toNat)
  case atStart => exact ⟨[], n + 1, _, _, by go_num, rfl, by simp, by simp; omega, Lib.hid rfl, O1, D1⟩
  case round =>
    obtain ⟨s, m, X, cp, rfl, rfl, h1, h3, ha, ho, hd⟩ := hrel
    by_cases hm : 0 < m
    · have hm' : (0 : Int) < (m : Int) := by omega
      go_wp2_with fail
      refine (l1Below_d B g A len cap 2 _ (by omega) (by omega) hlen hg hd.out.cur (HC.out _ hd.out)).mono ?_
      rintro e w2 ⟨x, rfl, hx0, hx1, d⟩
      have D2 := Lib.hid (hd.out.trans d)
      have O2 := Lib.hid (own_kept ho.out hgw d.grown)
      clear d
      go_wp2_with fail
      refine (l1Once_any B g A len cap 4 _ (by omega) (by omega) hlen hg D2.out.cur (HC.out _ D2.out)).mono ?_
      rintro e w3 ⟨b, rfl, d⟩
      have D3 := Lib.hid (D2.out.trans d)
      have O3 := Lib.hid (own_kept O2.out hgw d.grown)
      have SZ := D3.out.size
      clear d
      cases b
      · go_wp2_with (at_builtin; refine wpList_push (w0 := w3) rfl _ _ _ 3 rfl i0 Tryz.underlying25 hi (.int .i64 0) 8 hz0 hz1 hz2 rfl (by omega) rfl rfl rfl O3.out (Below.refl _ _) SZ (by omega) ?_; intro v' w' hown' hb' hsz'; obtain ⟨A', c', rfl⟩ := ownsRow_form hown')
        go_roundw
        case rel => exact ⟨s ++ [1 + x], m - 1, A', c', by go_num, by simp, by simp; omega, by simp; omega, Lib.hid (by have := ha.out; unfold allB at *; rw [List.all_append, this]; simp [inB]; omega), Lib.hid (by simpa using hown'), Lib.hid ⟨D3.out.cur.below hb' hgw, grown_then D3.out.grown hb' hb'.size⟩⟩
        case measure => simp [intOf]; omega
      · go_wp2_with (at_builtin; refine wpList_push (w0 := w3) rfl _ _ _ 3 rfl i0 Tryz.underlying25 hi (.int .i64 0) 8 hz0 hz1 hz2 rfl (by omega) rfl rfl rfl O3.out (Below.refl _ _) SZ (by omega) ?_; intro v' w' hown' hb' hsz'; obtain ⟨A', c', rfl⟩ := ownsRow_form hown')
        go_roundw
        case rel => exact ⟨s ++ [3], m - 1, A', c', by go_num, by simp, by simp; omega, by simp; omega, Lib.hid (by have := ha.out; unfold allB at *; rw [List.all_append, this]; simp [inB]), Lib.hid (by simpa using hown'), Lib.hid ⟨D3.out.cur.below hb' hgw, grown_then D3.out.grown hb' hb'.size⟩⟩
        case measure => simp [intOf]; omega
    · obtain rfl : m = 0 := by omega
      go_wp2
      go_ret
      exact ⟨X, cp, s, rfl, ho.out, show schB s = true by unfold schB; rw [ha.out]; simp [inB]; omega, hd.out⟩

set_option maxRecDepth 100000 in
set_option maxHeartbeats 1000000 in
theorem l2AnySchema_any (B g : Nat) (A : Option Addr) (len cap : Nat) (w : World) (hlen : len ≤ 1048576) (hg : B ≤ g) (hc : Cur w g A len cap) (hcode : CodeIn B w A len) :
    Calls Tryz.prog 48 #[.pointer (some ⟨g, 0, none⟩)] w (DrawI g A len cap (fun s => s.length ≤ 4) w) := by
  obtain ⟨i0, hi, hz0, hz1, hz2⟩ := info_parts int_info
  have hgw := hc.lt
  have HC := Lib.hid fun (W : World) (d : Dr g A len cap w W) => hcode.below (d.below hg hgw)
  have XS := Lib.hid (l2Schema_any B g A len cap w hlen hg hc hcode)
  clear hc hcode
  go_enter Tryz.func48, Tryz.ntmps48
  go_wp2_with fail
  refine XS.out.mono ?_
  rintro e w1 ⟨X, c, s, rfl, ho, hs, d⟩
  have hl : s.length ≤ 3 := by
    unfold schB at hs
    simp only [Bool.and_eq_true] at hs
    have := hs.2
    simp [inB] at this
    omega
  have D1 := Lib.hid d
  have O1 := Lib.hid ho
  clear d ho hs
  go_wp2_with fail
  refine (l1Once_any B g A len cap 14 _ (by omega) (by omega) hlen hg D1.out.cur (HC.out _ D1.out)).mono ?_
  rintro e w2 ⟨b, rfl, d⟩
  have D2 := Lib.hid (D1.out.trans d)
  have O2 := Lib.hid (own_kept O1.out hgw d.grown)
  clear d
  cases b
  · go_wp2
    go_ret
    exact ⟨X, c, s, rfl, O2.out, by omega, D2.out⟩
  · have D3 := Lib.hid (D2.out.alloc (.cells #[.int .i64 0, .int .i64 1, .int .i64 4] 3))
    have hcells : ∀ k, k < 3 → ∃ z : Int, (w2.alloc (.cells #[.int .i64 0, .int .i64 1, .int .i64 4] 3)).cell? ⟨w2.heap.size, k, none⟩ = some (.int .i64 z) ∧ -9223372036854775808 ≤ z ∧ z ≤ 9223372036854775807 := fun k hk => by
      rw [cell_new]
      rcases (by omega : k = 0 ∨ k = 1 ∨ k = 2) with rfl | rfl | rfl
      all_goals exact ⟨_, rfl, by omega, by omega⟩
    have XP := Lib.hid (l1PickInt_any B g A len cap w2.heap.size 3 (w2.alloc (.cells #[.int .i64 0, .int .i64 1, .int .i64 4] 3)) (by omega) (by omega) (by have := D2.out.cur.lt; omega) hcells hlen hg D3.out.cur (HC.out _ D3.out))
    have O3 := Lib.hid (O2.out.alloc (.cells #[.int .i64 0, .int .i64 1, .int .i64 4] 3))
    clear hcells
    go_wp2_with (first
      | (go_at_call 81; refine XP.out.mono ?_; rintro e w4 ⟨x, rfl, _, _, hc4, hg4⟩
         have D4 := Lib.hid (D3.out.trans ⟨hc4, hg4⟩)
         have O4 := Lib.hid (own_kept O3.out hgw hg4)
         have SZ := D4.out.size
         clear hc4 hg4)
      | (at_builtin; refine wpList_push (w0 := w4) rfl _ _ _ 3 rfl i0 Tryz.underlying25 hi (.int .i64 0) 8 hz0 hz1 hz2 rfl (by omega) rfl rfl rfl O4.out (Below.refl _ _) SZ (by omega) ?_; intro v' w' hown' hb' hsz'; obtain ⟨A', c', rfl⟩ := ownsRow_form hown'))
    go_ret
    exact ⟨A', c', s ++ [x], by simp, by simpa using hown', by simp; omega, ⟨D4.out.cur.below hb' hgw, grown_then D4.out.grown hb' hb'.size⟩⟩
end Go.Proofs.YtigakhkhjjbboaaGreatDoor
