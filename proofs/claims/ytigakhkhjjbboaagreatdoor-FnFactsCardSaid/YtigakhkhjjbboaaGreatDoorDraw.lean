/- The model's drawing of inputs out of a code: what is drawn lies in its range, and no memory of the caller's turns. Conditions: none beyond each theorem's own. -/
import Derived.Test.YtigakhkhjjbboaaGreatDoorNum
import Derived.Test.YtigakhkhjjbboaaGreatDoorPush
import Derived.BigQuiet
import Derived.Deep.QuietTactic
import Derived.Laws.BitsAllLaws
namespace Go.Proofs.YtigakhkhjjbboaaGreatDoor
open Go.ChangeShapes Go.WideShapes Go.ChangeAt Go.RowKit
set_option linter.unusedVariables false

/-- Block g is a cursor over the code. -/
def Cur (w : World) (g : Nat) (A : Option Addr) (len cap : Nat) : Prop :=
  ∃ (i : Nat) (h : Int), i ≤ len ∧ w.heap[g]? = some (.cells #[.slice A len cap, .int .i64 i, .int .i64 h] 102 (0, 0))
/-- The code's bytes lie below block B. -/
def CodeIn (B : Nat) (w : World) (A : Option Addr) (len : Nat) : Prop :=
  len = 0 ∨ ∃ b off, A = some ⟨b, off, none⟩ ∧ b < B ∧ ∀ k, k < len → ∃ z : Int, w.cell? ⟨b, off + k, none⟩ = some (.int .u8 z) ∧ 0 ≤ z ∧ z ≤ 255
theorem CodeIn.mono {B B' : Nat} {w : World} {A : Option Addr} {len : Nat} (h : CodeIn B w A len) (hb : B ≤ B') : CodeIn B' w A len := by
  rcases h with h | ⟨b, off, h1, h2, h3⟩
  · exact .inl h
  · exact .inr ⟨b, off, h1, by omega, h3⟩
theorem CodeIn.below {B : Nat} {w w' : World} {A : Option Addr} {len : Nat} (h : CodeIn B w A len) (hb : Below B w w') : CodeIn B w' A len := by
  rcases h with h | ⟨b, off, h1, h2, h3⟩
  · exact .inl h
  · exact .inr ⟨b, off, h1, h2, fun k hk => by
      obtain ⟨z, hz, h4⟩ := h3 k hk
      exact ⟨z, (hb.cell (p := ⟨b, off + k, none⟩) h2).trans hz, h4⟩⟩
/-- Out of the opening of a slice of bytes. -/
theorem code_of {w : World} (x : Addr) (l c : Nat) (zs : List Int) (hl : l ≤ c) (hz : zs.length = c) (hcell : ∀ i, i < zs.length → w.cell? (x.add i) = some (.int .u8 (zs.getD i 0))) (hwz : ∀ n ∈ zs, (Lit.int .u8 n).wf = true) : CodeIn w.heap.size w (some x) l := by
  by_cases h0 : l = 0
  · exact .inl h0
  · obtain ⟨b, off, spot⟩ := x
    have hc := hcell 0 (by omega)
    have hspot : spot = none := by simpa [Addr.add] using World.cell?_spot hc
    subst hspot
    have hb := World.block_lt_of_cell? w _ hc
    refine .inr ⟨b, off, rfl, by simpa [Addr.add] using hb, fun k hk => ⟨zs.getD k 0, ?_, ?_⟩⟩
    · have := hcell k (by omega)
      have e : (⟨b, off, none⟩ : Addr).add k = ⟨b, off + k, none⟩ := by unfold Addr.add; split <;> simp_all
      rwa [e] at this
    · have hm : zs.getD k 0 ∈ zs := by
        rw [List.getD_eq_getElem?_getD, List.getElem?_eq_getElem (by omega), Option.getD_some]
        exact List.getElem_mem _
      simpa [Lit.wf, IntKind.min, IntKind.max, IntKind.signed, IntKind.bits] using hwz _ hm
def ByteOut (w : World) (g : Nat) (A : Option Addr) (len cap : Nat) (m : Int) (e : Ending) (w' : World) : Prop :=
  ∃ x : Int, e = .returned (.int .i64 x) ∧ 0 ≤ x ∧ x ≤ m ∧ Cur w' g A len cap ∧ w.grownBy w' (some g)

theorem and255 (a : Int) : 0 ≤ bits .and .i64 a 255 ∧ bits .and .i64 a 255 ≤ 255 := by
  show 0 ≤ IntKind.i64.wrap ((BitVec.ofInt 64 a &&& BitVec.ofInt 64 255).toNat : Int) ∧ IntKind.i64.wrap ((BitVec.ofInt 64 a &&& BitVec.ofInt 64 255).toNat : Int) ≤ 255
  have h : (BitVec.ofInt 64 a &&& BitVec.ofInt 64 255).toNat ≤ 255 := by
    rw [BitVec.toNat_and]
    exact Nat.le_trans Nat.and_le_right (by decide)
  rw [IntKind.wrap_i64]
  omega

theorem cells_set2 {w : World} {g : Nat} {x y z u : Value} {t : TypeId} (hh : w.heap[g]? = some (.cells #[x, y, z] t (0, 0))) : (w.setCell ⟨g, 2, none⟩ u).heap[g]? = some (.cells #[x, y, u] t (0, 0)) := by
  simp [World.setCell, Array.getElem?_modify, hh]
theorem cells_set1 {w : World} {g : Nat} {x y z u : Value} {t : TypeId} (hh : w.heap[g]? = some (.cells #[x, y, z] t (0, 0))) : (w.setCell ⟨g, 1, none⟩ u).heap[g]? = some (.cells #[x, u, z] t (0, 0)) := by
  simp [World.setCell, Array.getElem?_modify, hh]
theorem fin_byte {w w1 w2 : World} {g : Nat} {A : Option Addr} {len cap i : Nat} {h a : Int} {e : Ending} (hi : i ≤ len)
    (hh : w2.heap[g]? = some (.cells #[.slice A len cap, .int .i64 i, .int .i64 h] 102 (0, 0))) (hw : w1.heap = w2.heap) (h1 : w1.os = w.os) (h2 : w1.tape = w.tape) (h3 : w1.output = w.output)
    (h4 : w2.heap.size = w.heap.size) (h5 : ∀ k, k ≠ g → w2.heap[k]? = w.heap[k]?) (he : e = .returned (.int .i64 (bits .and .i64 a 255))) : ByteOut w g A len cap 255 e w1 :=
  ⟨_, he, (and255 a).1, (and255 a).2, ⟨i, h, hi, by rw [hw]; exact hh⟩, h1, h2, h3, by rw [hw, h4]; exact Nat.le_refl _, fun k _ hk => by rw [hw]; exact h5 k (fun e => hk (by rw [e]))⟩

set_option maxRecDepth 100000 in
set_option maxHeartbeats 400000 in
theorem l1Byte_any (B g : Nat) (A : Option Addr) (len cap : Nat) (w : World) (hlen : len ≤ 1048576) (hg : B ≤ g) (hc : Cur w g A len cap) (hcode : CodeIn B w A len) :
    Calls Tryz.prog 116 #[.pointer (some ⟨g, 0, none⟩)] w (ByteOut w g A len cap 255) := by
  obtain ⟨i, h, hi, hh⟩ := hc
  have h0 : w.cell? ⟨g, 0, none⟩ = some (.slice A len cap) := by simp [World.cell?, hh]
  have h1 : w.cell? ⟨g, 1, none⟩ = some (.int .i64 i) := by simp [World.cell?, hh]
  have h2 : w.cell? ⟨g, 2, none⟩ = some (.int .i64 h) := by simp [World.cell?, hh]
  have hf : ∀ k, w.frozen? ⟨g, k, none⟩ = false := fun k => by simp [World.frozen?, hh]
  have HH := Lib.hid hh
  have HC := Lib.hid hcode
  have hlen' : (len : Int) ≤ 1048576 := by omega
  clear hh hcode
  by_cases hlt : i < len
  · have hcd := HC.out
    obtain ⟨b, off, rfl, hbB, hz⟩ : ∃ b off, A = some ⟨b, off, none⟩ ∧ b < B ∧ ∀ k, k < len → ∃ z : Int, w.cell? ⟨b, off + k, none⟩ = some (.int .u8 z) ∧ 0 ≤ z ∧ z ≤ 255 := by
      rcases hcd with h0 | h1
      · omega
      · exact h1
    obtain ⟨z, hcz, hz0, hz1⟩ := hz i hlt
    have hbg : b ≠ g := by omega
    clear hz hcd
    go_enter Tryz.func116, Tryz.ntmps116
    go_wp2
    go_quiet (fail)
    go_wp2
    go_quiet (fail)
    go_wp2
    go_quiet (fail)
    go_wp2
    go_ret
    exact fin_byte (w2 := (w.setCell ⟨g, 2, none⟩ _).setCell ⟨g, 1, none⟩ _) (i := i + 1) (by omega) (cells_set1 (cells_set2 HH.out)) rfl rfl rfl rfl ((set_size _ _ _).trans (set_size _ _ _)) (fun k hk => (Below.heap_setCell _ ⟨g, 1, none⟩ _ k hk).trans (Below.heap_setCell w ⟨g, 2, none⟩ _ k hk)) rfl
  · go_enter Tryz.func116, Tryz.ntmps116
    go_wp2
    go_quiet (fail)
    go_wp2
    go_quiet (fail)
    go_wp2
    go_ret
    exact fin_byte (w2 := w.setCell ⟨g, 2, none⟩ _) hi (cells_set2 HH.out) rfl rfl rfl rfl (set_size _ _ _) (fun k hk => Below.heap_setCell w ⟨g, 2, none⟩ _ k hk) rfl
theorem Cur.lt {w : World} {g : Nat} {A : Option Addr} {len cap : Nat} (h : Cur w g A len cap) : g < w.heap.size := by
  obtain ⟨i, h, _, hh⟩ := h
  exact (Array.getElem?_eq_some_iff.1 hh).1
theorem below_of {B g : Nat} {w w1 : World} (hB : B ≤ g) (hs : g < w.heap.size) (h : w.grownBy w1 (some g)) : Below B w w1 :=
  (Below.refl _ _).grown h (by omega) (fun k hk => by injection hk with hk; omega)

set_option maxRecDepth 100000 in
set_option maxHeartbeats 400000 in
theorem l1Below_small (B g : Nat) (A : Option Addr) (len cap : Nat) (n : Int) (w : World) (hn0 : 1 ≤ n) (hn : n ≤ 256) (hlen : len ≤ 1048576) (hg : B ≤ g) (hc : Cur w g A len cap) (hcode : CodeIn B w A len) :
    Calls Tryz.prog 79 #[.pointer (some ⟨g, 0, none⟩), .int .i64 n] w (ByteOut w g A len cap (n - 1)) := by
  go_enter Tryz.func79, Tryz.ntmps79
  go_wp2_with fail
  refine (l1Byte_any B g A len cap _ hlen hg hc hcode).mono ?_
  rintro e w1 ⟨x, rfl, hx0, hx1, hc1, hg1⟩
  go_wp2
  go_ret
  have h1 := Int.emod_nonneg x (show n ≠ 0 by omega)
  have h2 := Int.emod_lt_of_pos x (show 0 < n by omega)
  exact ⟨_, rfl, h1, by omega, hc1, hg1⟩

set_option maxRecDepth 100000 in
set_option maxHeartbeats 400000 in
theorem l1Below_big (B g : Nat) (A : Option Addr) (len cap : Nat) (n : Int) (w : World) (hn0 : 257 ≤ n) (hn : n ≤ 2147483647) (hlen : len ≤ 1048576) (hg : B ≤ g) (hc : Cur w g A len cap) (hcode : CodeIn B w A len) :
    Calls Tryz.prog 79 #[.pointer (some ⟨g, 0, none⟩), .int .i64 n] w (ByteOut w g A len cap (n - 1)) := by
  go_enter Tryz.func79, Tryz.ntmps79
  go_wp2_with fail
  refine (l1Byte_any B g A len cap _ hlen hg hc hcode).mono ?_
  rintro e w1 ⟨x1, rfl, hx10, hx11, hc1, hg1⟩
  have b1 := below_of hg hc.lt hg1
  go_wp2_with fail
  refine (l1Byte_any B g A len cap _ hlen hg hc1 (hcode.below b1)).mono ?_
  rintro e w2 ⟨x2, rfl, hx20, hx21, hc2, hg2⟩
  have b2 := b1.trans (below_of hg hc1.lt hg2)
  go_wp2_with fail
  refine (l1Byte_any B g A len cap _ hlen hg hc2 (hcode.below b2)).mono ?_
  rintro e w3 ⟨x3, rfl, hx30, hx31, hc3, hg3⟩
  have b3 := b2.trans (below_of hg hc2.lt hg3)
  go_wp2_with fail
  refine (l1Byte_any B g A len cap _ hlen hg hc3 (hcode.below b3)).mono ?_
  rintro e w4 ⟨x4, rfl, hx40, hx41, hc4, hg4⟩
  go_wp2
  go_ret
  have h1 := Int.emod_nonneg (x1 * 16777216 + x2 * 65536 + x3 * 256 + x4) (show n ≠ 0 by omega)
  have h2 := Int.emod_lt_of_pos (x1 * 16777216 + x2 * 65536 + x3 * 256 + x4) (show 0 < n by omega)
  exact ⟨_, rfl, h1, by omega, hc4, ((hg1.trans hg2).trans hg3).trans hg4⟩

theorem l1Below_any (B g : Nat) (A : Option Addr) (len cap : Nat) (n : Int) (w : World) (hn0 : 1 ≤ n) (hn : n ≤ 2147483647) (hlen : len ≤ 1048576) (hg : B ≤ g) (hc : Cur w g A len cap) (hcode : CodeIn B w A len) :
    Calls Tryz.prog 79 #[.pointer (some ⟨g, 0, none⟩), .int .i64 n] w (ByteOut w g A len cap (n - 1)) := by
  by_cases h : n ≤ 256
  · exact l1Below_small B g A len cap n w hn0 h hlen hg hc hcode
  · exact l1Below_big B g A len cap n w (by omega) hn hlen hg hc hcode

def NewOut (w : World) (A : Option Addr) (len cap : Nat) (e : Ending) (w' : World) : Prop :=
  ∃ g : Nat, e = .returned (.pointer (some ⟨g, 0, none⟩)) ∧ w.heap.size ≤ g ∧ Cur w' g A len cap ∧ Below w.heap.size w w'

set_option maxRecDepth 100000 in
set_option maxHeartbeats 400000 in
theorem l1New_any (A : Option Addr) (len cap : Nat) (w : World) (hlen : len ≤ 1048576) (hcode : CodeIn w.heap.size w A len) :
    Calls Tryz.prog 38 #[.slice A len cap] w (NewOut w A len cap) := by
  have HC := Lib.hid hcode
  have hlen' : (len : Int) ≤ 1048576 := by omega
  clear hcode
  go_enter Tryz.func38, Tryz.ntmps38
  go_wp2
  go_loop [3, 4] (fun h i => ∃ (k : Nat) (z : Int), k ≤ len ∧ i = .int .i64 k ∧ h = .int .i64 z) (fun _ i => len - (intOf i).toNat)
  case atStart => exact ⟨0, _, by omega, rfl, rfl⟩
  case round =>
    obtain ⟨k, z, hk, rfl, rfl⟩ := hrel
    by_cases hlt : k < len
    · by_cases h4 : k < 4000
      · have hcd := HC.out
        obtain ⟨b, off, rfl, hbB, hz⟩ : ∃ b off, A = some ⟨b, off, none⟩ ∧ b < w.heap.size ∧ ∀ k, k < len → ∃ z : Int, w.cell? ⟨b, off + k, none⟩ = some (.int .u8 z) ∧ 0 ≤ z ∧ z ≤ 255 := by
          rcases hcd with h0 | h1
          · omega
          · exact h1
        obtain ⟨y, hcz, hz0, hz1⟩ := hz k hlt
        clear hz hcd
        go_wp2
        go_round
        case rel => exact ⟨k + 1, _, by omega, by go_num, rfl⟩
        case measure => simp [intOf]; omega
      · go_wp2
        go_ret
        exact ⟨_, rfl, Nat.le_refl _, ⟨0, z, by omega, heap_alloc_new _ _⟩, (Below.refl _ _).alloc (Nat.le_refl _) _⟩
    · go_wp2
      go_ret
      exact ⟨_, rfl, Nat.le_refl _, ⟨0, z, by omega, heap_alloc_new _ _⟩, (Below.refl _ _).alloc (Nat.le_refl _) _⟩

/-- A number of the kind int is drawn; only the cursor has turned. -/
def NumOut (w : World) (g : Nat) (A : Option Addr) (len cap : Nat) (e : Ending) (w' : World) : Prop :=
  ∃ x : Int, e = .returned (.int .i64 x) ∧ -9223372036854775808 ≤ x ∧ x ≤ 9223372036854775807 ∧ Cur w' g A len cap ∧ w.grownBy w' (some g)

set_option maxRecDepth 100000 in
set_option maxHeartbeats 400000 in
theorem l1PickInt_any (B g : Nat) (A : Option Addr) (len cap : Nat) (L m : Nat) (w : World) (hm1 : 1 ≤ m) (hm : m ≤ 256) (hL : L ≠ g)
    (hcells : ∀ k, k < m → ∃ z : Int, w.cell? ⟨L, k, none⟩ = some (.int .i64 z) ∧ -9223372036854775808 ≤ z ∧ z ≤ 9223372036854775807)
    (hlen : len ≤ 1048576) (hg : B ≤ g) (hc : Cur w g A len cap) (hcode : CodeIn B w A len) :
    Calls Tryz.prog 81 #[.pointer (some ⟨g, 0, none⟩), .slice (some ⟨L, 0, none⟩) m m] w (NumOut w g A len cap) := by
  have HL := Lib.hid hcells
  clear hcells
  go_enter Tryz.func81, Tryz.ntmps81
  go_wp2_with fail
  refine (l1Below_any B g A len cap m _ (by omega) (by omega) hlen hg hc hcode).mono ?_
  rintro e w1 ⟨x, rfl, hx0, hx1, hc1, hg1⟩
  obtain ⟨k, rfl⟩ := Int.eq_ofNat_of_zero_le hx0
  have hk : k < m := by omega
  obtain ⟨z, hz, hz0, hz1⟩ := HL.out k hk
  have hz' : w1.cell? ⟨L, k, none⟩ = some (.int .i64 z) := hg1.cell hz (by simpa using hL)
  go_wp2
  go_ret
  exact ⟨z, rfl, hz0, hz1, hc1, hg1⟩
end Go.Proofs.YtigakhkhjjbboaaGreatDoor
