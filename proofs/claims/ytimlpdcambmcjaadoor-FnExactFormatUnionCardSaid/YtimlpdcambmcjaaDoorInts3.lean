/- What copying, marking and asking for marks on lists of numbers do. Conditions: none beyond each theorem's own. -/
import Derived.Test.YtimlpdcambmcjaaDoorInts2
namespace Go.Proofs.YtimlpdcambmcjaaDoor
open Go.ChangeShapes Go.WideShapes Go.ChangeAt Go.RowKit
set_option linter.unusedVariables false
set_option linter.unusedSimpArgs false

set_option maxRecDepth 100000 in
theorem int_info : (Tryd.prog.info? 3).map (fun i => (i.zero, i.size, i.bytes)) = some (some (.int .i64 0), 1, 8) := by kernel_rfl

/-- Block g is just the numbers xs, not frozen. -/
def Row (w : World) (g : Nat) (xs : List Int) : Prop := w.rowIs g 3 xs.length (fun i => .int .i64 (xs.getD i 0))
theorem Row.ints {w : World} {g : Nat} {xs : List Int} (h : Row w g xs) : Ints w g (g + 1) (some ⟨g, 0, none⟩) xs := fun _ =>
  ⟨g, 0, rfl, by omega, by omega, fun k hk => by rw [Nat.zero_add]; exact World.rowIs.cell h hk⟩
theorem Row.of_block {w w' : World} {g : Nat} {xs : List Int} (h : Row w g xs) (e : w'.heap[g]? = w.heap[g]?) : Row w' g xs := World.rowIs.of_block h e

theorem makeInts (n : Nat) (hn : n ≤ 1048576) (W : World) :
    ∃ C : Array Value, (∀ i, i < n → C[i]? = some (.int .i64 0)) ∧ C.size = n ∧ ∀ W : World, (Instr.makeSlice 30 (.int .i64 (n : Int)) (.int .i64 (n : Int))).run Tryd.prog W = .ok (.slice (some ⟨W.heap.size, 0, none⟩) n n) (W.alloc (.cells C 3)) := by
  obtain ⟨i0, hi, hz0, hz1, hz2⟩ := info_parts int_info
  refine ⟨madeCells #[.int .i64 0] n, fun i hin => ?_, size_madeCells _ _, fun W => ?_⟩
  · simp [madeCells, hin, Nat.mod_one]
  · have h := run_make (P := Tryd.prog) W 30 3 i0 (.int .i64 0) Tryd.underlying30 hi hz0 .i64 .i64 (n : Int) (n : Int) (by omega) (by omega) (by rw [hz2]; omega) (by omega)
    rw [hz1, show ((n : Int)).toNat = n by omega, Nat.mul_one] at h
    exact h

set_option maxHeartbeats 400000 in
set_option maxRecDepth 100000 in
theorem toIntS_any (lo hi : Nat) (A : Option Addr) (c : Nat) (xs : List Int) (hl : xs.length ≤ 1048576) (w : World) (hhi : hi ≤ w.heap.size) (h : Ints w lo hi A xs) :
    Calls Tryd.prog 22 #[.slice A xs.length c] w fun e w' => e = .returned (.slice (some ⟨w.heap.size, 0, none⟩) xs.length xs.length) ∧ Row w' w.heap.size xs ∧ Below w.heap.size w w' ∧ w'.heap.size = w.heap.size + 1 := by
  obtain ⟨C, hC, hCs, hmk⟩ := makeInts xs.length hl w
  have HI := Lib.hid h
  have HC := Lib.hid hC
  have HS := Lib.hid hCs
  clear h hC hCs
  have hl' : (xs.length : Int) ≤ 1048576 := by omega
  go_enter Tryd.func22, Tryd.ntmps22
  go_wp2
  go_loopw [4] (fun i wr => ∃ k : Nat, k ≤ xs.length ∧ i = .int .i64 k ∧ (∃ f, wr.rowIs w.heap.size 3 xs.length f ∧ ∀ j, j < k → f j = .int .i64 (xs.getD j 0)) ∧ Below w.heap.size w wr ∧ wr.heap.size = w.heap.size + 1) (fun i _ => xs.length - (intOf i).toNat)
  case atStart => exact ⟨0, by omega, rfl, ⟨fun _ => .int .i64 0, ⟨C, by rw [heap_alloc_new], HS.out, fun i hi => HC.out i hi⟩, fun j hj => by omega⟩, (Below.refl _ _).alloc (Nat.le_refl _) _, by simp⟩
  case round =>
    obtain ⟨k, hk, rfl, ⟨f, hr, hf⟩, hb, hsz⟩ := hrel
    have HF := Lib.hid hf
    have HR := Lib.hid hr
    have HZ := Lib.hid hsz
    clear hf hr hsz
    by_cases hlt : k < xs.length
    · have hz1 := HR.out.cell hlt
      have hz2 := HR.out.frozen k
      obtain ⟨b, off, rfl, _, hbhi, hc⟩ := (HI.out.below hb hhi).at_ hlt
      generalize hx : xs.getD k 0 = x at hc
      have HX := Lib.hid hx
      clear hx
      go_wp2
      go_roundw
      case rel =>
        refine ⟨k + 1, by omega, by go_num, ⟨_, HR.out.set k _, fun j hj => ?_⟩, hb.setCell (Nat.le_refl _) _, by rw [← HZ.out]; simp [World.setCell]⟩
        by_cases e : j = k
        · subst e; rw [if_pos rfl, HX.out]
        · rw [if_neg e]; exact HF.out j (by omega)
      case measure => simp [intOf]; omega
    · obtain rfl : k = xs.length := by omega
      go_wp2
      go_ret
      exact ⟨rfl, HR.out.congr fun i hi => HF.out i hi, hb, HZ.out⟩

/-- Only the blocks from lo to below hi have turned. -/
structure Within (lo hi : Nat) (w w' : World) : Prop where
  os : w'.os = w.os
  tape : w'.tape = w.tape
  output : w'.output = w.output
  size : w'.heap.size = w.heap.size
  block : ∀ k, k < lo ∨ hi ≤ k → w'.heap[k]? = w.heap[k]?
theorem Within.refl (lo hi : Nat) (w : World) : Within lo hi w w := ⟨rfl, rfl, rfl, rfl, fun _ _ => rfl⟩
theorem Within.trans {lo hi : Nat} {a b c : World} (h : Within lo hi a b) (k : Within lo hi b c) : Within lo hi a c :=
  ⟨k.os.trans h.os, k.tape.trans h.tape, k.output.trans h.output, k.size.trans h.size, fun i hi => (k.block i hi).trans (h.block i hi)⟩
theorem Within.mono {lo hi lo' hi' : Nat} {a b : World} (h : Within lo hi a b) (h1 : lo' ≤ lo) (h2 : hi ≤ hi') : Within lo' hi' a b :=
  ⟨h.os, h.tape, h.output, h.size, fun k hk => h.block k (by omega)⟩
theorem Within.set {lo hi : Nat} {a w : World} (h : Within lo hi a w) {p : Addr} (h1 : lo ≤ p.block) (h2 : p.block < hi) (u : Value) : Within lo hi a (w.setCell p u) :=
  h.trans ⟨rfl, rfl, rfl, by simp [World.setCell], fun k hk => Below.heap_setCell _ _ _ _ (by omega)⟩
theorem Within.drewN {lo hi : Nat} {a w : World} (h : Within lo hi a w) (n : Nat) : Within lo hi a (w.drewN n) := ⟨h.os, h.tape, h.output, h.size, h.block⟩
theorem Within.below {lo hi : Nat} {a w : World} (h : Within lo hi a w) : Below lo a w := ⟨h.os, h.tape, h.output, by rw [h.size]; exact Nat.le_refl _, fun k hk => h.block k (.inl hk)⟩
theorem Ints.within {w w' : World} {lo hi l h' : Nat} {A : Option Addr} {xs : List Int} (h : Ints w lo hi A xs) (hb : Within l h' w w') (hN : hi ≤ l ∨ h' ≤ lo) : Ints w' lo hi A xs :=
  h.keep fun b _ h2 => hb.block b (by omega)

/-- The numbers k, k+1, .. of length n. -/
def marks (k : Int) (n : Nat) : List Int := (List.range n).map fun i : Nat => k + (i : Int)
theorem marks_length (k : Int) (n : Nat) : (marks k n).length = n := by simp [marks]
theorem marks_getD (k : Int) (n i : Nat) (h : i < n) : (marks k n).getD i 0 = k + i := by simp [marks, List.getD_eq_getElem?_getD, h]

/-- Numbers of the call's own: a slice value that owns its block, or has no elements. -/
def OwnInts (w : World) (g : Nat) (n : Nat) : Prop := ∃ m f, n ≤ m ∧ w.rowIs g 3 m f

end Go.Proofs.YtimlpdcambmcjaaDoor
