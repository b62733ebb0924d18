/- What formatWords and formatEach answer on numbers, whatever the format. Conditions: none beyond each theorem's own. -/
import Derived.Test.YtimlpdcambmcjaaDoorReads
import Derived.Test.YtimlpdcambmcjaaDoorShelf
namespace Go.Proofs.YtimlpdcambmcjaaDoor
open Go.ChangeShapes Go.WideShapes Go.ChangeAt Go.RowKit Go.Sort
set_option linter.unusedVariables false
set_option linter.unusedSimpArgs false

theorem string_info : (Tryd.prog.info? 9).map (fun i => (i.zero, i.size, i.bytes)) = some (some (.string ⟨#[]⟩), 1, 16) := by kernel_rfl
theorem makeStrs (n : Nat) (hn : n ≤ 1048576) :
    ∃ C : Array Value, (∀ i, i < n → C[i]? = some (.string ⟨#[]⟩)) ∧ C.size = n ∧ ∀ W : World, (Instr.makeSlice 52 (.int .i64 (n : Int)) (.int .i64 (n : Int))).run Tryd.prog W = .ok (.slice (some ⟨W.heap.size, 0, none⟩) n n) (W.alloc (.cells C 9)) := by
  obtain ⟨i0, hi, hz0, hz1, hz2⟩ := info_parts string_info
  refine ⟨madeCells #[.string ⟨#[]⟩] n, fun i hin => ?_, size_madeCells _ _, fun W => ?_⟩
  · simp [madeCells, hin, Nat.mod_one]
  · have h := run_make (P := Tryd.prog) W 52 9 i0 (.string ⟨#[]⟩) Tryd.underlying52 hi hz0 .i64 .i64 (n : Int) (n : Int) (by omega) (by omega) (by rw [hz2]; omega) (by omega)
    rw [hz1, show ((n : Int)).toNat = n by omega, Nat.mul_one] at h
    exact h

/-- In a new row lie the words ws. -/
def WdsOut (w : World) (ws : List ByteArray) (e : Ending) (w' : World) : Prop :=
  e = .returned (.slice (some ⟨w.heap.size, 0, none⟩) ws.length ws.length) ∧ w'.rowIs w.heap.size 9 ws.length (fun j => .string (ws.getD j ⟨#[]⟩)) ∧ Below w.heap.size w w' ∧ w.heap.size < w'.heap.size
theorem getD_map {α : Type} (l : List α) (wd : α → ByteArray) (d : α) {j : Nat} (hj : j < l.length) : (l.map wd).getD j ⟨#[]⟩ = wd (l.getD j d) := by
  simp [List.getD_eq_getElem?_getD, List.getElem?_map, hj]
theorem words_cells {w' : World} {g : Nat} {ws : List ByteArray} (h : w'.rowIs g 9 ws.length (fun j => .string (ws.getD j ⟨#[]⟩))) (j : Nat) (x : ByteArray) (hx : ws[j]? = some x) : w'.cell? ⟨g, 0 + j, none⟩ = some (.string x) := by
  have hj : j < ws.length := (List.getElem?_eq_some_iff.1 hx).1
  rw [Nat.zero_add, h.cell hj, List.getD_eq_getElem?_getD, hx]
  rfl

set_option maxRecDepth 100000 in
set_option maxHeartbeats 1000000 in
theorem formatWords_int (n : Nat) (hn : ∀ args W, (callFunc n args).run Tryd.prog W = .ok (.enter n args) W) (wd : Int → ByteArray) (A : Option Addr) (c : Nat) (xs : List Int) (hl : xs.length ≤ 1048576) (w : World) (h : RI w A xs)
    (hF : ∀ j, j < xs.length → ∀ W, Below w.heap.size w W → Calls Tryd.prog n #[.int .i64 (xs.getD j 0)] W fun e w' => e = .returned (.string (wd (xs.getD j 0))) ∧ Below W.heap.size W w') :
    Calls Tryd.prog 69 #[.slice A xs.length c, .func (.func n) #[] #[]] w (WdsOut w (xs.map wd)) := by
  obtain ⟨C, hC, hCs, hmk⟩ := makeStrs xs.length hl
  have HI := Lib.hid h
  have HF := Lib.hid hF
  have HC := Lib.hid hC
  have HS := Lib.hid hCs
  have hl' : (xs.length : Int) ≤ 1048576 := by omega
  clear h hF hC hCs
  go_enter Tryd.func69, Tryd.ntmps69
  go_wp2
  go_loopw [6, 7, 13] (fun _ _ i wr => ∃ k : Nat, k ≤ xs.length ∧ i = .int .i64 k ∧ (∃ f, wr.rowIs w.heap.size 9 xs.length f ∧ ∀ j, j < k → f j = .string (wd (xs.getD j 0))) ∧ Below w.heap.size w wr ∧ w.heap.size < wr.heap.size) (fun _ _ i _ => xs.length - (intOf i).toNat)
  case atStart => exact ⟨0, by omega, rfl, ⟨fun _ => .string ⟨#[]⟩, ⟨C, by rw [heap_alloc_new], HS.out, fun i hi => HC.out i hi⟩, fun j hj => by omega⟩, below_alloc _ _, by simp⟩
  case round =>
    obtain ⟨k, hk, rfl, ⟨f, hr, hf⟩, hb, hsz⟩ := hrel
    have HFF := Lib.hid hf
    have HR := Lib.hid hr
    clear hf hr
    by_cases hlt : k < xs.length
    · obtain ⟨b, off, rfl, _, hc⟩ := (HI.out.step hb).at_ hlt
      have XF := Lib.hid (HF.out k hlt wr hb)
      generalize hx : xs.getD k 0 = x at hc XF
      have HX := Lib.hid hx
      generalize hy : wd x = y at XF
      have HY := Lib.hid hy
      clear hx hy
      go_wp2_with fail
      go_at_fn n
      refine XF.out.mono ?_
      rintro e u ⟨rfl, d⟩
      have hb2 := step hb d
      have HR2 := Lib.hid (World.rowIs.of_block HR.out (d.block _ hsz))
      have hsz2 : w.heap.size < u.heap.size := by have := d.size; omega
      have hz1 := HR2.out.cell hlt
      have hz2 := HR2.out.frozen k
      clear d
      go_wp2
      go_roundw
      case rel =>
        refine ⟨k + 1, by omega, by go_num, ⟨_, HR2.out.set k _, fun j hj => ?_⟩, hb2.setCell (Nat.le_refl _) _, by simpa [World.setCell] using hsz2⟩
        by_cases e : j = k
        · subst e; rw [if_pos rfl, HX.out, HY.out]
        · rw [if_neg e]; exact HFF.out j (by omega)
      case measure => simp [intOf]; omega
    · obtain rfl : k = xs.length := by omega
      have O := Lib.hid (show WdsOut w (xs.map wd) (.returned (.slice (some ⟨w.heap.size, 0, none⟩) xs.length xs.length)) wr by
        refine ⟨by rw [List.length_map], ?_, hb, hsz⟩
        rw [List.length_map]
        exact HR.out.congr fun j hj => by rw [HFF.out j hj, getD_map xs wd 0 hj])
      go_wp2
      go_ret
      exact O.out

set_option maxRecDepth 100000 in
set_option maxHeartbeats 1000000 in
theorem formatEach_int (n : Nat) (hn : ∀ args W, (callFunc n args).run Tryd.prog W = .ok (.enter n args) W) (wd : Int → ByteArray) (sep : ByteArray) (A : Option Addr) (c : Nat) (xs : List Int) (hl : xs.length ≤ 1048576) (w : World) (h : RI w A xs)
    (hF : ∀ j, j < xs.length → ∀ W, Below w.heap.size w W → Calls Tryd.prog n #[.int .i64 (xs.getD j 0)] W fun e w' => e = .returned (.string (wd (xs.getD j 0))) ∧ Below W.heap.size W w')
    (L : List UInt8) (hL : Lib.join ((xs.map wd).map (·.data.toList)) sep.data.toList = L) (hlen : L.length ≤ 140737488355328) :
    Calls Tryd.prog 63 #[.slice A xs.length c, .string sep, .func (.func n) #[] #[]] w fun e w' => e = .returned (.string ⟨L.toArray⟩) ∧ Below w.heap.size w w' := by
  have XW := Lib.hid (formatWords_int n hn wd A c xs hl w h hF)
  have hm : (xs.map wd).length = xs.length := List.length_map _
  have HL := Lib.hid hL
  have HN := Lib.hid hlen
  clear h hF hL hlen
  generalize hws : xs.map wd = ws at XW hm HL
  have hw1 : ws.length ≤ 1048576 := by omega
  clear hws hm
  go_enter Tryd.func63, Tryd.ntmps63
  go_wp2_with fail
  refine XW.out.mono ?_
  rintro e u ⟨rfl, hr, hb, hsz⟩
  have HJ := Lib.hid (Tryd.strings_Join w.heap.size 0 ws.length ws sep u (words_cells hr) hsz (by omega) (Nat.le_refl _) (by rw [HL.out]; exact HN.out))
  have HB := Lib.hid hb
  rw [HL.out] at HJ
  clear hr hb hsz
  go_wp2_with fail
  refine HJ.out.mono ?_
  rintro e u2 ⟨rfl, d⟩
  go_wp2
  go_ret
  exact ⟨rfl, step HB.out d⟩
end Go.Proofs.YtimlpdcambmcjaaDoor
