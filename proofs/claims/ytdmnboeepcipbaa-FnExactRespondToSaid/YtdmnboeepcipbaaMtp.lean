/- What the program's MatchesOf answers. Conditions: none beyond each theorem's own. -/
import Derived.Test.YtdmnboeepcipbaaMto
namespace Go.Proofs.Ytdmnboeepcipbaa
open Go.ChangeShapes Go.WideShapes Go.ChangeAt Go.RowKit Go.Sort
set_option linter.unusedVariables false
set_option linter.unusedSimpArgs false

set_option maxHeartbeats 1000000 in
set_option maxRecDepth 100000 in
theorem callOf_any (L : Option Addr) (cl : Nat) (l : ML) (k : Nat) (vs : List Int) (V : Option Addr) (cv : Nat) (hk : k < l.length) (hz : szM l ≤ 1048576) (r li co qu : Int) (xs : List Int) (hf : l.getD k noM = (r, xs, li, co, qu)) (w : World) (h : RM w L l) :
    Calls Try.prog 66 #[.slice L l.length cl, .agg #[.int .i64 (k : Int), .slice V vs.length cv]] w fun e w' => ∃ B c2, e = .returned (.agg #[.int .i64 r, .slice B xs.length c2, .int .i64 li, .int .i64 co, .int .i64 qu, .slice V vs.length cv]) ∧ RI w' B xs ∧ Below w.heap.size w w' := by
  have hl := szM_len hz
  have hl' : (l.length : Int) ≤ 1048576 := by omega
  have hk0 : (0 : Int) ≤ (k : Int) := by omega
  have hk1 : (k : Int) < (l.length : Int) := by omega
  obtain ⟨b, off, B, c2, rfl, n1, E0, E1, E2, E3, E4, _, _, hX⟩ := h.at_ hk hf
  have bb := step (below_alloc w (.cells #[.int .i64 (k : Int), .slice V vs.length cv] 36)) (below_alloc _ (.cells #[.int .i64 0, .slice none 0 0, .int .i64 0, .int .i64 0, .int .i64 0, .slice none 0 0] 98))
  have X0 := (Box.new w #[.int .i64 (k : Int), .slice V vs.length cv] 36).step (below_alloc _ (.cells #[.int .i64 0, .slice none 0 0, .int .i64 0, .int .i64 0, .int .i64 0, .slice none 0 0] 98))
  have X1 := Box.new (w.alloc (.cells #[.int .i64 (k : Int), .slice V vs.length cv] 36)) #[.int .i64 0, .slice none 0 0, .int .i64 0, .int .i64 0, .int .i64 0, .slice none 0 0] 98
  simp only [al_size] at X1
  have x0 := X0.cell 0
  have x1 := X0.cell 1
  simp only [List.getElem?_toArray, List.getElem?_cons_zero, List.getElem?_cons_succ] at x0 x1
  have e0 := (bb.cell (p := ⟨b, off + k * 5, none⟩) n1).trans E0
  have e1 := (bb.cell (p := ⟨b, off + k * 5 + 1, none⟩) n1).trans E1
  have e2 := (bb.cell (p := ⟨b, off + k * 5 + 2, none⟩) n1).trans E2
  have e3 := (bb.cell (p := ⟨b, off + k * 5 + 3, none⟩) n1).trans E3
  have e4 := (bb.cell (p := ⟨b, off + k * 5 + 4, none⟩) n1).trans E4
  have bf := (step (below_alloc w (.cells #[.int .i64 (k : Int), .slice V vs.length cv] 36)) (below_alloc _ (.cells #[.int .i64 r, .slice B xs.length c2, .int .i64 li, .int .i64 co, .int .i64 qu, .slice V vs.length cv] 98))).drew
  have f0 := (bf.cell (p := ⟨b, off + k * 5, none⟩) n1).trans E0
  have f1 := (bf.cell (p := ⟨b, off + k * 5 + 1, none⟩) n1).trans E1
  have f2 := (bf.cell (p := ⟨b, off + k * 5 + 2, none⟩) n1).trans E2
  have f3 := (bf.cell (p := ⟨b, off + k * 5 + 3, none⟩) n1).trans E3
  have f4 := (bf.cell (p := ⟨b, off + k * 5 + 4, none⟩) n1).trans E4
  have BF := Lib.hid bf
  have HX := Lib.hid hX
  clear h hf hX bb bf X0 X1 E0 E1 E2 E3 E4
  go_enter Try.func66, Try.ntmps66
  go_wp2
  go_region_held3 (fun w' => w'.cell? ⟨w.heap.size, 0, none⟩ = some (.int .i64 (k : Int)) ∧ w'.cell? ⟨w.heap.size, 1, none⟩ = some (.slice V vs.length cv) ∧ w'.cell? ⟨b, off + k * 5, none⟩ = some (.int .i64 r) ∧ w'.cell? ⟨b, off + k * 5 + 1, none⟩ = some (.slice B xs.length c2) ∧ w'.cell? ⟨b, off + k * 5 + 2, none⟩ = some (.int .i64 li) ∧ w'.cell? ⟨b, off + k * 5 + 3, none⟩ = some (.int .i64 co) ∧ w'.cell? ⟨b, off + k * 5 + 4, none⟩ = some (.int .i64 qu))
    (first
      | go_keep
      | (go_split_ands; refine ⟨?_, ?_, ?_, ?_, ?_, ?_, ?_⟩ <;> first | assumption | go_keep))
    (fail)
  go_wp2
  have Y := (Box.new (w.alloc (.cells #[.int .i64 (k : Int), .slice V vs.length cv] 36)) #[.int .i64 r, .slice B xs.length c2, .int .i64 li, .int .i64 co, .int .i64 qu, .slice V vs.length cv] 98).step (below_drew _)
  rw [al_size] at Y
  have y0 := Y.cell 0
  have y1 := Y.cell 1
  have y2 := Y.cell 2
  have y3 := Y.cell 3
  have y4 := Y.cell 4
  have y5 := Y.cell 5
  simp only [List.getElem?_toArray, List.getElem?_cons_zero, List.getElem?_cons_succ] at y0 y1 y2 y3 y4 y5
  refine bodyPost_ret (v := .agg #[.int .i64 r, .slice B xs.length c2, .int .i64 li, .int .i64 co, .int .i64 qu, .slice V vs.length cv]) (by simp [results, Try.results66, go_sem, y0, y1, y2, y3, y4, y5]) rfl ⟨B, c2, rfl, HX.out.step BF.out, BF.out⟩

end Go.Proofs.Ytdmnboeepcipbaa
