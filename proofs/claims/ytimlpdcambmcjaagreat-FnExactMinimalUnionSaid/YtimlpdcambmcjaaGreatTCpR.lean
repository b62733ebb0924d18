/- Copies of queries. Conditions: none beyond each theorem's own. -/
import Derived.Test.YtimlpdcambmcjaaGreatS23

namespace Go.Proofs.YtimlpdcambmcjaaGreat
open Go.ChangeShapes Go.WideShapes Go.ChangeAt Go.RowKit Go.Sort
set_option linter.unusedVariables false
set_option linter.unusedSimpArgs false

set_option maxRecDepth 100000 in
set_option maxHeartbeats 1000000 in
theorem copyEachT_anyU (A : Option Addr) (c : Nat) (fs : FL) (hz : szF fs ≤ 1048576) (w : World) (h : RF w A fs) :
    Calls Tryz.prog 84 #[.slice A fs.length c, .func (.func 85) #[] #[]] w (CopyLt w fs) := by
  have hl := szF_len hz
  obtain ⟨C, hC, hCs, hmk⟩ := atom.makeAtoms fs.length hl
  have HI := Lib.hid h
  have HC := Lib.hid hC
  have HS := Lib.hid hCs
  clear h hC hCs
  have hl' : (fs.length : Int) ≤ 1048576 := by omega
  go_enter Tryz.func84, Tryz.ntmps84
  go_wp2
  go_loopw [6, 7, 13] (fun _ _ i wr => ∃ k : Nat, k ≤ fs.length ∧ i = .int .i64 k ∧ atom.OwnP wr w.heap.size wr.heap.size w.heap.size (fs.length * 2) k fs ∧ Below w.heap.size w wr) (fun _ _ i _ => fs.length - (intOf i).toNat)
  case atStart =>
    refine ⟨0, by omega, rfl, ⟨Nat.le_refl _, by simp, fun i => if i % 2 = 0 then .int .i64 0 else .slice none 0 0, fun _ => 0, ⟨C, by rw [heap_alloc_new], HS.out, fun i hi => HC.out i hi⟩, fun j hj => by omega, fun i j _ hj => by omega⟩, below_alloc _ _⟩
  case round =>
    obtain ⟨k, hk, rfl, ho, hb⟩ := hrel
    have HO := Lib.hid ho
    clear ho
    by_cases hlt : k < fs.length
    · generalize hf : fs.getD k (0, []) = f
      obtain ⟨r, xs⟩ := f
      have HF := Lib.hid hf
      have hxl : xs.length ≤ 1048576 := by have := szF_elem hz hlt; rw [hf] at this; exact this
      obtain ⟨b, off, B, c2, rfl, _, e0, e1, hxc, hcm, hI⟩ := (HI.out.step hb).at_ hlt hf
      clear hf
      unfold maxLen at hcm
      have HX := Lib.hid (hI.step (below_alloc wr (.cells #[.int .i64 r, .slice B xs.length c2] 67)))
      clear hI
      go_wp2_with fail
      refine (copyAtom_any r B c2 xs hxl _ HX.out).mono ?_
      rintro e u ⟨A3, c3, q, rfl, hv, d0⟩
      have d := below_new d0
      have hv2 : OwnV u w.heap.size u.heap.size (.slice A3 xs.length c3) q xs := hv.mono (by have := HO.out.2.1; (try simp); omega) (Nat.le_refl _)
      have hq : 0 < xs.length → wr.heap.size ≤ q := fun hp => by
        obtain ⟨_, _, he, _, _, hx⟩ := hv
        obtain ⟨_, h2, _⟩ := hx hp
        (try simp at h2); omega
      have hg : w.heap.size < wr.heap.size := HO.out.2.1
      obtain ⟨F, bs, hrow, _, _⟩ := HO.out.2.2
      have hrow2 : u.rowIs w.heap.size 67 (fs.length * 2) F := World.rowIs.of_block hrow (d.block _ hg)
      have q0 := hrow2.cell (show k * 2 < fs.length * 2 by omega)
      have q1 := hrow2.cell (show k * 2 + 1 < fs.length * 2 by omega)
      have q2 := hrow2.frozen (k * 2)
      have q3 := hrow2.frozen (k * 2 + 1)
      have HV := Lib.hid hv2
      clear hrow hrow2 hv hv2 d0
      go_wp2
      go_roundw
      case rel =>
        refine ⟨k + 1, by omega, by go_num, atom.own_step HO.out (by omega) HF.out d HV.out hq, ?_⟩
        exact ((hb.trans (d.mono hb.size)).setCell (Nat.le_refl _) _).setCell (Nat.le_refl _) _
      case measure => simp [intOf]; omega
    · obtain rfl : k = fs.length := by omega
      go_wp2
      go_ret
      exact ⟨rfl, HO.out, hb, HO.out.2.1⟩


set_option maxRecDepth 100000 in
set_option maxHeartbeats 1000000 in
theorem copyQuery_anyU (H Q : Option Addr) (ch c : Nat) (hs : List Int) (l : FL) (hh : hs.length ≤ 1048576) (hz : szF l ≤ 1048576) (w : World) (h : RI w H hs) (h' : RF w Q l) :
    Calls Tryz.prog 42 #[.agg #[.slice H hs.length ch, .slice Q l.length c]] w (CpQ w hs l) := by
  obtain ⟨w0, hw0⟩ : ∃ W, W = (w.alloc (.cells #[.slice H hs.length ch, .slice Q l.length c] 29)).alloc (.cells #[.slice none 0 0, .slice none 0 0] 29) := ⟨_, rfl⟩
  have E0 := Lib.hid hw0
  have S0 : w.heap.size + 2 ≤ w0.heap.size := by rw [hw0, al_size, al_size]; omega
  have B0 := Lib.hid (show Below w.heap.size w w0 by rw [hw0]; exact step (below_alloc w _) (below_alloc _ _))
  have X0 := Lib.hid (show Box w0 w.heap.size #[.slice H hs.length ch, .slice Q l.length c] 29 by rw [hw0]; exact (Box.new w _ _).step (below_alloc _ _))
  have Y0 := Lib.hid (show Box w0 (w.heap.size + 1) #[.slice none 0 0, .slice none 0 0] 29 by
    rw [hw0]
    have h := Box.new (w.alloc (.cells #[.slice H hs.length ch, .slice Q l.length c] 29)) #[.slice none 0 0, .slice none 0 0] 29
    rwa [al_size] at h)
  have XC := Lib.hid fun (W : World) (b : Below w0.heap.size w0 W) => clone_any H ch hs hh W ((h.step B0.out).step b)
  have XE := Lib.hid fun (W : World) (b : Below w0.heap.size w0 W) => copyEachT_anyU Q c l hz W ((h'.step B0.out).step b)
  have x0 := X0.out.cell 0
  have x1 := X0.out.cell 1
  simp only [List.getElem?_toArray, List.getElem?_cons_zero, List.getElem?_cons_succ] at x0 x1
  clear h h' hw0
  go_enter Tryz.func42, Tryz.ntmps42
  go_upto_region 1 with fail
  rw [← E0.out]
  go_region_law (first
    | (refine callV1 rfl 83 _ _ rfl (.slice H hs.length ch) rfl (by kernel_rfl) (R := fun v' w' => ∃ A c q, v' = .slice A hs.length c ∧ OwnV w' w0.heap.size w'.heap.size (.slice A hs.length c) q hs ∧ Below w0.heap.size w0 w') ((XC.out _ (by first | exact Below.refl _ _ | exact below_drew _)).mono (fun e w' h => by
         obtain ⟨A, c, q, e1, e2, e3⟩ := h
         exact ⟨_, e1, A, c, q, rfl, e2, by first | exact e3 | exact und e3 | exact undN e3⟩)) ?_
       rintro _ u5 ⟨A5, c5, q5, rfl, o5, b5⟩
       have x15 := (b5.cell (p := ⟨w.heap.size, 1, none⟩) (by (try simp) <;> omega)).trans x1
       have O5 := Lib.hid o5
       have D5 := Lib.hid b5
       have z5 := b5.size
       clear o5 b5)
    | (refine callV2 rfl 84 _ _ _ _ rfl (.slice Q l.length c) (.func (.func 85) #[] #[]) rfl rfl (by kernel_rfl) (R := fun v' w' => v' = .slice (some ⟨u5.heap.size, 0, none⟩) l.length l.length ∧ atom.OwnP w' u5.heap.size w'.heap.size u5.heap.size (l.length * 2) l.length l ∧ Below u5.heap.size u5 w' ∧ u5.heap.size < w'.heap.size) ((XE.out _ (by first | exact D5.out | exact step D5.out (below_drew _))).mono (fun e w' h => by
         obtain ⟨e1, e2, e3, e4⟩ := h
         exact ⟨_, e1, rfl, e2, (by first | exact e3 | exact und e3 | exact undN e3), e4⟩)) ?_
       rintro _ u6 ⟨rfl, o6, b6, z6⟩
       have O6 := Lib.hid o6
       have D6 := Lib.hid (step D5.out b6)
       have V6 := Lib.hid (show OwnV u6 w0.heap.size u5.heap.size (.slice A5 hs.length c5) q5 hs from O5.out.keep fun _ h2 _ => b6.block _ h2)
       have Y6 := Lib.hid (Y0.out.step D6.out)
       have q06 := Y6.out.cell 0
       have q16 := Y6.out.cell 1
       have q26 := Y6.out.frozen 0
       have q36 := Y6.out.frozen 1
       simp only [List.getElem?_toArray, List.getElem?_cons_zero, List.getElem?_cons_succ] at q06 q16
       have y6 := Y6.out.lt
       clear o6 b6))
  all_goals
    go_wp2
    refine bodyPost_ret (v := .agg #[.slice A5 hs.length c5, .slice (some ⟨u5.heap.size, 0, none⟩) l.length l.length]) (by simp [results, Tryz.results42, go_sem, q06, q16, q26, q36]) rfl ?_
    refine ⟨A5, c5, q5, u5.heap.size, rfl, ?_, ?_, by omega, by rw [size2]; exact z6, ?_⟩
    · exact (V6.out.keep fun h1 _ _ => (Below.heap_setCell _ ⟨w.heap.size + 1, 1, none⟩ _ q5 (by (try simp at h1 ⊢); omega)).trans (Below.heap_setCell _ ⟨w.heap.size + 1, 0, none⟩ _ q5 (by (try simp at h1 ⊢); omega))).mono (by omega) (Nat.le_refl _)
    · rw [size2]
      exact O6.out.keep fun b h1 _ => (Below.heap_setCell _ ⟨w.heap.size + 1, 1, none⟩ _ b (by (try simp); omega)).trans (Below.heap_setCell _ ⟨w.heap.size + 1, 0, none⟩ _ b (by (try simp); omega))
    · exact Below.setCell (Below.setCell (step B0.out D6.out) (by (try simp) <;> omega) _) (by (try simp) <;> omega) _
end Go.Proofs.YtimlpdcambmcjaaGreat
