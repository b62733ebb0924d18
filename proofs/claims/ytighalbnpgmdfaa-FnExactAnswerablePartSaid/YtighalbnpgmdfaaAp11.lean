/- The atoms that have a step, and what the program's AnswerablePart leaves. Conditions: none beyond each theorem's own. -/
import Derived.Test.YtighalbnpgmdfaaAp10

namespace Go.Proofs.Ytighalbnpgmdfaa
open Go.ChangeShapes Go.WideShapes Go.ChangeAt Go.RowKit Go.Sort
set_option linter.unusedVariables false
set_option linter.unusedSimpArgs false

theorem ownV_nilQ (w : World) (lo hi q : Nat) : OwnV w lo hi (.slice none ([] : List Int).length 0) q [] := ⟨none, 0, rfl, Nat.le_refl _, by unfold maxLen; omega, fun h => absurd h (by simp)⟩
theorem qo_of {w : World} {lo mid ch c q : Nat} {H A : Option Addr} {hs : List Int} {l : FL} {cs : List Value} {bs : Nat → Nat} (hv : OwnV w lo mid (.slice H hs.length ch) q hs) (ho : atom.OwnC w mid w.heap.size (.slice A l.length c) l cs bs) (h1 : lo ≤ mid) (h2 : mid ≤ w.heap.size) : QO w lo mid w.heap.size H A ch c hs l := by
  refine ⟨⟨q, hv⟩, ?_, h1, h2, Nat.le_refl _⟩
  rcases ho.1.2 with ⟨e, h0⟩ | ⟨g, cap, cur, hv', hbg, hg, _⟩
  · exact .inl (List.length_eq_zero_iff.1 h0)
  · injection hv' with e1 e2 e3
    subst e1 e3
    obtain ⟨_, hc, hp⟩ := atom.OwnC.to_P ho
    exact .inr ⟨g, c * 2, rfl, hp, by omega⟩
theorem qo_nil (w : World) (lo : Nat) (h : lo ≤ w.heap.size) : QO w lo lo w.heap.size none none 0 0 [] [] :=
  ⟨⟨0, ownV_nilQ w lo lo 0⟩, .inl rfl, Nat.le_refl _, h, Nat.le_refl _⟩
/-- A query of the call's own. -/
def QWo (w : World) (hs : List Int) (l : FL) (e : Ending) (w' : World) : Prop := ∃ H A ch c mid, e = .returned (.agg #[.slice H hs.length ch, .slice A l.length c]) ∧ QO w' w.heap.size mid w'.heap.size H A ch c hs l ∧ Below w.heap.size w w'

set_option maxRecDepth 100000 in
set_option maxHeartbeats 4000000 in
theorem withoutAtoms_any (H Q D : Option Addr) (ch c cd : Nat) (hs : List Int) (l : FL) (p : SL) (hh : hs.length ≤ 1048576) (hz : szF l ≤ 1048576) (w : World) (h : RI w H hs) (hq : RF w Q l) (hd : RI w D (missI l.length p)) :
    Calls Try.prog 84 #[.agg #[.slice H hs.length ch, .slice Q l.length c], .slice D (missI l.length p).length cd] w (QWo w hs (keepN l p l.length)) := by
  obtain ⟨j0, hji, jz0, jz1, jz2⟩ := info_parts atom.fact_info
  have hl := szF_len hz
  have hl' : (l.length : Int) ≤ 1048576 := by omega
  have hml := missI_len l.length p
  obtain ⟨w0, hw0⟩ : ∃ W, W = (w.alloc (.cells #[.slice H hs.length ch, .slice Q l.length c] 37)).alloc (.cells #[.slice none 0 0, .slice none 0 0] 37) := ⟨_, rfl⟩
  have E0 := Lib.hid hw0
  have S0 := Lib.hid (show w0.heap.size = w.heap.size + 1 + 1 by rw [hw0, al_size, al_size])
  have B0 := Lib.hid (show Below w.heap.size w w0 by rw [hw0]; exact step (below_alloc w _) (below_alloc _ _))
  have X0 := Lib.hid (show Box w0 w.heap.size #[.slice H hs.length ch, .slice Q l.length c] 37 by rw [hw0]; exact (Box.new w _ _).step (below_alloc _ _))
  have Y0 := Lib.hid (show Box w0 (w.heap.size + 1) #[.slice none 0 0, .slice none 0 0] 37 by
    rw [hw0]
    have h := Box.new (w.alloc (.cells #[.slice H hs.length ch, .slice Q l.length c] 37)) #[.slice none 0 0, .slice none 0 0] 37
    rwa [al_size] at h)
  have HQ := Lib.hid hq
  have HD := Lib.hid hd
  have XC := Lib.hid (clone_any H ch hs hh w0 (h.step B0.out))
  have MH := Lib.hid fun i (hi : i < l.length) => miss_has l.length p hi
  have x0 := X0.out.cell 0
  have x1 := X0.out.cell 1
  simp only [List.getElem?_toArray, List.getElem?_cons_zero, List.getElem?_cons_succ] at x0 x1
  clear h hq hw0 hd
  generalize missI l.length p = ds at MH HD hml ⊢
  have hdl : ds.length ≤ 1048576 := by omega
  have hdl' : (ds.length : Int) ≤ 1048576 := by omega
  go_enter Try.func84, Try.ntmps84
  go_wp2_with fail
  rw [← E0.out]
  refine XC.out.mono ?_
  rintro e w5 ⟨AH, cH, q, rfl, hv, hd5⟩
  have HV := Lib.hid hv
  have D5 := Lib.hid hd5
  have s5 := hd5.size
  have t0 := S0.out
  have X5 := X0.out.step hd5
  have x1 := X5.cell 1
  simp only [List.getElem?_toArray, List.getElem?_cons_zero, List.getElem?_cons_succ] at x1
  obtain ⟨g5, hg5⟩ : ∃ g, g = w5.heap.size := ⟨_, rfl⟩
  have gl : w.heap.size + 1 + 1 ≤ g5 := by omega
  have hb6 := below_alloc w5 (.cells #[.slice AH hs.length cH, .slice none 0 0] 37)
  have Z6 := Lib.hid (show Box (w5.alloc (.cells #[.slice AH hs.length cH, .slice none 0 0] 37)) g5 #[.slice AH hs.length cH, .slice none ([] : FL).length 0] 37 by rw [hg5]; exact Box.new _ _ _)
  have X6 := Lib.hid (X5.step hb6)
  have x17 := (X5.step hb6).cell 1
  have Y6 := Lib.hid ((Y0.out.step hd5).step hb6)
  have B6 := Lib.hid (step (step B0.out hd5) hb6)
  have G6 := Lib.hid (show Below g5 w5 (w5.alloc (.cells #[.slice AH hs.length cH, .slice none 0 0] 37)) by rw [hg5]; exact hb6)
  have Z7 : g5 + 1 = (w5.alloc (.cells #[.slice AH hs.length cH, .slice none 0 0] 37)).heap.size := by rw [al_size, hg5]
  have GE := Lib.hid hg5
  obtain ⟨w6, hw6⟩ : ∃ W, W = w5.alloc (.cells #[.slice AH hs.length cH, .slice none 0 0] 37) := ⟨_, rfl⟩
  have E6 := Lib.hid hw6
  rw [← hw6] at Z6 X6 Y6 B6 G6 Z7
  simp only [List.getElem?_toArray, List.getElem?_cons_zero, List.getElem?_cons_succ] at x17
  have ss5 : w.heap.size + 2 ≤ w5.heap.size := by omega
  clear hb6 hw6 hv hd5 X5 s5
  go_wp2
  rw [← E6.out, ← GE.out]
  clear t0 hg5
  go_loopw [6, 7, 15] (fun _ _ i wr => ∃ (k : Nat) (out : FL) (cs : List Value) (bs : Nat → Nat) (A2 : Option Addr) (c2 : Nat), k ≤ l.length ∧ i = .int .i64 k ∧ Hid (out = keepN l p k) ∧ out.length ≤ k ∧ Box wr g5 #[.slice AH hs.length cH, .slice A2 out.length c2] 37 ∧ Hid (atom.OwnC wr (g5 + 1) wr.heap.size (.slice A2 out.length c2) out cs bs) ∧ Hid (Box wr w.heap.size #[.slice H hs.length ch, .slice Q l.length c] 37) ∧ Hid (Box wr (w.heap.size + 1) #[.slice none 0 0, .slice none 0 0] 37) ∧ Hid (Below w.heap.size w wr) ∧ Hid (Below g5 w5 wr) ∧ g5 + 1 ≤ wr.heap.size) (fun _ _ i _ => l.length - (intOf i).toNat)
  case atStart => exact ⟨0, [], [], fun _ => 0, none, 0, by omega, rfl, Lib.hid rfl, by simp, Z6.out, Lib.hid (ownC_nilD _ _ _), X6, Y6, B6, G6, by omega⟩
  case round =>
    obtain ⟨k, out, cs, bs, A2, c2, hk, rfl, hO2, hle, hZ0, hO, hX, hY, hB, hG, hsz⟩ := hrel
    have hZ := Lib.hid hZ0
    clear hZ0
    have hk0 : (0 : Int) ≤ (k : Int) := by omega
    by_cases hlt : k < l.length
    · generalize hf : l.getD k (0, []) = f
      obtain ⟨r, xs⟩ := f
      have HF := Lib.hid hf
      have hxl : xs.length ≤ 1048576 := by have := szF_elem hz hlt; rw [hf] at this; exact this
      have hk1 : (k : Int) < (l.length : Int) := by omega
      obtain ⟨b, off, B, c3, rfl, nb, e0, e1, _, hcm, hJw⟩ := (HQ.out.step hB.out).at_ hlt hf
      clear hf
      have MK := Lib.hid (MH.out k hlt)
      have bW := below_alloc wr (.cells #[.int .i64 r, .slice B xs.length c3] 73)
      have XA0 := Box.new wr #[.int .i64 r, .slice B xs.length c3] 73
      have XK := Lib.hid (contains_any 0 _ D cd ds (k : Int) hdl _ ((HD.out.step hB.out).step bW))
      obtain ⟨wr2, hwr2⟩ : ∃ W, W = wr.alloc (.cells #[.int .i64 r, .slice B xs.length c3] 73) := ⟨_, rfl⟩
      have E2 := Lib.hid hwr2
      rw [← hwr2] at bW XA0 XK
      have XA := Lib.hid XA0
      have JX := Lib.hid (hJw.step bW)
      have O2 := Lib.hid (hO.out.step bW)
      have Z2 := Lib.hid (hZ.out.step bW)
      have X2 := Lib.hid (hX.out.step bW)
      have Y2 := Lib.hid (hY.out.step bW)
      have B2 := Lib.hid (step hB.out bW)
      have G2 := Lib.hid (hG.out.trans (bW.mono (by omega)))
      have sz2 : g5 + 1 ≤ wr2.heap.size := by have := bW.size; omega
      clear hJw bW XA0 hwr2
      by_cases hu : usedB p (k : Int) = true
      · have NT := Lib.hid (show out ++ [(r, xs)] = keepN l p (k + 1) by rw [keepN_yes hu, ← hO2.out, show l.getD k noF = (r, xs) from HF.out])
        have MK2 := Lib.hid (show decide ((k : Int) ∈ ds) = false by rw [MK.out, hu]; rfl)
        clear hu
        go_wp2_with fail
        rw [← E2.out]
        refine XK.out.mono ?_
        rintro e u3 ⟨he, rfl⟩
        rw [MK2.out] at he
        subst he
        have XP := Lib.hid fun (W : World) (b : Below wr2.heap.size wr2 W) => (copyAtom_any r B c3 xs hxl W (JX.out.step b)).mono fun _ _ h => h.toR
        have q1 := Z2.out.cell 1
        have q3 := Z2.out.frozen 1
        have e0 := XA.out.cell 0
        have e1 := XA.out.cell 1
        have xal := XA.out.lt
        simp only [List.getElem?_toArray, List.getElem?_cons_zero, List.getElem?_cons_succ] at q1 e0 e1
        go_wp2
        go_region_law (first
          | (refine callV1 rfl 125 _ _ rfl (.agg #[.int .i64 r, .slice B xs.length c3]) rfl (by kernel_rfl) (R := fun v' w' => ∃ A c q, v' = .agg #[.int .i64 r, .slice A xs.length c] ∧ OwnV w' wr2.heap.size w'.heap.size (.slice A xs.length c) q xs ∧ Below wr2.heap.size wr2 w') ((XP.out _ (by first | exact Below.refl _ _ | exact below_drew _)).mono (fun e w' h => by
               obtain ⟨v, e1, A, c, q, e2, e3, e4⟩ := h
               exact ⟨v, e1, A, c, q, e2, e3, by first | exact e4 | exact und e4 | exact undN e4⟩)) ?_
             rintro _ u5 ⟨A5, c5, q5, rfl, hv5, b5⟩
             have q15 := (b5.cell (p := ⟨g5, 1, none⟩) (by (try simp) <;> omega)).trans q1
             have q17 := ((below_alloc u5 (.cells #[.int .i64 r, .slice A5 xs.length c5] 73)).cell (p := ⟨g5, 1, none⟩) (by have := b5.size; (try simp) <;> omega)).trans q15
             have HV5 := Lib.hid hv5
             have B5 := Lib.hid b5
             have HO5 := Lib.hid ((O2.out.cur (Nat.le_refl _) b5).cur b5.size (below_alloc u5 (.cells #[.int .i64 r, .slice A5 xs.length c5] 73)))
             clear hv5 b5 e0 e1)
          | (refine step_append_lies _ (by rfl) _ _ _ (by rfl) (g5 + 1) 73 j0 _ 2 32 Try.underlying35 hji jz0 jz1 jz2 rfl (by omega) (.slice A2 out.length c2) out.length cs (by rfl) (by first | exact HO5.out.1 | exact HO5.out.1.drew)
               ⟨u5.heap.size, 0, none⟩ 1 1 [.int .i64 r, .slice A5 xs.length c5] (by rfl) (by rfl) (World.news_of_block (cs := #[.int .i64 r, .slice A5 xs.length c5]) (t := 73) (fr := (0, 0)) (heap_alloc_new u5 _)) (by simp [Value.oneCell']) (by omega) (by unfold maxLen; omega) (by omega) (by have := B5.out.size; (try simp) <;> omega) (u5.heap.size + 1) (by simp) ?_
             intro g31 cap31 v31 hown31 hgrow31 hat31 hlt31
             obtain ⟨bs31, ho31, b31⟩ := app_done sz2 B5.out HV5.out HO5.out ⟨hgrow31.os, hgrow31.tape, hgrow31.output, hgrow31.size, hgrow31.block⟩ hown31
             have HO31 := Lib.hid ho31
             have HB31 := Lib.hid b31
             have q16 := (b31.cell (p := ⟨g5, 1, none⟩) (by (try simp) <;> omega)).trans q1
             have q36 := (b31.frozen (p := ⟨g5, 1, none⟩) (by (try simp) <;> omega)).trans q3
             clear hown31 hgrow31 hat31 hlt31 ho31 b31 q15 q17))
        all_goals
          have z31 := HB31.out.size
          clear q16 q36 q1 q3
          go_wp2
          go_roundw
          case rel => exact ⟨k + 1, out ++ [(r, xs)], _, bs31, some ⟨g31, 0, none⟩, cap31, by omega, by go_num, NT, by rw [List.length_append]; simp; omega, drp_rel gl sz2 Z2.out HO31.out X2.out Y2.out B2.out G2.out HB31.out⟩
          case measure => simp [intOf]; omega
      · have hu' : usedB p (k : Int) = false := by simpa using hu
        have NT := Lib.hid (show out = keepN l p (k + 1) by rw [keepN_no hu', ← hO2.out])
        have MK2 := Lib.hid (show decide ((k : Int) ∈ ds) = true by rw [MK.out, hu']; rfl)
        clear hu hu'
        go_wp2_with fail
        rw [← E2.out]
        refine XK.out.mono ?_
        rintro e u3 ⟨he, rfl⟩
        rw [MK2.out] at he
        subst he
        go_wp2
        go_roundw
        case rel => exact ⟨k + 1, out, cs, bs, A2, c2, by omega, by go_num, NT, by omega, Z2.out, O2, X2, Y2, B2, G2, sz2⟩
        case measure => simp [intOf]; omega
    · obtain rfl : k = l.length := by omega
      have OO := Lib.hid hO2.out
      have q0 := hZ.out.cell 0
      have q1 := hZ.out.cell 1
      have y0 := hY.out.cell 0
      have y1 := hY.out.cell 1
      have y2 := hY.out.frozen 0
      have y3 := hY.out.frozen 1
      have yl := hY.out.lt
      simp only [List.getElem?_toArray, List.getElem?_cons_zero, List.getElem?_cons_succ] at q0 q1 y0 y1
      go_wp2
      refine bodyPost_ret (v := .agg #[.slice AH hs.length cH, .slice A2 out.length c2]) (by simp [results, Try.results84, go_sem, y0, y1, y2, y3]) rfl ?_
      rw [← OO.out]
      have gg := GE.out
      have ss := S0.out
      refine ⟨AH, A2, cH, c2, g5 + 1, rfl, qo_of (q := q) ?_ (cs := cs) (bs := bs) ?_ (by omega) (by rw [size2]; omega), ?_⟩
      · have h1 : OwnV wr (w.heap.size + 1 + 1) g5 (.slice AH hs.length cH) q hs := (show OwnV w5 (w.heap.size + 1 + 1) g5 (.slice AH hs.length cH) q hs by have := HV.out; rwa [ss, ← gg] at this).keep fun h1 h2 _ => hG.out.block _ h2
        have h2 := (h1.keep (fun a b _ => Below.heap_setCell wr ⟨w.heap.size + 1, 0, none⟩ (.slice AH hs.length cH) q (by (try simp); omega)))
        have h3 := (h2.keep (fun a b _ => Below.heap_setCell _ ⟨w.heap.size + 1, 1, none⟩ (.slice A2 out.length c2) q (by (try simp); omega)))
        exact h3.mono (by omega) (by omega)
      · rw [size2]
        exact ownC_setD (p := ⟨w.heap.size + 1, 1, none⟩) (u := .slice A2 out.length c2) (ownC_setD (p := ⟨w.heap.size + 1, 0, none⟩) (u := .slice AH hs.length cH) hO.out (by (try simp); omega)) (by (try simp); omega)
      · exact Below.setCell (Below.setCell hB.out (by (try simp) <;> omega) _) (by (try simp) <;> omega) _
end Go.Proofs.Ytighalbnpgmdfaa
