/- What the program's AnswerablePart leaves. Conditions: none beyond each theorem's own. Rows of methods that share their inputs: the model's methods without those that have a limit. Conditions: none beyond each theorem's own. -/
import Derived.Test.YtighalbnpgmdfaaAp11
import Derived.Test.YtighalbnpgmdfaaAp8
import Derived.Deep.AppendLies

namespace Go.Proofs.Ytighalbnpgmdfaa
open Go.ChangeShapes Go.WideShapes Go.ChangeAt Go.RowKit Go.Sort
set_option linter.unusedVariables false
set_option linter.unusedSimpArgs false

/-- An answerable part of the call's own, and whether there is one. -/
def APo (w : World) (hs : List Int) (l : FL) (b : Bool) (e : Ending) (w' : World) : Prop := ∃ H A ch c mid, e = .returned (.tuple #[.agg #[.slice H hs.length ch, .slice A l.length c], .bool b]) ∧ QO w' w.heap.size mid w'.heap.size H A ch c hs l ∧ Below w.heap.size w w'
theorem part_no1 {s : List Int} {ms : ML} {hs : List Int} {l : FL} (h : fineB s ms hs l = false) : partB s ms hs l = false ∧ partH s ms hs l = [] ∧ partF s ms hs l = [] := by
  have e : partB s ms hs l = false := by simp [partB, h]
  exact ⟨e, by simp [partH, e], by simp [partF, e]⟩
theorem part_no2 {s : List Int} {ms : ML} {hs : List Int} {l : FL} (h : queryB s hs (partL ms l) = false) : partB s ms hs l = false ∧ partH s ms hs l = [] ∧ partF s ms hs l = [] := by
  have e : partB s ms hs l = false := by simp [partB, h]
  exact ⟨e, by simp [partH, e], by simp [partF, e]⟩
theorem part_yes {s : List Int} {ms : ML} {hs : List Int} {l : FL} (h : fineB s ms hs l = true) (h2 : queryB s hs (partL ms l) = true) : partB s ms hs l = true ∧ partH s ms hs l = hs ∧ partF s ms hs l = partL ms l := by
  have e : partB s ms hs l = true := by simp [partB, h, h2]
  exact ⟨e, by simp [partH, e], by simp [partF, e]⟩
theorem qo_set2 {w : World} {lo mid hi g : Nat} {H A : Option Addr} {ch c : Nat} {hs : List Int} {l : FL} {u v : Value} (h : QO w lo mid hi H A ch c hs l) (hg : g < lo) : QO ((w.setCell ⟨g, 0, none⟩ u).setCell ⟨g, 1, none⟩ v) lo mid hi H A ch c hs l :=
  h.keep (fun b h1 h2 => (Below.heap_setCell _ ⟨g, 1, none⟩ _ b (by (try simp); omega)).trans (Below.heap_setCell _ ⟨g, 0, none⟩ _ b (by (try simp); omega))) (by rw [size2]; exact Nat.le_refl _)
theorem QO.wide {w : World} {lo lo' mid hi hi' : Nat} {H A : Option Addr} {ch c : Nat} {hs : List Int} {l : FL} (h : QO w lo mid hi H A ch c hs l) (h1 : lo' ≤ lo) (h2 : hi ≤ hi') (h3 : hi' ≤ w.heap.size) : QO w lo' mid hi' H A ch c hs l := by
  obtain ⟨⟨q, a1⟩, a2, a3, a4, a5⟩ := h
  refine ⟨⟨q, a1.mono h1 (Nat.le_refl _)⟩, ?_, by omega, by omega, h3⟩
  rcases a2 with a2 | ⟨g, m, e, b1, b2⟩
  · exact .inl a2
  · obtain ⟨c1, c2, F, bs, hr, he, hd⟩ := b1
    exact .inr ⟨g, m, e, ⟨c1, by omega, F, bs, hr, fun j hj => ⟨(he j hj).1, (he j hj).2.mono (Nat.le_refl _) h2⟩, hd⟩, b2⟩

set_option maxRecDepth 100000 in
set_option maxHeartbeats 4000000 in
theorem impl_AnswerablePart (S : Option Addr) (cs : Nat) (s : List Int) (L : Option Addr) (cl : Nat) (ms : ML) (H A : Option Addr) (ch c : Nat) (hs : List Int) (l : FL) (hls : s.length ≤ 1048576) (hzm : szM ms ≤ 1048576) (hh : hs.length ≤ 1048576) (hz : szF l ≤ 1048576) (w : World) (h : RI w S s) (h1 : RM w L ms) (h2 : RI w H hs) (h3 : RF w A l) :
    Calls Try.prog 41 #[.slice S s.length cs, .slice L ms.length cl, .agg #[.slice H hs.length ch, .slice A l.length c]] w (APo w (partH s ms hs l) (partF s ms hs l) (partB s ms hs l)) := by
  obtain ⟨w0, hw0⟩ : ∃ W, W = (w.alloc (.cells #[.slice H hs.length ch, .slice A l.length c] 37)).alloc (.cells #[.slice none 0 0, .slice none 0 0] 37) := ⟨_, rfl⟩
  have E0 := Lib.hid hw0
  have S0 := Lib.hid (show w0.heap.size = w.heap.size + 1 + 1 by rw [hw0, al_size, al_size])
  have B0 := Lib.hid (show Below w.heap.size w w0 by rw [hw0]; exact step (below_alloc w _) (below_alloc _ _))
  have X0 := Lib.hid (show Box w0 w.heap.size #[.slice H hs.length ch, .slice A l.length c] 37 by rw [hw0]; exact (Box.new w _ _).step (below_alloc _ _))
  have Y0 := Lib.hid (show Box w0 (w.heap.size + 1) #[.slice none 0 0, .slice none 0 0] 37 by
    rw [hw0]
    have h := Box.new (w.alloc (.cells #[.slice H hs.length ch, .slice A l.length c] 37)) #[.slice none 0 0, .slice none 0 0] 37
    rwa [al_size] at h)
  have XF := Lib.hid (fineI_any S cs s L cl ms H A ch c hs l hls hzm hh hz w0 (h.step B0.out) (h1.step B0.out) (h2.step B0.out) (h3.step B0.out))
  have HS := Lib.hid h
  have HM := Lib.hid h1
  have HH := Lib.hid h2
  have HF := Lib.hid h3
  have x0 := X0.out.cell 0
  have x1 := X0.out.cell 1
  have y0 := Y0.out.cell 0
  have y1 := Y0.out.cell 1
  have y2 := Y0.out.frozen 0
  have y3 := Y0.out.frozen 1
  simp only [List.getElem?_toArray, List.getElem?_cons_zero, List.getElem?_cons_succ] at x0 x1 y0 y1
  clear h h1 h2 h3 hw0
  by_cases ha : fineB s ms hs l = true
  · have HA := Lib.hid ha
    obtain ⟨hm5, hfew, hl1⟩ := fine_of ha
    have PO := Lib.hid (posA_fine ha)
    have FW := Lib.hid hfew
    have KZ : szF (partL ms l) ≤ 16 := keepN_sz hfew _ (Nat.le_refl _)
    have GL : (firstS (exM ms) l).length ≤ 4 := by have := gr_len (exM ms) l l.length; have := hfew.1; unfold firstS; omega
    have PL := Lib.hid (show partL ms l = keepN l (firstS (exM ms) l) l.length from rfl)
    have R1 := Lib.hid fun (h : queryB s hs (partL ms l) = true) => part_yes ha h
    have R2 := Lib.hid fun (h : queryB s hs (partL ms l) = false) => part_no2 (ms := ms) (l := l) h
    have hl4 := hfew.1
    have HML := Lib.hid (missI_len l.length (firstS (exM ms) l))
    clear ha hfew
    have XE := Lib.hid fun (W : World) (hW : Below w0.heap.size w0 W) => exactSteps_any L cl ms H A ch c hs l PO.out FW.out hzm hm5 W (HM.out.step (step B0.out hW)) (HF.out.step (step B0.out hW))
    have XM := Lib.hid fun (W : World) (O : Option Addr) (co : Nat) (hR : RZ W O (firstS (exM ms) l)) => missingAtoms_any O co (firstS (exM ms) l) H A ch c hs l (by omega) (by omega) W hR
    have XW := Lib.hid fun (W : World) (D : Option Addr) (cd : Nat) (hW : Below w0.heap.size w0 W) (hD : RI W D (missI l.length (firstS (exM ms) l))) => withoutAtoms_any H A D ch c cd hs l (firstS (exM ms) l) hh hz W (HH.out.step (step B0.out hW)) (HF.out.step (step B0.out hW)) hD
    generalize partL ms l = pl at KZ PL R1 R2
    generalize firstS (exM ms) l = fp at GL PL HML XE XM XW
    go_enter Try.func41, Try.ntmps41
    go_wp2_with fail
    rw [← E0.out]
    refine XF.out.mono ?_
    rintro e u ⟨he, d⟩
    rw [HA.out] at he
    subst he
    have D := Lib.hid d
    have X1 := Lib.hid (X0.out.step d)
    have Y1 := Lib.hid (Y0.out.step d)
    have xl := X1.out.lt
    have yl := Y1.out.lt
    clear d x0 x1 y0 y1 y2 y3
    have x0 := X1.out.cell 0
    have x1 := X1.out.cell 1
    simp only [List.getElem?_toArray, List.getElem?_cons_zero, List.getElem?_cons_succ] at x0 x1
    go_wp2
    go_region_held3 (fun w' => w'.cell? ⟨w.heap.size, 0, none⟩ = some (.slice H hs.length ch) ∧ w'.cell? ⟨w.heap.size, 1, none⟩ = some (.slice A l.length c))
      (first
        | go_keep
        | (exact ⟨((below_alloc u7 _).cell (p := ⟨w.heap.size, 0, none⟩) (by (try simp) <;> omega)).trans x07, ((below_alloc u7 _).cell (p := ⟨w.heap.size, 1, none⟩) (by (try simp) <;> omega)).trans x17⟩)
        | (exact ⟨((Below.setCell (Below.setCell (Below.refl u.heap.size u7) (p := ⟨u.heap.size, 0, none⟩) (Nat.le_refl _) _) (p := ⟨u.heap.size, 1, none⟩) (Nat.le_refl _) _).cell (p := ⟨w.heap.size, 0, none⟩) (by (try simp) <;> omega)).trans x07, ((Below.setCell (Below.setCell (Below.refl u.heap.size u7) (p := ⟨u.heap.size, 0, none⟩) (Nat.le_refl _) _) (p := ⟨u.heap.size, 1, none⟩) (Nat.le_refl _) _).cell (p := ⟨w.heap.size, 1, none⟩) (by (try simp) <;> omega)).trans x17⟩)
        | (exact ⟨((Below.setCell (Below.setCell (Below.refl u5.heap.size u7) (p := ⟨u5.heap.size, 0, none⟩) (Nat.le_refl _) _) (p := ⟨u5.heap.size, 1, none⟩) (Nat.le_refl _) _).cell (p := ⟨w.heap.size, 0, none⟩) (by (try simp) <;> omega)).trans x07, ((Below.setCell (Below.setCell (Below.refl u5.heap.size u7) (p := ⟨u5.heap.size, 0, none⟩) (Nat.le_refl _) _) (p := ⟨u5.heap.size, 1, none⟩) (Nat.le_refl _) _).cell (p := ⟨w.heap.size, 1, none⟩) (by (try simp) <;> omega)).trans x17⟩)
        | (exact ⟨((Below.setCell (Below.setCell (Below.refl u6.heap.size u7) (p := ⟨u6.heap.size, 0, none⟩) (Nat.le_refl _) _) (p := ⟨u6.heap.size, 1, none⟩) (Nat.le_refl _) _).cell (p := ⟨w.heap.size, 0, none⟩) (by (try simp) <;> omega)).trans x07, ((Below.setCell (Below.setCell (Below.refl u6.heap.size u7) (p := ⟨u6.heap.size, 0, none⟩) (Nat.le_refl _) _) (p := ⟨u6.heap.size, 1, none⟩) (Nat.le_refl _) _).cell (p := ⟨w.heap.size, 1, none⟩) (by (try simp) <;> omega)).trans x17⟩)
        | (dsimp only; apply And.intro <;> go_keep)
        | (apply And.intro <;> go_keep)
        | ((try dsimp only); apply And.intro <;> first | go_keep | (rw [d5.cell (by (try simp) <;> omega)]; assumption) | (rw [d6.cell (by (try simp) <;> omega)]; assumption) | (rw [d7.cell (by (try simp) <;> omega)]; assumption))
        | (go_split_ands; refine ⟨?_, ?_⟩ <;> go_keep)
        | (go_split_ands; refine ⟨?_, ?_⟩ <;> (rw [d5.cell (by (try simp) <;> omega)]; assumption))
        | (go_split_ands; refine ⟨?_, ?_⟩ <;> (rw [d6.cell (by (try simp) <;> omega)]; assumption))
        | (go_split_ands; refine ⟨?_, ?_⟩ <;> (rw [d7.cell (by (try simp) <;> omega)]; assumption)))
      (first
        | (go_at_call 85
           first
             | (refine (XE.out _ (by first | exact step D.out (below_alloc _ _) | exact step (step D.out (below_drew _)) (below_alloc _ _))).mono ?_
                rintro e u5 ⟨v5, rfl, z5, d5⟩
                have PB5 := Lib.hid (by first | exact (Box.new u #[.slice none 0 0, .slice none 0 0] 37).step d5 | exact (Box.new u.drew #[.slice none 0 0, .slice none 0 0] 37).step d5 : Box u5 u.heap.size #[.slice none 0 0, .slice none 0 0] 37)
                have pl5 := PB5.out.lt
                have b5 := (by first | exact step (below_alloc u (.cells #[.slice none 0 0, .slice none 0 0] 37)) d5 | exact step (step (below_drew u) (below_alloc u.drew (.cells #[.slice none 0 0, .slice none 0 0] 37))) d5 : Below u.heap.size u u5)
                obtain ⟨A5, c5, rfl⟩ := z5.form
                have Z5 := Lib.hid z5.rz
                have B5 := Lib.hid b5
                have s5 := b5.size
                have nu5 : w.heap.size ≠ u.heap.size := by omega
                have nu6 : w.heap.size ≠ u5.heap.size := by omega
                clear z5)
             | (refine (XE.out _ (by first | exact D.out | exact step D.out (below_drew _))).mono ?_
                rintro e u5 ⟨v5, rfl, z5, d5⟩
                have b5 := (by first | exact d5 | exact und d5 | exact undN d5 : Below u.heap.size u u5)
                obtain ⟨A5, c5, rfl⟩ := z5.form
                have Z5 := Lib.hid z5.rz
                have B5 := Lib.hid b5
                have s5 := b5.size
                have nu5 : w.heap.size ≠ u.heap.size := by omega
                have nu6 : w.heap.size ≠ u5.heap.size := by omega
                clear z5))
        | (go_at_call 66
           first
             | (refine (XM.out _ A5 c5 (by exact Z5.out.step (below_alloc _ _))).mono ?_
                rintro e u6 ⟨v6, rfl, o6, d6⟩
                have PB6 := Lib.hid (by first | exact (Box.new u5 #[.slice none 0 0, .slice none 0 0] 37).step d6 | exact (Box.new u5.drew #[.slice none 0 0, .slice none 0 0] 37).step d6 : Box u6 u5.heap.size #[.slice none 0 0, .slice none 0 0] 37)
                have pl6 := PB6.out.lt
                have b6 := (by first | exact step (below_alloc u5 (.cells #[.slice none 0 0, .slice none 0 0] 37)) d6 | exact step (step (below_drew u5) (below_alloc u5.drew (.cells #[.slice none 0 0, .slice none 0 0] 37))) d6 : Below u5.heap.size u5 u6)
                obtain ⟨A6, c6, rfl⟩ := ownsRow_form o6
                have R6 := Lib.hid (show RI u6 A6 (missI l.length fp) from (ints_own o6 (Nat.le_refl _)).mono (Nat.zero_le _) (Nat.le_refl _))
                have B6 := Lib.hid (step B5.out b6)
                have s6 := b6.size
                have nu7 : w.heap.size ≠ u6.heap.size := by omega
                clear o6)
             | (refine (XM.out _ A5 c5 (by first | exact Z5.out | exact Z5.out.step (below_drew _))).mono ?_
                rintro e u6 ⟨v6, rfl, o6, d6⟩
                have b6 := (by first | exact d6 | exact und d6 | exact undN d6 : Below u5.heap.size u5 u6)
                (try (have PB6 := Lib.hid (PB5.out.step b6))) <;> (try (have pl6 := PB6.out.lt))
                obtain ⟨A6, c6, rfl⟩ := ownsRow_form o6
                have R6 := Lib.hid (show RI u6 A6 (missI l.length fp) from (ints_own o6 (Nat.le_refl _)).mono (Nat.zero_le _) (Nat.le_refl _))
                have B6 := Lib.hid (step B5.out b6)
                have s6 := b6.size
                have nu7 : w.heap.size ≠ u6.heap.size := by omega
                clear o6))
        | (go_at_call 84
           first
             | (refine (XW.out _ A6 c6 (by exact step (step D.out B6.out) (below_alloc _ _)) (by exact R6.out.step (below_alloc _ _))).mono ?_
                rintro e u7 ⟨Hx, Ax, chx, cx, mid, he7, o7, d7⟩
                have PB7 := Lib.hid (by first | exact (Box.new u6 #[.slice none 0 0, .slice none 0 0] 37).step d7 | exact (Box.new u6.drew #[.slice none 0 0, .slice none 0 0] 37).step d7 : Box u7 u6.heap.size #[.slice none 0 0, .slice none 0 0] 37)
                have pl7 := PB7.out.lt
                have b7 := (by first | exact step (below_alloc u6 (.cells #[.slice none 0 0, .slice none 0 0] 37)) d7 | exact step (step (below_drew u6) (below_alloc u6.drew (.cells #[.slice none 0 0, .slice none 0 0] 37))) d7 : Below u6.heap.size u6 u7)
                rw [← PL.out] at he7 o7
                subst he7
                have Q7 := Lib.hid o7
                (try (have p07 := PB7.out.cell 0))
                (try (have p17 := PB7.out.cell 1))
                (try (have p27 := PB7.out.frozen 0))
                (try (have p37 := PB7.out.frozen 1))
                (try (simp only [List.getElem?_toArray, List.getElem?_cons_zero, List.getElem?_cons_succ] at p07 p17))
                have B7 := Lib.hid (step D.out (step B6.out b7))
                have Y7 := Lib.hid (Y1.out.step (step B6.out b7))
                have s7 := b7.size
                have x07 := ((step B6.out b7).cell (p := ⟨w.heap.size, 0, none⟩) (by (try simp) <;> omega)).trans x0
                have x17 := ((step B6.out b7).cell (p := ⟨w.heap.size, 1, none⟩) (by (try simp) <;> omega)).trans x1
                have nu8 : w.heap.size ≠ u7.heap.size := by omega
                clear o7)
             | (refine (XW.out _ A6 c6 (by first | exact step D.out B6.out | exact step (step D.out B6.out) (below_drew _)) (by first | exact R6.out | exact R6.out.step (below_drew _))).mono ?_
                rintro e u7 ⟨Hx, Ax, chx, cx, mid, he7, o7, d7⟩
                have b7 := (by first | exact d7 | exact und d7 | exact undN d7 : Below u6.heap.size u6 u7)
                (try (have PB7 := Lib.hid (PB6.out.step b7))) <;> (try (have pl7 := PB7.out.lt))
                rw [← PL.out] at he7 o7
                subst he7
                have Q7 := Lib.hid o7
                (try (have p07 := PB7.out.cell 0))
                (try (have p17 := PB7.out.cell 1))
                (try (have p27 := PB7.out.frozen 0))
                (try (have p37 := PB7.out.frozen 1))
                (try (simp only [List.getElem?_toArray, List.getElem?_cons_zero, List.getElem?_cons_succ] at p07 p17))
                have B7 := Lib.hid (step D.out (step B6.out b7))
                have Y7 := Lib.hid (Y1.out.step (step B6.out b7))
                have s7 := b7.size
                have x07 := ((step B6.out b7).cell (p := ⟨w.heap.size, 0, none⟩) (by (try simp) <;> omega)).trans x0
                have x17 := ((step B6.out b7).cell (p := ⟨w.heap.size, 1, none⟩) (by (try simp) <;> omega)).trans x1
                have nu8 : w.heap.size ≠ u7.heap.size := by omega
                clear o7)))
    all_goals
      clear x0 x1 x07 x17
      have hlu : w.heap.size + 1 < u6.heap.size := by omega
      have szz : (u6.alloc (.cells #[.slice none 0 0, .slice none 0 0] 37)).heap.size = u6.heap.size + 1 := by rw [al_size]
      first
        | (have pb := show Box u7 u.heap.size #[.slice none 0 0, .slice none 0 0] 37 from PB7.out
           have plt := pb.lt
           have hX : w.heap.size + 1 < u.heap.size := by omega
           have b8 : Below u.heap.size u7 ((u7.setCell ⟨u.heap.size, 0, none⟩ (.slice Hx hs.length chx)).setCell ⟨u.heap.size, 1, none⟩ (.slice Ax pl.length cx)) := Below.setCell (p := ⟨u.heap.size, 1, none⟩) (Below.setCell (p := ⟨u.heap.size, 0, none⟩) (Below.refl _ _) (Nat.le_refl _) _) (Nat.le_refl _) _
           have q8 := qo_set2 (g := u.heap.size) (u := .slice Hx hs.length chx) (v := .slice Ax pl.length cx) Q7.out (by first | omega | (rw [al_size]; omega))
           have xb : Box ((u7.setCell ⟨u.heap.size, 0, none⟩ (.slice Hx hs.length chx)).setCell ⟨u.heap.size, 1, none⟩ (.slice Ax pl.length cx)) u.heap.size #[.slice Hx hs.length chx, .slice Ax pl.length cx] 37 := by
             have h1 := pb.set 0 (.slice Hx hs.length chx)
             have h2 := h1.set 1 (.slice Ax pl.length cx)
             simpa using h2
           have y8 : Box ((u7.setCell ⟨u.heap.size, 0, none⟩ (.slice Hx hs.length chx)).setCell ⟨u.heap.size, 1, none⟩ (.slice Ax pl.length cx)) (w.heap.size + 1) _ _ := (b8.block _ hX).trans Y7.out
           have bb := (step B0.out B7.out).trans (b8.mono (by omega))
           obtain ⟨W8, hW8⟩ : ∃ W, W = ((u7.setCell ⟨u.heap.size, 0, none⟩ (.slice Hx hs.length chx)).setCell ⟨u.heap.size, 1, none⟩ (.slice Ax pl.length cx)) := ⟨_, rfl⟩
           have sz : W8.heap.size = u7.heap.size := by rw [hW8, size2]
           rw [← hW8] at q8 xb y8 bb
           have Q8 := Lib.hid (QO.wide (lo' := w.heap.size + 2) (hi' := W8.heap.size) q8 (by first | omega | (rw [al_size]; omega)) (by omega) (Nat.le_refl _))
           rw [← hW8]
           have XB := Lib.hid xb
           have Y8 := Lib.hid y8
           have B8 := Lib.hid bb
           clear b8 q8 xb y8 bb hW8 sz Q7 PB7 Y7 B7 p07 p17 p27 p37 s7 pb plt)
        | (have pb := show Box u7 u5.heap.size #[.slice none 0 0, .slice none 0 0] 37 from PB7.out
           have plt := pb.lt
           have hX : w.heap.size + 1 < u5.heap.size := by omega
           have b8 : Below u5.heap.size u7 ((u7.setCell ⟨u5.heap.size, 0, none⟩ (.slice Hx hs.length chx)).setCell ⟨u5.heap.size, 1, none⟩ (.slice Ax pl.length cx)) := Below.setCell (p := ⟨u5.heap.size, 1, none⟩) (Below.setCell (p := ⟨u5.heap.size, 0, none⟩) (Below.refl _ _) (Nat.le_refl _) _) (Nat.le_refl _) _
           have q8 := qo_set2 (g := u5.heap.size) (u := .slice Hx hs.length chx) (v := .slice Ax pl.length cx) Q7.out (by first | omega | (rw [al_size]; omega))
           have xb : Box ((u7.setCell ⟨u5.heap.size, 0, none⟩ (.slice Hx hs.length chx)).setCell ⟨u5.heap.size, 1, none⟩ (.slice Ax pl.length cx)) u5.heap.size #[.slice Hx hs.length chx, .slice Ax pl.length cx] 37 := by
             have h1 := pb.set 0 (.slice Hx hs.length chx)
             have h2 := h1.set 1 (.slice Ax pl.length cx)
             simpa using h2
           have y8 : Box ((u7.setCell ⟨u5.heap.size, 0, none⟩ (.slice Hx hs.length chx)).setCell ⟨u5.heap.size, 1, none⟩ (.slice Ax pl.length cx)) (w.heap.size + 1) _ _ := (b8.block _ hX).trans Y7.out
           have bb := (step B0.out B7.out).trans (b8.mono (by omega))
           obtain ⟨W8, hW8⟩ : ∃ W, W = ((u7.setCell ⟨u5.heap.size, 0, none⟩ (.slice Hx hs.length chx)).setCell ⟨u5.heap.size, 1, none⟩ (.slice Ax pl.length cx)) := ⟨_, rfl⟩
           have sz : W8.heap.size = u7.heap.size := by rw [hW8, size2]
           rw [← hW8] at q8 xb y8 bb
           have Q8 := Lib.hid (QO.wide (lo' := w.heap.size + 2) (hi' := W8.heap.size) q8 (by first | omega | (rw [al_size]; omega)) (by omega) (Nat.le_refl _))
           rw [← hW8]
           have XB := Lib.hid xb
           have Y8 := Lib.hid y8
           have B8 := Lib.hid bb
           clear b8 q8 xb y8 bb hW8 sz Q7 PB7 Y7 B7 p07 p17 p27 p37 s7 pb plt)
        | (have pb := show Box u7 u6.heap.size #[.slice none 0 0, .slice none 0 0] 37 from PB7.out
           have plt := pb.lt
           have hX : w.heap.size + 1 < u6.heap.size := by omega
           have b8 : Below u6.heap.size u7 ((u7.setCell ⟨u6.heap.size, 0, none⟩ (.slice Hx hs.length chx)).setCell ⟨u6.heap.size, 1, none⟩ (.slice Ax pl.length cx)) := Below.setCell (p := ⟨u6.heap.size, 1, none⟩) (Below.setCell (p := ⟨u6.heap.size, 0, none⟩) (Below.refl _ _) (Nat.le_refl _) _) (Nat.le_refl _) _
           have q8 := qo_set2 (g := u6.heap.size) (u := .slice Hx hs.length chx) (v := .slice Ax pl.length cx) Q7.out (by first | omega | (rw [al_size]; omega))
           have xb : Box ((u7.setCell ⟨u6.heap.size, 0, none⟩ (.slice Hx hs.length chx)).setCell ⟨u6.heap.size, 1, none⟩ (.slice Ax pl.length cx)) u6.heap.size #[.slice Hx hs.length chx, .slice Ax pl.length cx] 37 := by
             have h1 := pb.set 0 (.slice Hx hs.length chx)
             have h2 := h1.set 1 (.slice Ax pl.length cx)
             simpa using h2
           have y8 : Box ((u7.setCell ⟨u6.heap.size, 0, none⟩ (.slice Hx hs.length chx)).setCell ⟨u6.heap.size, 1, none⟩ (.slice Ax pl.length cx)) (w.heap.size + 1) _ _ := (b8.block _ hX).trans Y7.out
           have bb := (step B0.out B7.out).trans (b8.mono (by omega))
           obtain ⟨W8, hW8⟩ : ∃ W, W = ((u7.setCell ⟨u6.heap.size, 0, none⟩ (.slice Hx hs.length chx)).setCell ⟨u6.heap.size, 1, none⟩ (.slice Ax pl.length cx)) := ⟨_, rfl⟩
           have sz : W8.heap.size = u7.heap.size := by rw [hW8, size2]
           rw [← hW8] at q8 xb y8 bb
           have Q8 := Lib.hid (QO.wide (lo' := w.heap.size + 2) (hi' := W8.heap.size) q8 (by first | omega | (rw [al_size]; omega)) (by omega) (Nat.le_refl _))
           rw [← hW8]
           have XB := Lib.hid xb
           have Y8 := Lib.hid y8
           have B8 := Lib.hid bb
           clear b8 q8 xb y8 bb hW8 sz Q7 PB7 Y7 B7 p07 p17 p27 p37 s7 pb plt)
        | (have b8 := below_alloc u7 (.cells #[.slice Hx hs.length chx, .slice Ax pl.length cx] 37)
           have q8 := Q7.out.step b8
           have xb := Box.new u7 #[.slice Hx hs.length chx, .slice Ax pl.length cx] 37
           have y8 := Y7.out.step b8
           have bb := step (step B0.out B7.out) b8
           obtain ⟨W8, hW8⟩ : ∃ W, W = u7.alloc (.cells #[.slice Hx hs.length chx, .slice Ax pl.length cx] 37) := ⟨_, rfl⟩
           have sz : W8.heap.size = u7.heap.size + 1 := by rw [hW8, al_size]
           rw [← hW8] at q8 xb y8 bb
           have Q8 := Lib.hid (QO.wide (lo' := w.heap.size + 2) (hi' := W8.heap.size) q8 (by omega) (by omega) (Nat.le_refl _))
           rw [← hW8]
           have XB := Lib.hid xb
           have Y8 := Lib.hid y8
           have B8 := Lib.hid bb
           clear b8 q8 xb y8 bb hW8 sz Q7 Y7 B7 s7)
      have XQ := Lib.hid (impl_IsQuery S Hx Ax cs chx cx s hs pl hls (by omega) (by omega) _ (HS.out.step B8.out) Q8.out.ri Q8.out.rf)
      have z0 := XB.out.cell 0
      have z1 := XB.out.cell 1
      simp only [List.getElem?_toArray, List.getElem?_cons_zero, List.getElem?_cons_succ] at z0 z1
      by_cases hq : queryB s hs pl = true
      · have HQ := Lib.hid hq
        obtain ⟨r1, r2, r3⟩ := R1.out hq
        have RR := Lib.hid (And.intro r1 (And.intro r2 r3))
        clear hq r1 r2 r3 R1 R2
        go_wp2_with fail
        refine XQ.out.mono ?_
        rintro e u9 ⟨he, d⟩
        rw [HQ.out] at he
        subst he
        have Q9 := Lib.hid (Q8.out.step d)
        have XB9 := Lib.hid (XB.out.step d)
        have Y9 := Lib.hid (Y8.out.step d)
        have B9 := Lib.hid (step B8.out d)
        have s9 := d.size
        clear d
        have z0 := XB9.out.cell 0
        have z1 := XB9.out.cell 1
        have y0 := Y9.out.cell 0
        have y1 := Y9.out.cell 1
        have y2 := Y9.out.frozen 0
        have y3 := Y9.out.frozen 1
        have yl9 := Y9.out.lt
        simp only [List.getElem?_toArray, List.getElem?_cons_zero, List.getElem?_cons_succ] at z0 z1 y0 y1
        go_wp2
        refine bodyPost_ret (v := .tuple #[.agg #[.slice Hx hs.length chx, .slice Ax pl.length cx], .bool true]) (by simp [results, Try.results41, go_sem, y0, y1, y2, y3]) rfl ?_
        rw [RR.out.1, RR.out.2.1, RR.out.2.2]
        have hb := Below.setCell (Below.setCell B9.out (p := ⟨w.heap.size + 1, 0, none⟩) (by (try simp) <;> omega) (.slice Hx hs.length chx)) (p := ⟨w.heap.size + 1, 1, none⟩) (by (try simp) <;> omega) (.slice Ax pl.length cx)
        refine ⟨Hx, Ax, chx, cx, mid, rfl, ?_, hb⟩
        exact QO.wide (qo_set2 Q9.out (by omega)) (by omega) (by rw [size2]; exact s9) (Nat.le_refl _)
      · have hq' : queryB s hs pl = false := by simpa using hq
        have HQ := Lib.hid hq'
        obtain ⟨r1, r2, r3⟩ := R2.out hq'
        have RR := Lib.hid (And.intro r1 (And.intro r2 r3))
        clear hq hq' r1 r2 r3 R1 R2
        go_wp2_with fail
        refine XQ.out.mono ?_
        rintro e u9 ⟨he, d⟩
        rw [HQ.out] at he
        subst he
        have Y9 := Lib.hid (Y8.out.step d)
        have B9 := Lib.hid (step B8.out d)
        clear d
        have y0 := Y9.out.cell 0
        have y1 := Y9.out.cell 1
        have y2 := Y9.out.frozen 0
        have y3 := Y9.out.frozen 1
        have yl9 := Y9.out.lt
        simp only [List.getElem?_toArray, List.getElem?_cons_zero, List.getElem?_cons_succ] at y0 y1
        go_wp2
        refine bodyPost_ret (v := .tuple #[.agg #[.slice none 0 0, .slice none 0 0], .bool false]) (by simp [results, Try.results41, go_sem, y0, y1, y2, y3]) rfl ?_
        rw [RR.out.1, RR.out.2.1, RR.out.2.2]
        have hb := Below.setCell (Below.setCell B9.out (p := ⟨w.heap.size + 1, 0, none⟩) (by (try simp) <;> omega) (.slice none 0 0)) (p := ⟨w.heap.size + 1, 1, none⟩) (by (try simp) <;> omega) (.slice none 0 0)
        exact ⟨none, none, 0, 0, w.heap.size, rfl, qo_nil _ _ hb.size, hb⟩
  · have HA := Lib.hid (show fineB s ms hs l = false by simpa using ha)
    obtain ⟨e1, e2, e3⟩ := part_no1 (hs := hs) (l := l) HA.out
    rw [e1, e2, e3]
    clear ha e1 e2 e3
    go_enter Try.func41, Try.ntmps41
    go_wp2_with fail
    rw [← E0.out]
    refine XF.out.mono ?_
    rintro e u ⟨he, d⟩
    rw [HA.out] at he
    subst he
    have D := Lib.hid (step B0.out d)
    have Y1 := Y0.out.step d
    have y0 := Y1.cell 0
    have y1 := Y1.cell 1
    have y2 := Y1.frozen 0
    have y3 := Y1.frozen 1
    have yl := Y1.lt
    simp only [List.getElem?_toArray, List.getElem?_cons_zero, List.getElem?_cons_succ] at y0 y1
    clear d x0 x1 Y1
    go_wp2
    refine bodyPost_ret (v := .tuple #[.agg #[.slice none 0 0, .slice none 0 0], .bool false]) (by simp [results, Try.results41, go_sem, y0, y1, y2, y3]) rfl ?_
    have hb := Below.setCell (Below.setCell D.out (p := ⟨w.heap.size + 1, 0, none⟩) (by (try simp) <;> omega) (.slice none 0 0)) (p := ⟨w.heap.size + 1, 1, none⟩) (by (try simp) <;> omega) (.slice none 0 0)
    exact ⟨none, none, 0, 0, w.heap.size, rfl, qo_nil _ _ hb.size, hb⟩
end Go.Proofs.Ytighalbnpgmdfaa

namespace Go.Proofs.Ytighalbnpgmdfaa
open Go.ChangeShapes Go.WideShapes Go.ChangeAt Go.RowKit Go.Sort
set_option linter.unusedVariables false
set_option linter.unusedSimpArgs false

/-- The cells of methods whose inputs lie in w. -/
def CsM (w : World) (cs : List Value) (ms : ML) : Prop := ∀ j, j < ms.length → ∃ B c, cs[j * 5]? = some (.int .i64 (ms.getD j noM).1) ∧ cs[j * 5 + 1]? = some (.slice B (ms.getD j noM).2.1.length c) ∧ cs[j * 5 + 2]? = some (.int .i64 (ms.getD j noM).2.2.1) ∧ cs[j * 5 + 3]? = some (.int .i64 (ms.getD j noM).2.2.2.1) ∧ cs[j * 5 + 4]? = some (.int .i64 (ms.getD j noM).2.2.2.2) ∧ (ms.getD j noM).2.1.length ≤ c ∧ c ≤ maxLen ∧ Ints w 0 w.heap.size B (ms.getD j noM).2.1
theorem CsM.nil (w : World) : CsM w [] [] := fun j hj => by simp at hj
theorem CsM.snoc {w : World} {cs : List Value} {ms : ML} (h : CsM w cs ms) (hl : cs.length = ms.length * 5) {r li co qu : Int} {xs : List Int} {B : Option Addr} {c : Nat} (h1 : xs.length ≤ c) (h2 : c ≤ maxLen) (h3 : RI w B xs) : CsM w (cs ++ [.int .i64 r, .slice B xs.length c, .int .i64 li, .int .i64 co, .int .i64 qu]) (ms ++ [(r, xs, li, co, qu)]) := fun j hj => by
  rw [List.length_append, List.length_singleton] at hj
  rcases Nat.lt_or_ge j ms.length with hlt | hge
  · obtain ⟨B', c', a1, a2, a3, a4, a5, a6, a7, a8⟩ := h j hlt
    have e : (ms ++ [(r, xs, li, co, qu)]).getD j noM = ms.getD j noM := by simp [List.getD_eq_getElem?_getD, List.getElem?_append_left hlt]
    rw [e]
    exact ⟨B', c', by rw [List.getElem?_append_left (by omega)]; exact a1, by rw [List.getElem?_append_left (by omega)]; exact a2, by rw [List.getElem?_append_left (by omega)]; exact a3, by rw [List.getElem?_append_left (by omega)]; exact a4, by rw [List.getElem?_append_left (by omega)]; exact a5, a6, a7, a8⟩
  · have hje : j = ms.length := by omega
    subst hje
    have e : (ms ++ [(r, xs, li, co, qu)]).getD ms.length noM = (r, xs, li, co, qu) := by simp [List.getD_eq_getElem?_getD]
    rw [e]
    exact ⟨B, c, by rw [List.getElem?_append_right (by omega), show ms.length * 5 - cs.length = 0 by omega]; rfl, by rw [List.getElem?_append_right (by omega), show ms.length * 5 + 1 - cs.length = 1 by omega]; rfl, by rw [List.getElem?_append_right (by omega), show ms.length * 5 + 2 - cs.length = 2 by omega]; rfl, by rw [List.getElem?_append_right (by omega), show ms.length * 5 + 3 - cs.length = 3 by omega]; rfl, by rw [List.getElem?_append_right (by omega), show ms.length * 5 + 4 - cs.length = 4 by omega]; rfl, h1, h2, h3⟩
theorem meths_rm {w w0 : World} {base c : Nat} {A : Option Addr} {ms : ML} {cs : List Value} (h : w.ownsRow base 71 5 (.slice A ms.length c) ms.length cs) (hi : CsM w0 cs ms) (hb : Below w0.heap.size w0 w) : RM w A ms := fun hne => by
  rcases h.2 with ⟨e, h0⟩ | ⟨g, cap, cur, hv, hbg, hg, _⟩
  · exact absurd (List.length_eq_zero_iff.1 h0) hne
  · injection hv with e1 e2 e3
    subst e1 e3
    have hlt : g < w.heap.size := by
      rcases Nat.lt_or_ge g w.heap.size with h1 | h1
      · exact h1
      · rw [Array.getElem?_eq_none h1] at hg; cases hg
    refine ⟨g, 0, rfl, Nat.zero_le _, hlt, fun k hk => ?_⟩
    obtain ⟨B, c', a1, a2, a3, a4, a5, a6, a7, a8⟩ := hi k hk
    have c1 := World.ownsRow.cells h (g := g) rfl _ _ a1
    have c2 := World.ownsRow.cells h (g := g) rfl _ _ a2
    have c3 := World.ownsRow.cells h (g := g) rfl _ _ a3
    have c4 := World.ownsRow.cells h (g := g) rfl _ _ a4
    have c5 := World.ownsRow.cells h (g := g) rfl _ _ a5
    rw [add_eq] at c1 c2 c3 c4 c5
    exact ⟨B, c', by simpa using c1, by simpa [Nat.add_assoc] using c2, by simpa [Nat.add_assoc] using c3, by simpa [Nat.add_assoc] using c4, by simpa [Nat.add_assoc] using c5, a6, a7, (show RI w0 B _ from a8).step hb⟩

set_option maxRecDepth 100000 in
theorem method_info2 : (Try.prog.info? 71).map (fun i => (i.zero, i.size, i.bytes)) = some (some (.agg #[.int .i64 0, .slice none 0 0, .int .i64 0, .int .i64 0, .int .i64 0]), 5, 56) := by kernel_rfl

/-- append(v, y) of one method, in a new block. -/
theorem wpList_pushMt {P : Program} {W w0 : World} {ops : Array Oper} {rest : List Oper} {o : Oper} {a : Act} {Q : Exit → Act → World → Prop} (hgd : o.guard = none) (s x : Operand) (t : TypeId)
    (ho : o.op = .call { callee := .builtin .append, args := #[s, x], argTypes := #[t, t] })
    (i : TypeInfo) (ht : P.underlying t = some (.slice 71)) (hi : P.info? 71 = some i) (hz : i.zero = some (.agg #[.int .i64 0, .slice none 0 0, .int .i64 0, .int .i64 0, .int .i64 0])) (hz1 : i.size = 5) (hz2 : i.bytes = 56)
    {base n : Nat} {v : Value} {cs : List Value} {y0 y2 y3 y4 : Int} {C : Option Addr} {nl cc : Nat} (hs : a.eval s = v) (hx : a.eval x = .slice (some ⟨W.heap.size, 0, none⟩) 1 1)
    (hown : W.ownsRow base 71 5 v n cs) (hb : Below base w0 W) (hbase : base ≤ W.heap.size) (hn : n + 1 ≤ 1048580)
    (h : ∀ v' w', w'.ownsRow base 71 5 v' (n + 1) (cs ++ [.int .i64 y0, .slice C nl cc, .int .i64 y2, .int .i64 y3, .int .i64 y4]) → Below base w0 w' → base < w'.heap.size → wpList P ops Q rest (a.put o.dst v') w') :
    wpList P ops Q (o :: rest) a (W.alloc (.cells #[.int .i64 y0, .slice C nl cc, .int .i64 y2, .int .i64 y3, .int .i64 y4] 71)) := by
  refine wpList_append_own (P := P) _ hgd s x t ho base 71 i _ 5 56 ht hi hz hz1 hz2 rfl (by omega) v n _ hs (hown.alloc _) ⟨W.heap.size, 0, none⟩ 1 1 [.int .i64 y0, .slice C nl cc, .int .i64 y2, .int .i64 y3, .int .i64 y4] hx rfl
    (World.news_of_block (cs := #[.int .i64 y0, .slice C nl cc, .int .i64 y2, .int .i64 y3, .int .i64 y4]) (t := 71) (fr := (0, 0)) (heap_alloc_new W _)) (by simp [Value.oneCell'])
    (by unfold maxLen; omega) (by omega) (by simp; omega) ?_
  intro v' w' hown' hg _
  exact h v' w' hown' ((hb.alloc hbase _).grown hg (by simp; omega) fun k hk => (hown.lt k hk).1) (by have := hg.size; simp at this; omega)

/-- Methods that the model lists anew. -/
def MtsO (w : World) (ms : ML) (e : Ending) (w' : World) : Prop := ∃ A c, e = .returned (.slice A ms.length c) ∧ RM w' A ms ∧ Below w.heap.size w w'
set_option maxRecDepth 100000 in
set_option maxHeartbeats 2000000 in
theorem l10Exact_any (L : Option Addr) (cl : Nat) (ms : ML) (hzm : szM ms ≤ 1048576) (w : World) (h : RM w L ms) :
    Calls Try.prog 82 #[.slice L ms.length cl] w (MtsO w (exM ms)) := by
  obtain ⟨i0, hi, hz0, hz1, hz2⟩ := info_parts method_info2
  have hm := szM_len hzm
  have hm' : (ms.length : Int) ≤ 1048576 := by omega
  have HM := Lib.hid h
  have B0 := Lib.hid (below_alloc w (.cells #[] 71))
  have OW := Lib.hid (World.ownsRow_lit (base := w.heap.size) (e := 71) (size := 5) w #[] 0 (Nat.le_refl _) (by unfold maxLen; omega) rfl)
  clear h
  go_enter Try.func82, Try.ntmps82
  go_wp2
  go_loopw [3, 4, 5] (fun o i _ wr => ∃ (k : Nat) (A2 : Option Addr) (c2 : Nat) (cs : List Value), k ≤ ms.length ∧ i = .int .i64 k ∧ o = .slice A2 k c2 ∧ Hid (wr.ownsRow w.heap.size 71 5 (.slice A2 k c2) k cs) ∧ Hid (CsM w cs (exM (ms.take k))) ∧ Hid (Below w.heap.size w wr)) (fun _ i _ _ => ms.length - (intOf i).toNat)
  case atStart => exact ⟨0, _, _, [], by omega, rfl, rfl, OW, Lib.hid (CsM.nil w), B0⟩
  case round =>
    obtain ⟨k, A2, c2, cs, hk, rfl, rfl, hown, hcs, hb⟩ := hrel
    have hk0 : (0 : Int) ≤ (k : Int) := by omega
    by_cases hlt : k < ms.length
    · have hk1 : (k : Int) < (ms.length : Int) := by omega
      generalize hf : ms.getD k noM = f
      obtain ⟨r, inp, li, co, qu⟩ := f
      have ES := Lib.hid (exM_snoc ms hlt hf)
      obtain ⟨b, off, C, cc, rfl, n1, e0, e1, e2, e3, e4, hic, hcm, hI⟩ := (HM.out.step hb.out).at_ hlt hf
      obtain ⟨b', off', C', cc', e', n1', f0, f1, f2, f3, f4, hic', hcm', hI'⟩ := HM.out.at_ hlt hf
      have CC : C = C' ∧ cc = cc' := by
        injection e' with e'
        have g1 := (hb.out.cell (p := ⟨b', off' + k * 5 + 1, none⟩) n1').trans f1
        injection e' with h1 h2 h3
        subst h1 h2
        rw [e1] at g1
        injection g1 with g1
        injection g1 with g1 _ g2
        exact ⟨g1, g2⟩
      obtain ⟨rfl, rfl⟩ := CC
      have HII := Lib.hid hI'
      have hcl : cs.length = k * 5 := hown.out.1
      have ML_ := Lib.hid (show (exM (ms.take k)).length = k by rw [exM_len, List.length_take]; omega)
      clear hf e' n1' f0 f1 f2 f3 f4 hic' hcm' hI hI'
      obtain ⟨W0, hW0⟩ : ∃ W0, W0 = wr.alloc (.cells #[.int .i64 r, .slice C inp.length cc, .int .i64 li, .int .i64 co, .int .i64 qu] 71) := ⟨_, rfl⟩
      have bW : Below wr.heap.size wr W0 := by rw [hW0]; exact below_alloc _ _
      have XB : Box W0 wr.heap.size #[.int .i64 r, .slice C inp.length cc, .int .i64 li, .int .i64 co, .int .i64 qu] 71 := by rw [hW0]; exact Box.new _ _ _
      have x0 := XB.cell 0
      have x1 := XB.cell 1
      have x2 := XB.cell 2
      have x3 := XB.cell 3
      have x4 := XB.cell 4
      have x5 := XB.frozen 0
      have xl := XB.lt
      simp only [List.getElem?_toArray, List.getElem?_cons_zero, List.getElem?_cons_succ] at x0 x1 x2 x3 x4
      have O0 := Lib.hid (ownsRow_step hown.out bW)
      have BB := Lib.hid (step hb.out bW)
      have SZ := hb.out.size
      have SW := bW.size
      have SE : W0.heap.size = wr.heap.size + 1 := by rw [hW0, al_size]
      by_cases hc : li = 0
      · subst hc
        have CS := Lib.hid (show CsM w (cs ++ [.int .i64 r, .slice C inp.length cc, .int .i64 0, .int .i64 co, .int .i64 qu]) (exM (ms.take (k + 1))) by
          rw [ES.out]
          exact hcs.out.snoc (by rw [ML_.out]; exact hcl) hic hcm HII.out)
        clear bW XB
        go_wp2_with (at_builtin; rw [← hW0]; refine wpList_pushMt rfl _ _ 33 rfl i0 Try.underlying33 hi hz0 hz1 hz2 rfl (by rw [SE]; rfl) O0.out BB.out (by omega) (by omega) ?_; intro v' w' hown' hb' hs'; obtain ⟨A', c', rfl⟩ := ownsRow_form hown')
        go_roundw
        case rel => exact ⟨k + 1, A', c', _, by omega, by go_num, rfl, Lib.hid hown', CS, Lib.hid hb'⟩
        case measure => simp [intOf]; omega
      · have hc1 : (li == 0) = false := by simpa using hc
        have hc2 : (li != 0) = true := by simpa using hc
        have CS := Lib.hid (show CsM w (cs ++ [.int .i64 (-1), .slice C inp.length cc, .int .i64 li, .int .i64 co, .int .i64 qu]) (exM (ms.take (k + 1))) by
          rw [ES.out]
          unfold exO
          rw [if_neg hc]
          exact hcs.out.snoc (by rw [ML_.out]; exact hcl) hic hcm HII.out)
        have b2 := below_alloc wr (.cells #[.int .i64 (-1), .slice C inp.length cc, .int .i64 li, .int .i64 co, .int .i64 qu] 71)
        have O2 := Lib.hid (ownsRow_step hown.out b2)
        have BB2 := Lib.hid (step hb.out b2)
        clear bW XB b2
        go_wp2_with (at_builtin; refine wpList_pushMt rfl _ _ 33 rfl i0 Try.underlying33 hi hz0 hz1 hz2 rfl (by rw [al_size]; rfl) O2.out BB2.out (by rw [al_size]; omega) (by omega) ?_; intro v' w' hown' hb' hs'; obtain ⟨A', c', rfl⟩ := ownsRow_form hown')
        go_roundw
        case rel => exact ⟨k + 1, A', c', _, by omega, by go_num, rfl, Lib.hid hown', CS, Lib.hid hb'⟩
        case measure => simp [intOf]; omega
    · obtain rfl : k = ms.length := by omega
      have ML_ := Lib.hid (exM_len ms)
      have OO := hown.out
      have CC := hcs.out
      rw [take_all] at CC
      rw [← ML_.out] at OO
      have RR := Lib.hid (meths_rm OO CC hb.out)
      clear OO CC
      go_wp2
      go_ret
      exact ⟨A2, c2, by rw [ML_.out]; rfl, RR.out, hb.out⟩
end Go.Proofs.Ytighalbnpgmdfaa
