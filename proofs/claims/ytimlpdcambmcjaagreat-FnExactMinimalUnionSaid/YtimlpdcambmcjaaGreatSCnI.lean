/- What the program's IsContained answers. Conditions: none beyond each theorem's own. -/
import Derived.Test.YtimlpdcambmcjaaGreatS37
import Derived.Test.YtimlpdcambmcjaaGreatS33
import Derived.Deep.RegionHeld3
import Derived.Deep.DeepCutAuto
import Derived.Deep.Cut

namespace Go.Proofs.YtimlpdcambmcjaaGreat
open Go.ChangeShapes Go.WideShapes Go.ChangeAt Go.RowKit Go.Sort
set_option linter.unusedVariables false
set_option linter.unusedSimpArgs false

theorem OwnV.rw {w : World} {lo hi q c : Nat} {A : Option Addr} {xs : List Int} (h : OwnV w lo hi (.slice A xs.length c) q xs) (hh : hi ≤ w.heap.size) : RW w A xs := by
  obtain ⟨A', c', e, h1, h2, h3⟩ := h
  injection e with e1 e2 e3
  subst e1
  refine ⟨(OwnV.ints (A := A) (n := xs.length) (c := c) ⟨A, c', by rw [e3], h1, h2, h3⟩).2.2.2.mono (Nat.zero_le _) hh, fun hx => ?_⟩
  obtain ⟨a1, a2, a3, m, F, a4, ⟨cc, hc, _⟩, _⟩ := h3 (List.length_pos_iff.2 hx)
  exact ⟨q, 0, _, _, a1, hc⟩
theorem BR.rws {w : World} {lo hi c d : Nat} {X Y : Option Addr} {us vs : List Int} (h : BR w lo hi X c Y d (us, vs)) : RW w X us ∧ RW w Y vs := by
  obtain ⟨q1, q2, h1, h2, h3, h4, h5, h6, h7, h8⟩ := h
  exact ⟨OwnV.rw h1 (by omega), OwnV.rw h2 (by omega)⟩

set_option maxRecDepth 100000 in
set_option maxHeartbeats 8000000 in
theorem impl_IsContained (S H A H' A' : Option Addr) (cs ch c ch' c' : Nat) (s h1 h2 : List Int) (l1 l2 : FL) (hls : s.length ≤ 1048576) (hh1 : h1.length ≤ 1048576) (hh2 : h2.length ≤ 1048576) (hz1 : szF l1 ≤ 1048576) (hz2 : szF l2 ≤ 1048576) (w : World) (hS : RI w S s) (hH : RI w H h1) (hA : RF w A l1) (hH' : RI w H' h2) (hA' : RF w A' l2) :
    Calls Tryz.prog 46 #[.slice S s.length cs, .agg #[.slice H h1.length ch, .slice A l1.length c], .agg #[.slice H' h2.length ch', .slice A' l2.length c']] w fun e w' => e = .returned (.bool (conB s h1 h2 l1 l2)) ∧ Below w.heap.size w w' := by
  have hh1' : (h1.length : Int) ≤ 1048576 := by omega
  have hh2' : (h2.length : Int) ≤ 1048576 := by omega
  have b1 := below_alloc w (.cells #[.slice H h1.length ch, .slice A l1.length c] 29)
  have b2 := below_alloc (w.alloc (.cells #[.slice H h1.length ch, .slice A l1.length c] 29)) (.cells #[.slice H' h2.length ch', .slice A' l2.length c'] 29)
  obtain ⟨w0, hw0⟩ : ∃ W, W = (w.alloc (.cells #[.slice H h1.length ch, .slice A l1.length c] 29)).alloc (.cells #[.slice H' h2.length ch', .slice A' l2.length c'] 29) := ⟨_, rfl⟩
  have E0 := Lib.hid hw0
  have B0 := Lib.hid (show Below w.heap.size w w0 by rw [hw0]; exact step b1 b2)
  have X0 := Lib.hid (show Box w0 w.heap.size #[.slice H h1.length ch, .slice A l1.length c] 29 by rw [hw0]; exact (Box.new w _ _).step b2)
  have Y0 := Lib.hid (show Box w0 (w.heap.size + 1) #[.slice H' h2.length ch', .slice A' l2.length c'] 29 by
    have h := Box.new (w.alloc (.cells #[.slice H h1.length ch, .slice A l1.length c] 29)) #[.slice H' h2.length ch', .slice A' l2.length c'] 29
    rw [al_size] at h
    rw [hw0]; exact h)
  have S0 : w.heap.size + 2 ≤ w0.heap.size := by rw [hw0, al_size, al_size]; omega
  have XQ1 := Lib.hid fun (W : World) (hW : Below w.heap.size w W) => impl_IsQuery S H A cs ch c s h1 l1 hls (by omega) hz1 W (hS.step hW) (hH.step hW) (hA.step hW)
  have XQ2 := Lib.hid fun (W : World) (hW : Below w.heap.size w W) => impl_IsQuery S H' A' cs ch' c' s h2 l2 hls (by omega) hz2 W (hS.step hW) (hH'.step hW) (hA'.step hW)
  have HH := Lib.hid hH
  have HA := Lib.hid hA
  have HH2 := Lib.hid hH'
  have HA2 := Lib.hid hA'
  clear b1 b2 hS hH hA hH' hA' hw0
  by_cases c1 : queryB s h1 l1 = true
  · have C1 := Lib.hid c1
    by_cases c2 : queryB s h2 l2 = true
    · have C2 := Lib.hid c2
      by_cases c3 : h1.length = h2.length
      · have C3 := Lib.hid c3
        have c3i : (h1.length : Int) = (h2.length : Int) := by omega
        have c3b : ((h1.length : Int) == (h2.length : Int)) = true := beq_iff_eq.2 c3i
        clear c1 c2 c3
        go_enter Tryz.func46, Tryz.ntmps46
        have x0 := X0.out.cell 0
        have x1 := X0.out.cell 1
        simp only [List.getElem?_toArray, List.getElem?_cons_zero, List.getElem?_cons_succ] at x0 x1
        have xl := X0.out.lt
        go_wp2_with fail
        rw [← E0.out]
        refine (XQ1.out _ B0.out).mono ?_
        rintro e u1 ⟨he, d1⟩
        rw [C1.out] at he
        subst he
        have T1 := Lib.hid (step B0.out d1)
        have X1 := Lib.hid (X0.out.step d1)
        have Y1 := Lib.hid (Y0.out.step d1)
        have z1 := d1.size
        clear d1 x0 x1
        have y0 := Y1.out.cell 0
        have y1 := Y1.out.cell 1
        simp only [List.getElem?_toArray, List.getElem?_cons_zero, List.getElem?_cons_succ] at y0 y1
        go_wp2_with fail
        refine (XQ2.out _ T1.out).mono ?_
        rintro e u2 ⟨he, d2⟩
        rw [C2.out] at he
        subst he
        have T2 := Lib.hid (step T1.out d2)
        have X2 := Lib.hid (X1.out.step d2)
        have Y2 := Lib.hid (Y1.out.step d2)
        have z2 := d2.size
        clear d2 y0 y1
        have x0 := X2.out.cell 0
        have x1 := X2.out.cell 1
        have y0 := Y2.out.cell 0
        have y1 := Y2.out.cell 1
        simp only [List.getElem?_toArray, List.getElem?_cons_zero, List.getElem?_cons_succ] at x0 x1 y0 y1
        have QK1 := Lib.hid (QOk.of C1.out)
        have QK2 := Lib.hid (QOk.of C2.out)
        have GG := Lib.hid fun (ho : cOk l1 l2 = true) => frz_good QK1.out (cUsed l1 l2) ho
        have XK := Lib.hid fun (W : World) (hW : Below u2.heap.size u2 W) => impl_ConstantsOf H' A' ch' c' h2 l2 hz2 W (HA2.out.step (step T2.out hW))
        have hcl := wl_len 0 9 (terms l2)
        have XZ := Lib.hid fun (G : Option Addr) (cg : Nat) (W : World) (hW : Below u2.heap.size u2 W) (hG : RI W G (wl 0 9 (terms l2))) => (show Calls Tryz.prog 91 #[.agg #[.slice H h1.length ch, .slice A l1.length c], .slice G (wl 0 9 (terms l2)).length cg] W (FzO W (cFs l1 l2) (cUs l1 l2) (cVs l1 l2) (cOk l1 l2)) from freezeApart_any H A G ch c cg h1 l1 (wl 0 9 (terms l2)) hh1 hz1 (by omega) W (HA.out.step (step T2.out hW)) hG)
        have hul := cUs_len l1 l2
        have hvl := cVs_len l1 l2
        have TL := Lib.hid (cTup_len h1 l1 l2)
        have XM0 := Lib.hid fun (ho : cOk l1 l2 = true) (W : World) (X Fa : Option Addr) (cx cf : Nat) (hQ : RI W H' h2 ∧ RF W A' l2) (hF : RF W Fa (cFs l1 l2)) (hT : RI W X (cTup h1 l1 l2)) => impl_FindMapping_any H' A' Fa X ch' c' cf cx h2 (cTup h1 l1 l2) l2 (cFs l1 l2) QK2.out (GG.out ho).1 (GG.out ho).2.1 (GG.out ho).2.2 (by rw [TL.out]; exact C3.out.symm) W hQ.1 hQ.2 hF hT
        have EM0 := Lib.hid fun (ho : cOk l1 l2 = true) => conB_5 C1.out C2.out C3.out ho
        unfold cTup at EM0 XM0 TL
        have EK := Lib.hid fun (ho : cOk l1 l2 = false) => conB_4 (s := s) (h1 := h1) (h2 := h2) ho
        generalize mapsB h2 (tupV (cUs l1 l2) (cVs l1 l2) h1) (bnds (cFs l1 l2) l2) = res at EM0 XM0
        generalize cFs l1 l2 = fs at XZ XM0
        generalize cUs l1 l2 = us at XZ XM0 hul TL
        generalize cVs l1 l2 = vs at XZ XM0 hvl TL
        generalize cOk l1 l2 = ok at XZ XM0 EM0 EK
        generalize wl 0 9 (terms l2) = cv at XK XZ hcl
        clear GG hcl
        have xw := X2.out.lt
        have yw := Y2.out.lt
        have HS := Lib.hid (show ∀ W, Below u2.heap.size u2 W → W.cell? ⟨w.heap.size, 0, none⟩ = some (.slice H h1.length ch) ∧ W.cell? ⟨w.heap.size, 1, none⟩ = some (.slice A l1.length c) ∧ W.cell? ⟨w.heap.size + 1, 0, none⟩ = some (.slice H' h2.length ch') ∧ W.cell? ⟨w.heap.size + 1, 1, none⟩ = some (.slice A' l2.length c') from fun W hW =>
          ⟨(hW.cell (p := ⟨w.heap.size, 0, none⟩) xw).trans x0, (hW.cell (p := ⟨w.heap.size, 1, none⟩) xw).trans x1, (hW.cell (p := ⟨w.heap.size + 1, 0, none⟩) yw).trans y0, (hW.cell (p := ⟨w.heap.size + 1, 1, none⟩) yw).trans y1⟩)
        go_upto_region 3 with fail
        go_cut [7, 8, 9] from 31 to 38 (fun s7 s8 s9 wx => ∃ (g : Nat) (X Y Fa : Option Addr) (cx cy cf : Nat), s7 = .slice Fa fs.length cf ∧ s8 = .pointer (some ⟨g, 0, none⟩) ∧ s9 = .bool ok ∧ Hid (Box wx g #[.slice X us.length cx, .slice Y vs.length cy] 100) ∧ Hid (RI wx X us) ∧ Hid (RI wx Y vs) ∧ Hid (RF wx Fa fs) ∧ Hid (Below u2.heap.size u2 wx) ∧ u2.heap.size ≤ g)
        case first =>
          clear c3i c3b
          have tok3 : True := trivial
          have tok4 : True := trivial
          go_region_held3 (fun w' => w'.cell? ⟨w.heap.size, 0, none⟩ = some (.slice H h1.length ch) ∧ w'.cell? ⟨w.heap.size, 1, none⟩ = some (.slice A l1.length c) ∧ w'.cell? ⟨w.heap.size + 1, 0, none⟩ = some (.slice H' h2.length ch') ∧ w'.cell? ⟨w.heap.size + 1, 1, none⟩ = some (.slice A' l2.length c'))
            (first
              | (exact HS.out _ (by first
                  | with_reducible exact below_drew _
                  | with_reducible exact Below.refl _ _
                  | with_reducible exact step (below_drew _) (below_alloc _ _)
                  | with_reducible exact step (below_alloc _ _) (below_drew _)
                  | with_reducible exact B3.out
                  | with_reducible exact step (step B3.out (below_alloc _ _)) (below_drew _)
                  | with_reducible exact step (step B4.out (below_alloc _ _)) (below_drew _)
                  | with_reducible exact step B3.out (below_alloc _ _)
                  | with_reducible exact step B3.out (below_drew _)
                  | with_reducible exact B4.out
                  | with_reducible exact step B4.out (below_alloc _ _)
                  | with_reducible exact step B4.out (below_drew _)
                  | exact Below.setCell (Below.setCell B4.out (by (try simp) <;> omega) _) (by (try simp) <;> omega) _)))
            (first
              | (go_at_call 92
                 clear tok3
                 with_reducible refine (XK.out _ (by first | with_reducible exact Below.refl _ _ | with_reducible exact below_drew _ | with_reducible exact below_alloc _ _ | with_reducible exact step (below_drew _) (below_alloc _ _) | with_reducible exact step (below_alloc _ _) (below_drew _))).mono ?_
                 rintro e u3 ⟨v3, rfl, o3, d3⟩
                 obtain ⟨A3, c3, rfl⟩ := ownsRow_form o3
                 have bb3 := (by first | with_reducible exact d3 | with_reducible exact und d3 | with_reducible exact undN d3 | with_reducible exact step (below_alloc _ _) d3 | with_reducible exact step (step (below_drew _) (below_alloc _ _)) d3 | with_reducible exact step (below_alloc _ _) (und d3) : Below u2.heap.size u2 u3)
                 (try (have PB := Lib.hid (show Box u3 u2.heap.size #[.slice none 0 0, .slice none 0 0] 100 from (by first | with_reducible exact Box.of_new d3 | with_reducible exact Box.of_new (und d3)))))
                 (try (have pl3 := PB.out.lt))
                 have R3 := Lib.hid (show RI u3 A3 cv from (ints_own o3 (Nat.le_refl _)).mono (Nat.zero_le _) (Nat.le_refl _))
                 have z3 := bb3.size
                 have B3 := Lib.hid bb3
                 clear o3 bb3)
              | (go_at_call 91
                 clear tok4
                 first
                   | (with_reducible refine (XZ.out A3 c3 _ (by first | with_reducible exact B3.out | with_reducible exact step B3.out (below_drew _)) (by first | with_reducible exact R3.out | with_reducible exact R3.out.step (below_drew _))).mono ?_
                      rintro e u4 ⟨Fa, cf, X, cx, Y, cy, mid, rfl, hb4, hp4, hm4, d4⟩
                      have bb4 := (by first | with_reducible exact d4 | with_reducible exact und d4 | with_reducible exact undN d4 : Below u3.heap.size u3 u4)
                      have lz : u3.heap.size + 2 ≤ mid := by simpa using hm4
                      (try (have PBn := Lib.hid (PB.out.step bb4); clear PB; have PB := PBn; clear PBn)))
                   | (with_reducible refine (XZ.out A3 c3 _ (by first | with_reducible exact step B3.out (below_alloc _ _) | with_reducible exact step B3.out (step (below_drew _) (below_alloc _ _)) | with_reducible exact step B3.out (step (below_alloc _ _) (below_drew _))) (by first | with_reducible exact R3.out.step (below_alloc _ _) | with_reducible exact R3.out.step (step (below_drew _) (below_alloc _ _)) | with_reducible exact R3.out.step (step (below_alloc _ _) (below_drew _)))).mono ?_
                      rintro e u4 ⟨Fa, cf, X, cx, Y, cy, mid, rfl, hb4, hp4, hm4, d4⟩
                      have bb4 := (by first | with_reducible exact step (below_alloc _ _) d4 | with_reducible exact step (step (below_drew _) (below_alloc _ _)) d4 | with_reducible exact step (below_alloc _ _) (und d4) : Below u3.heap.size u3 u4)
                      have lz : u3.heap.size + 1 + 2 ≤ mid := by simpa using hm4
                      have PB := Lib.hid (show Box u4 u3.heap.size #[.slice none 0 0, .slice none 0 0] 100 from (by first | with_reducible exact Box.of_new d4 | with_reducible exact Box.of_new (und d4))))
                 have W4 := Lib.hid hb4.rws
                 have P4 := Lib.hid hp4
                 (try (have pl4 := PB.out.lt))
                 (try (have p0 := PB.out.cell 0))
                 (try (have p1 := PB.out.cell 1))
                 (try (have p2 := PB.out.frozen 0))
                 (try (have p3 := PB.out.frozen 1))
                 (try (simp only [List.getElem?_toArray, List.getElem?_cons_zero, List.getElem?_cons_succ] at p0 p1))
                 have n0 := (Box.new u4 #[.slice none 0 0, .slice none 0 0] 100).cell 0
                 have n1 := (Box.new u4 #[.slice none 0 0, .slice none 0 0] 100).cell 1
                 have n2 := (Box.new u4 #[.slice none 0 0, .slice none 0 0] 100).frozen 0
                 have n3 := (Box.new u4 #[.slice none 0 0, .slice none 0 0] 100).frozen 1
                 simp only [List.getElem?_toArray, List.getElem?_cons_zero, List.getElem?_cons_succ] at n0 n1
                 have z4 := bb4.size
                 have B4 := Lib.hid (step B3.out bb4)
                 clear bb4 hb4 hp4 hm4 d4))
          all_goals
            clear x0 x1 y0 y1
            go_wp2
            go_meet
            case rel =>
              first
                | (have pb := show Box u4 u2.heap.size #[.slice none 0 0, .slice none 0 0] 100 from PB.out
                   have plt := pb.lt
                   have pb1 := pb.set 0 (.slice X us.length cx)
                   have kk : ∀ b, b ≠ u2.heap.size → ((u4.setCell ⟨u2.heap.size, 0, none⟩ (.slice X us.length cx)).setCell ⟨u2.heap.size, 1, none⟩ (.slice Y vs.length cy)).heap[b]? = u4.heap[b]? := fun b hb => (Below.heap_setCell _ ⟨u2.heap.size, 1, none⟩ _ b hb).trans (Below.heap_setCell _ ⟨u2.heap.size, 0, none⟩ _ b hb)
                   refine ⟨u2.heap.size, X, Y, Fa, cx, cy, cf, rfl, rfl, rfl, Lib.hid (show Box ((u4.setCell ⟨u2.heap.size, 0, none⟩ (.slice X us.length cx)).setCell ⟨u2.heap.size, 1, none⟩ (.slice Y vs.length cy)) u2.heap.size _ _ from by simpa using pb1.set 1 (.slice Y vs.length cy)), Lib.hid (show RI ((u4.setCell ⟨u2.heap.size, 0, none⟩ (.slice X us.length cx)).setCell ⟨u2.heap.size, 1, none⟩ (.slice Y vs.length cy)) X us from ((W4.out.1.setBox pb (by decide)).setBox pb1 (by decide)).ri), Lib.hid (show RI ((u4.setCell ⟨u2.heap.size, 0, none⟩ (.slice X us.length cx)).setCell ⟨u2.heap.size, 1, none⟩ (.slice Y vs.length cy)) Y vs from ((W4.out.2.setBox pb (by decide)).setBox pb1 (by decide)).ri), Lib.hid (show RF ((u4.setCell ⟨u2.heap.size, 0, none⟩ (.slice X us.length cx)).setCell ⟨u2.heap.size, 1, none⟩ (.slice Y vs.length cy)) Fa fs from (P4.out.keep (fun b h1 _ => kk b (by omega)) (by rw [size2]; exact Nat.le_refl _)).rf), Lib.hid (show Below u2.heap.size u2 ((u4.setCell ⟨u2.heap.size, 0, none⟩ (.slice X us.length cx)).setCell ⟨u2.heap.size, 1, none⟩ (.slice Y vs.length cy)) from Below.setCell (Below.setCell B4.out (by (try simp) <;> omega) _) (by (try simp) <;> omega) _), by omega⟩)
                | (have pb := show Box u4 u3.heap.size #[.slice none 0 0, .slice none 0 0] 100 from PB.out
                   have plt := pb.lt
                   have pb1 := pb.set 0 (.slice X us.length cx)
                   have kk : ∀ b, b ≠ u3.heap.size → ((u4.setCell ⟨u3.heap.size, 0, none⟩ (.slice X us.length cx)).setCell ⟨u3.heap.size, 1, none⟩ (.slice Y vs.length cy)).heap[b]? = u4.heap[b]? := fun b hb => (Below.heap_setCell _ ⟨u3.heap.size, 1, none⟩ _ b hb).trans (Below.heap_setCell _ ⟨u3.heap.size, 0, none⟩ _ b hb)
                   refine ⟨u3.heap.size, X, Y, Fa, cx, cy, cf, rfl, rfl, rfl, Lib.hid (show Box ((u4.setCell ⟨u3.heap.size, 0, none⟩ (.slice X us.length cx)).setCell ⟨u3.heap.size, 1, none⟩ (.slice Y vs.length cy)) u3.heap.size _ _ from by simpa using pb1.set 1 (.slice Y vs.length cy)), Lib.hid (show RI ((u4.setCell ⟨u3.heap.size, 0, none⟩ (.slice X us.length cx)).setCell ⟨u3.heap.size, 1, none⟩ (.slice Y vs.length cy)) X us from ((W4.out.1.setBox pb (by decide)).setBox pb1 (by decide)).ri), Lib.hid (show RI ((u4.setCell ⟨u3.heap.size, 0, none⟩ (.slice X us.length cx)).setCell ⟨u3.heap.size, 1, none⟩ (.slice Y vs.length cy)) Y vs from ((W4.out.2.setBox pb (by decide)).setBox pb1 (by decide)).ri), Lib.hid (show RF ((u4.setCell ⟨u3.heap.size, 0, none⟩ (.slice X us.length cx)).setCell ⟨u3.heap.size, 1, none⟩ (.slice Y vs.length cy)) Fa fs from (P4.out.keep (fun b h1 _ => kk b (by omega)) (by rw [size2]; exact Nat.le_refl _)).rf), Lib.hid (show Below u2.heap.size u2 ((u4.setCell ⟨u3.heap.size, 0, none⟩ (.slice X us.length cx)).setCell ⟨u3.heap.size, 1, none⟩ (.slice Y vs.length cy)) from Below.setCell (Below.setCell B4.out (by (try simp) <;> omega) _) (by (try simp) <;> omega) _), by omega⟩)
                | (have bb := below_alloc u4 (.cells #[.slice X us.length cx, .slice Y vs.length cy] 100)
                   refine ⟨u4.heap.size, X, Y, Fa, cx, cy, cf, rfl, rfl, rfl, Lib.hid (show Box (u4.alloc (.cells #[.slice X us.length cx, .slice Y vs.length cy] 100)) u4.heap.size _ _ from Box.new u4 _ _), Lib.hid (show RI (u4.alloc (.cells #[.slice X us.length cx, .slice Y vs.length cy] 100)) X us from (W4.out.1.step bb).ri), Lib.hid (show RI (u4.alloc (.cells #[.slice X us.length cx, .slice Y vs.length cy] 100)) Y vs from (W4.out.2.step bb).ri), Lib.hid (show RF (u4.alloc (.cells #[.slice X us.length cx, .slice Y vs.length cy] 100)) Fa fs from (P4.out.step bb).rf), Lib.hid (show Below u2.heap.size u2 (u4.alloc (.cells #[.slice X us.length cx, .slice Y vs.length cy] 100)) from step B4.out bb), by omega⟩)
        case rest =>
          generalize wc = u5 at *
          obtain ⟨g5, X, Y, Fa, cx, cy, cf, rfl, rfl, rfl, K5, I5, J5, F5, TC, hg5⟩ := hcut
          have T5 := Lib.hid (step T2.out TC.out)
          have X5 := Lib.hid (X2.out.step TC.out)
          have Y5 := Lib.hid (Y2.out.step TC.out)
          have z5 := K5.out.lt
          have z6 : w.heap.size + 2 ≤ g5 := by omega
          clear HS xw yw x0 x1 y0 y1 c3i c3b
          cases ok
          · have E4 := Lib.hid (EK.out rfl)
            go_wp2
            go_ret
            rw [E4.out]
            exact ⟨rfl, T5.out⟩
          · have EM := Lib.hid (EM0.out rfl)
            have XT := Lib.hid fun (W : World) (hW : Below u5.heap.size u5 W) => impl_TupleOf H A X Y ch c cx cy h1 l1 us vs hh1 (by omega) (by omega) W (HH.out.step (step T5.out hW)) (I5.out.step hW) (J5.out.step hW)
            have XM := Lib.hid (show ∀ (A7 : Option Addr) (c7 : Nat) (W : World) (hW : Below u5.heap.size u5 W) (hT : RI W A7 (tupV us vs h1)), Calls Tryz.prog 93 #[.agg #[.slice H' h2.length ch', .slice A' l2.length c'], .slice Fa fs.length cf, .slice A7 (tupV us vs h1).length c7] W (FmO W res) from fun A7 c7 W hW hT => XM0.out rfl W A7 Fa c7 cf ⟨HH2.out.step (step T5.out hW), HA2.out.step (step T5.out hW)⟩ (F5.out.step hW) hT)
            have x0 := X5.out.cell 0
            have x1 := X5.out.cell 1
            have y0 := Y5.out.cell 0
            have y1 := Y5.out.cell 1
            have k0 := K5.out.cell 0
            have k1 := K5.out.cell 1
            simp only [List.getElem?_toArray, List.getElem?_cons_zero, List.getElem?_cons_succ] at x0 x1 y0 y1 k0 k1
            have tok7 : True := trivial
            have tok8 : True := trivial
            clear XM0 XZ XK TL EM0 EK
            have xw := X5.out.lt
            have yw := Y5.out.lt
            have HS := Lib.hid (show ∀ W, Below u5.heap.size u5 W → W.cell? ⟨w.heap.size, 0, none⟩ = some (.slice H h1.length ch) ∧ W.cell? ⟨w.heap.size, 1, none⟩ = some (.slice A l1.length c) ∧ W.cell? ⟨w.heap.size + 1, 0, none⟩ = some (.slice H' h2.length ch') ∧ W.cell? ⟨w.heap.size + 1, 1, none⟩ = some (.slice A' l2.length c') ∧ W.cell? ⟨g5, 0, none⟩ = some (.slice X us.length cx) ∧ W.cell? ⟨g5, 1, none⟩ = some (.slice Y vs.length cy) from fun W hW =>
              ⟨(hW.cell (p := ⟨w.heap.size, 0, none⟩) xw).trans x0, (hW.cell (p := ⟨w.heap.size, 1, none⟩) xw).trans x1, (hW.cell (p := ⟨w.heap.size + 1, 0, none⟩) yw).trans y0, (hW.cell (p := ⟨w.heap.size + 1, 1, none⟩) yw).trans y1, (hW.cell (p := ⟨g5, 0, none⟩) z5).trans k0, (hW.cell (p := ⟨g5, 1, none⟩) z5).trans k1⟩)
            go_upto_region 6 with fail
            go_region_held3 (fun w' => w'.cell? ⟨w.heap.size, 0, none⟩ = some (.slice H h1.length ch) ∧ w'.cell? ⟨w.heap.size, 1, none⟩ = some (.slice A l1.length c) ∧ w'.cell? ⟨w.heap.size + 1, 0, none⟩ = some (.slice H' h2.length ch') ∧ w'.cell? ⟨w.heap.size + 1, 1, none⟩ = some (.slice A' l2.length c') ∧ w'.cell? ⟨g5, 0, none⟩ = some (.slice X us.length cx) ∧ w'.cell? ⟨g5, 1, none⟩ = some (.slice Y vs.length cy))
              (first
                | (exact HS.out _ (by first
                    | with_reducible exact below_drew _
                    | with_reducible exact Below.refl _ _
                    | with_reducible exact step (below_drew _) (below_alloc _ _)
                    | with_reducible exact step (below_alloc _ _) (below_drew _)
                    | with_reducible exact B7.out
                    | with_reducible exact step (step B7.out (below_alloc _ _)) (below_drew _)
                    | with_reducible exact step (step B8.out (below_alloc _ _)) (below_drew _)
                    | with_reducible exact step B7.out (below_alloc _ _)
                    | with_reducible exact step B7.out (below_drew _)
                    | with_reducible exact B8.out
                    | with_reducible exact step B8.out (below_alloc _ _)
                    | with_reducible exact step B8.out (below_drew _)
                    | exact Below.setCell (Below.setCell B8.out (by (try simp) <;> omega) _) (by (try simp) <;> omega) _)))
              (first
                | (go_at_call 94
                   clear tok7
                   with_reducible refine (XT.out _ (by first | with_reducible exact Below.refl _ _ | with_reducible exact below_drew _ | with_reducible exact below_alloc _ _ | with_reducible exact step (below_drew _) (below_alloc _ _) | with_reducible exact step (below_alloc _ _) (below_drew _))).mono ?_
                   rintro e u7 ⟨v7, rfl, o7, d7⟩
                   obtain ⟨A7, c7, rfl⟩ := ownsRow_form o7
                   have bb7 := (by first | with_reducible exact d7 | with_reducible exact und d7 | with_reducible exact undN d7 | with_reducible exact step (below_alloc _ _) d7 | with_reducible exact step (step (below_drew _) (below_alloc _ _)) d7 | with_reducible exact step (below_alloc _ _) (und d7) : Below u5.heap.size u5 u7)
                   (try (have PB := Lib.hid (show Box u7 u5.heap.size #[.slice none 0 0, .slice none 0 0] 100 from (by first | with_reducible exact Box.of_new d7 | with_reducible exact Box.of_new (und d7)))))
                   (try (have pl7 := PB.out.lt))
                   have R7 := Lib.hid (show RI u7 A7 (tupV us vs h1) from (ints_own o7 (Nat.le_refl _)).mono (Nat.zero_le _) (Nat.le_refl _))
                   have z7 := bb7.size
                   have B7 := Lib.hid bb7
                   clear o7 bb7)
                | (go_at_call 93
                   clear tok8
                   first
                     | (with_reducible refine (XM.out A7 c7 _ (by first | with_reducible exact B7.out | with_reducible exact step B7.out (below_drew _)) (by first | with_reducible exact R7.out | with_reducible exact R7.out.step (below_drew _))).mono ?_
                        rintro e u8 ⟨X8, n8, k8, Y8, m8, l8, rfl, d8⟩
                        have bb8 := (by first | with_reducible exact d8 | with_reducible exact und d8 | with_reducible exact undN d8 : Below u7.heap.size u7 u8)
                        (try (have PBn := Lib.hid (PB.out.step bb8); clear PB; have PB := PBn; clear PBn)))
                     | (with_reducible refine (XM.out A7 c7 _ (by first | with_reducible exact step B7.out (below_alloc _ _) | with_reducible exact step B7.out (step (below_drew _) (below_alloc _ _)) | with_reducible exact step B7.out (step (below_alloc _ _) (below_drew _))) (by first | with_reducible exact R7.out.step (below_alloc _ _) | with_reducible exact R7.out.step (step (below_drew _) (below_alloc _ _)) | with_reducible exact R7.out.step (step (below_alloc _ _) (below_drew _)))).mono ?_
                        rintro e u8 ⟨X8, n8, k8, Y8, m8, l8, rfl, d8⟩
                        have bb8 := (by first | with_reducible exact step (below_alloc _ _) d8 | with_reducible exact step (step (below_drew _) (below_alloc _ _)) d8 | with_reducible exact step (below_alloc _ _) (und d8) : Below u7.heap.size u7 u8)
                        have PB := Lib.hid (show Box u8 u7.heap.size #[.slice none 0 0, .slice none 0 0] 100 from (by first | with_reducible exact Box.of_new d8 | with_reducible exact Box.of_new (und d8))))
                   (try (have pl8 := PB.out.lt))
                   (try (have p0 := PB.out.cell 0))
                   (try (have p1 := PB.out.cell 1))
                   (try (have p2 := PB.out.frozen 0))
                   (try (have p3 := PB.out.frozen 1))
                   (try (simp only [List.getElem?_toArray, List.getElem?_cons_zero, List.getElem?_cons_succ] at p0 p1))
                   have n0 := (Box.new u8 #[.slice none 0 0, .slice none 0 0] 100).cell 0
                   have n1 := (Box.new u8 #[.slice none 0 0, .slice none 0 0] 100).cell 1
                   have n2 := (Box.new u8 #[.slice none 0 0, .slice none 0 0] 100).frozen 0
                   have n3 := (Box.new u8 #[.slice none 0 0, .slice none 0 0] 100).frozen 1
                   simp only [List.getElem?_toArray, List.getElem?_cons_zero, List.getElem?_cons_succ] at n0 n1
                   have z8 := bb8.size
                   have B8 := Lib.hid (step B7.out bb8)
                   clear bb8))
            all_goals
              clear x0 x1 y0 y1 k0 k1
              go_wp2
              go_ret
              rw [EM.out]
              refine ⟨rfl, ?_⟩
              have TT := step T5.out B8.out
              first
                | exact TT
                | exact TT.drew
                | exact step TT (below_alloc _ _)
                | exact step TT (step (below_drew _) (below_alloc _ _))
                | exact (step TT (below_alloc _ _)).drew
                | exact Below.setCell (Below.setCell TT (by (try simp) <;> omega) _) (by (try simp) <;> omega) _
                | exact (Below.setCell (Below.setCell TT (by (try simp) <;> omega) _) (by (try simp) <;> omega) _).drew
                | exact Below.setCell (Below.setCell TT.drew (by (try simp) <;> omega) _) (by (try simp) <;> omega) _
      · have C3 := Lib.hid c3
        have c3i : ¬ (h1.length : Int) = (h2.length : Int) := by omega
        have c3b : ((h1.length : Int) == (h2.length : Int)) = false := beq_eq_false_iff_ne.2 c3i
        rw [conB_3 c3]
        clear c1 c2 c3
        go_enter Tryz.func46, Tryz.ntmps46
        have x0 := X0.out.cell 0
        have x1 := X0.out.cell 1
        simp only [List.getElem?_toArray, List.getElem?_cons_zero, List.getElem?_cons_succ] at x0 x1
        have xl := X0.out.lt
        go_wp2_with fail
        rw [← E0.out]
        refine (XQ1.out _ B0.out).mono ?_
        rintro e u1 ⟨he, d1⟩
        rw [C1.out] at he
        subst he
        have T1 := Lib.hid (step B0.out d1)
        have X1 := Lib.hid (X0.out.step d1)
        have Y1 := Lib.hid (Y0.out.step d1)
        have z1 := d1.size
        clear d1 x0 x1
        have y0 := Y1.out.cell 0
        have y1 := Y1.out.cell 1
        simp only [List.getElem?_toArray, List.getElem?_cons_zero, List.getElem?_cons_succ] at y0 y1
        go_wp2_with fail
        refine (XQ2.out _ T1.out).mono ?_
        rintro e u2 ⟨he, d2⟩
        rw [C2.out] at he
        subst he
        have T2 := Lib.hid (step T1.out d2)
        have X2 := Lib.hid (X1.out.step d2)
        have Y2 := Lib.hid (Y1.out.step d2)
        have z2 := d2.size
        clear d2 y0 y1
        have x0 := X2.out.cell 0
        have x1 := X2.out.cell 1
        have y0 := Y2.out.cell 0
        have y1 := Y2.out.cell 1
        simp only [List.getElem?_toArray, List.getElem?_cons_zero, List.getElem?_cons_succ] at x0 x1 y0 y1
        go_wp2
        clear c3i c3b
        go_ret
        exact ⟨rfl, T2.out⟩
    · have C2 := Lib.hid (show queryB s h2 l2 = false by simpa using c2)
      rw [conB_2 C2.out]
      clear c1 c2
      go_enter Tryz.func46, Tryz.ntmps46
      have x0 := X0.out.cell 0
      have x1 := X0.out.cell 1
      simp only [List.getElem?_toArray, List.getElem?_cons_zero, List.getElem?_cons_succ] at x0 x1
      have xl := X0.out.lt
      go_wp2_with fail
      rw [← E0.out]
      refine (XQ1.out _ B0.out).mono ?_
      rintro e u1 ⟨he, d1⟩
      rw [C1.out] at he
      subst he
      have T1 := Lib.hid (step B0.out d1)
      have X1 := Lib.hid (X0.out.step d1)
      have Y1 := Lib.hid (Y0.out.step d1)
      have z1 := d1.size
      clear d1 x0 x1
      have y0 := Y1.out.cell 0
      have y1 := Y1.out.cell 1
      simp only [List.getElem?_toArray, List.getElem?_cons_zero, List.getElem?_cons_succ] at y0 y1
      go_wp2_with fail
      refine (XQ2.out _ T1.out).mono ?_
      rintro e u2 ⟨he, d2⟩
      rw [C2.out] at he
      subst he
      have T2 := Lib.hid (step T1.out d2)
      have X2 := Lib.hid (X1.out.step d2)
      have Y2 := Lib.hid (Y1.out.step d2)
      have z2 := d2.size
      clear d2 y0 y1
      go_wp2
      go_ret
      exact ⟨rfl, T2.out⟩
  · have C1 := Lib.hid (show queryB s h1 l1 = false by simpa using c1)
    rw [conB_1 C1.out]
    clear c1
    go_enter Tryz.func46, Tryz.ntmps46
    have x0 := X0.out.cell 0
    have x1 := X0.out.cell 1
    simp only [List.getElem?_toArray, List.getElem?_cons_zero, List.getElem?_cons_succ] at x0 x1
    have xl := X0.out.lt
    go_wp2_with fail
    rw [← E0.out]
    refine (XQ1.out _ B0.out).mono ?_
    rintro e u1 ⟨he, d1⟩
    rw [C1.out] at he
    subst he
    have T1 := Lib.hid (step B0.out d1)
    have X1 := Lib.hid (X0.out.step d1)
    have Y1 := Lib.hid (Y0.out.step d1)
    have z1 := d1.size
    clear d1 x0 x1
    go_wp2
    go_ret
    exact ⟨rfl, T1.out⟩
end Go.Proofs.YtimlpdcambmcjaaGreat
