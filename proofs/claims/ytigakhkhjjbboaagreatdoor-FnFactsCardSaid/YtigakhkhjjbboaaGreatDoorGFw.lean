/- The law of facts: its walk. Conditions: none beyond each theorem's own. -/
import Derived.Test.YtigakhkhjjbboaaGreatDoorGPm
import Derived.Test.YtigakhkhjjbboaaGreatDoorAddI
import Derived.Test.YtigakhkhjjbboaaGreatDoorAddS
import Derived.Test.YtigakhkhjjbboaaGreatDoorSameL
import Derived.Test.YtigakhkhjjbboaaGreatDoorHas
import Derived.Deep.RegionLaw
import Derived.BigQuiet
import Derived.Deep.DeepCutAuto

namespace Go.Proofs.YtigakhkhjjbboaaGreatDoor
open Go.ChangeShapes Go.WideShapes Go.ChangeAt Go.RowKit Go.Sort
set_option linter.unusedVariables false
set_option linter.unusedSimpArgs false

set_option maxRecDepth 100000 in
theorem btoi_any (b : Bool) (W : World) : Calls Tryz.prog 12 #[.bool b] W fun e w' => e = .returned (.int .i64 (if b = true then 1 else 0)) ∧ w' = W := by
  cases b
  · go_enter Tryz.func12, Tryz.ntmps12
    go_wp2
    go_ret
    exact ⟨rfl, rfl⟩
  · go_enter Tryz.func12, Tryz.ntmps12
    go_wp2
    go_ret
    exact ⟨rfl, rfl⟩

theorem wpAny_quiet_at {P : Program} {ops : Array Oper} {Q : Exit → Act → World → Prop} {fuel : Nat} {listed : Array Bool} {a : Act} {u : World} (k : Nat) (hs : Region.noSelect ops = true) (hf : (ops.toList.drop k).length = fuel) (hB : Region.lexFrom .any ops fuel k listed = true)
    (h : wpQuiet P ops (fun w' => ∃ p : Regrown, w' = grow (redrawn u p.d) p.os) (fun a' => ∀ w', (∃ p : Regrown, w' = grow (redrawn u p.d) p.os) → Q .normal a' w') (ops.toList.drop k) a) : wpAny P .any ops Q fuel listed a u := by
  refine wpAny_of_quiet (C := fun w' => ∃ p : Regrown, w' = grow (redrawn u p.d) p.os) (Q := fun a' => ∀ w', (∃ p : Regrown, w' = grow (redrawn u p.d) p.os) → Q .normal a' w') (fun _ w' hw' h => h w' hw') _ _ _ _ ⟨⟨u.drawn, #[]⟩, by rw [grow_empty]; rfl⟩ ?_
  subst hf
  exact wpAnyQ_lex hs _ k _ _ (fun j => by rw [List.getElem?_drop]; simp) hB h

set_option maxRecDepth 100000 in
set_option maxHeartbeats 100000000 in
theorem factsWalk (w : World) (ht : Tab w) (m : Int) (hm : w.cell? ⟨0, 0, none⟩ = some (.int .i64 m)) (a0 : Option Addr) (l0 c0 : Nat) (w0 : CodeIn w.heap.size w a0 l0) :
    Calls Tryz.prog 3 #[.slice a0 l0 c0] w fun e w' => e = .returned (.bool true) ∧ Below w.heap.size w w' := by
  have HT := Lib.hid (Lib.tabBelow_of_tabIs ht)
  have HM := Lib.hid hm
  clear ht hm
  by_cases hbig : (1048576 : Int) < l0
  · go_enter Tryz.func3, Tryz.ntmps3
    go_wp2_with (go_at_call 5; go_in)
    go_ret
    exact ⟨rfl, Below.refl _ _⟩
  · have hlen : l0 ≤ 1048576 := by omega
    have W0 := Lib.hid w0
    clear w0
    go_enter Tryz.func3, Tryz.ntmps3
    go_wp2_with (go_at_call 5; go_in)
    go_wp2_with fail
    refine (DrawAddFact_any a0 l0 c0 _ hlen W0.out).mono ?_
    rintro e w1 ⟨b, cl, fs, r, Y, cy, xs, rfl, ⟨hc1, hc2⟩, hz, ⟨hy1, hy2⟩, hx, hF, hI, B1⟩
    have C2 := Lib.hid (below_alloc w1 (.cells #[.int .i64 r, .slice Y xs.length cy] 27))
    have X2 := Lib.hid (Box.new w1 #[.int .i64 r, .slice Y xs.length cy] 27)
    have F2 := Lib.hid (hF.step C2.out)
    have I2 := Lib.hid (hI.step C2.out)
    have B2 := Lib.hid (B1.trans (C2.out.mono B1.size))
    obtain ⟨w2, hw2⟩ : ∃ W, W = w1.alloc (.cells #[.int .i64 r, .slice Y xs.length cy] 27) := ⟨_, rfl⟩
    have E2 := Lib.hid hw2
    have n2 : w1.heap.size < w2.heap.size := by rw [hw2, al_size]; omega
    have n1 := B1.size
    rw [← hw2] at X2 F2 I2 B2 C2
    clear hw2 hF hI B1
    go_wp2_with fail
    rw [← E2.out]
    refine (impl_AddFact b 0 cl fs r xs Y cy hc1 hc2 (by omega) (by omega) hy1 hy2 w2 F2.out I2.out).mono ?_
    rintro e w3 ⟨A3, c3, cs3, bs3, rfl, O3, D3⟩
    obtain ⟨n, el⟩ : ∃ n, n = (addF fs r xs).length := ⟨_, rfl⟩
    have en := el.trans (addF_len fs r xs)
    have X3 := Lib.hid (X2.out.step D3)
    have F3 := Lib.hid (F2.out.step D3)
    have I3 := Lib.hid (I2.out.step D3)
    have G3 := Lib.hid O3.rf
    have B3 := Lib.hid (B2.out.trans (D3.mono B2.out.size))
    have hza : szF (addF fs r xs) ≤ 1048576 := by have := szF_addF fs r xs; omega
    have C31 := Lib.hid fun (W : World) (hW : Below w3.heap.size w3 W) => (spec_AddFact (some ⟨b, 0, none⟩) cl fs r xs Y cy (by omega) (by omega) W (F3.out.step hW) (I3.out.step hW)).mono (R' := fun e w' => ∃ A c, e = .returned (.slice A n c) ∧ RF w' A (addF fs r xs) ∧ Below W.heap.size W w') (by rintro e w' ⟨A, c, cs, bs, rfl, O, d⟩; exact ⟨A, c, by rw [el], O.rf, d⟩)
    have C32 := Lib.hid fun (W : World) (A : Option Addr) (c : Nat) (hW : Below w3.heap.size w3 W) (hA : RF W A (addF fs r xs)) => (show Calls Tryz.prog 8 #[.slice A3 n c3, .slice A n c] W fun e w' => e = .returned (.bool true) ∧ Below W.heap.size W w' by
      rw [el]
      have := spec_SameFacts A3 c3 (addF fs r xs) A c (addF fs r xs) hza hza W (G3.out.step hW) hA
      rwa [sameL_self] at this)
    have C37 := Lib.hid fun (W : World) (hW : Below w3.heap.size w3 W) => (show Calls Tryz.prog 10 #[.slice A3 n c3, .agg #[.int .i64 r, .slice Y xs.length cy]] W fun e w' => e = .returned (.bool true) ∧ Below W.heap.size W w' by
      rw [el]
      have := impl_HasFact A3 c3 (addF fs r xs) r xs Y cy hza (by omega) hy1 hy2 W (G3.out.step hW) (I3.out.step hW)
      rwa [hasB_add] at this)
    have C43 := Lib.hid fun (W : World) (hW : Below w3.heap.size w3 W) => impl_HasFact (some ⟨b, 0, none⟩) cl fs r xs Y cy (by omega) (by omega) hy1 hy2 W (F3.out.step hW) (I3.out.step hW)
    have C46 := Lib.hid fun (W : World) (hW : Below w3.heap.size w3 W) => spec_HasFact (some ⟨b, 0, none⟩) cl fs r xs Y cy (by omega) (by omega) W (F3.out.step hW) (I3.out.step hW)
    rw [← el]
    generalize hasB fs r xs = hb at en C43 C46
    have n3 := D3.size
    clear O3 D3 el hza
    have q0 := (X3.out).cell 0; have q1 := (X3.out).cell 1; have q2 := (X3.out).frozen 0; have q3 := (X3.out).frozen 1; simp only [List.getElem?_toArray, List.getElem?_cons_zero, List.getElem?_cons_succ] at q0 q1
    have hz' := szF_len (show szF fs ≤ 1048576 by omega)
    have tkA : True := trivial
    have tkB : True := trivial
    have EN := Lib.hid en
    clear en
    go_upto_region 5 with fail
    go_cut [61] (fun c wx => c = .bool false ∧ Hid (Below w3.heap.size w3 wx))
    case first =>
      have en := EN.out
      clear EN W0 HT HM X2 F2 I2 C2 B2 B3 F3 I3 G3 E2 hlen hbig hz hx hy1 hy2 hc1 hc2
      cases hb
      all_goals simp only [Bool.false_eq_true, if_true, if_false] at en
      all_goals subst en
      all_goals
        go_wp2
        refine wp_region_any (by kernel_rfl) ?_
        change wpAny _ _ _ _ _ _ _ (World.drew _)
        first
          | refine wpAny_take (i := 0) (v := .slice A3 (fs.length + 1) c3) rfl (by kernel_rfl) (by kernel_rfl) (by kernel_rfl) (fun _ _ _ h => h) (Or.inl ⟨by rfl, fun _ => by rfl⟩) ?_
          | refine wpAny_take (i := 0) (v := .slice A3 fs.length c3) rfl (by kernel_rfl) (by kernel_rfl) (by kernel_rfl) (fun _ _ _ h => h) (Or.inl ⟨by rfl, fun _ => by rfl⟩) ?_
        refine wpAny_take (i := 1) (v := .slice (some ⟨b, 0, none⟩) fs.length cl) rfl (by kernel_rfl) (by kernel_rfl) (by kernel_rfl) (fun _ _ _ h => h) (Or.inl ⟨by rfl, fun _ => by rfl⟩) ?_
        try go_simp
        refine wpAny_ready (rs := [2]) (by kernel_rfl) (by simp) (AllReady.cons rfl (fun K hK => ?_) AllReady.nil)
        go_simp
        refine hK _ _ ?_
        clear hK K
        refine wpAny_ready (rs := [3]) (by kernel_rfl) (by simp) (AllReady.cons rfl (fun K hK => ?_) AllReady.nil)
        go_simp
        go_at_call 9
        refine (C31.out (World.drew w3) (below_drew w3)).mono ?_
        rintro e u1 ⟨A1, c1, rfl, g1, d1⟩
        have b1 : Below w3.heap.size w3 u1 := und d1
        clear q0 q1 q2 q3
        have q0 := (X3.out.step b1).cell 0; have q1 := (X3.out.step b1).cell 1; have q2 := (X3.out.step b1).frozen 0; have q3 := (X3.out.step b1).frozen 1; simp only [List.getElem?_toArray, List.getElem?_cons_zero, List.getElem?_cons_succ] at q0 q1
        have q4 := cell_regrown q0
        have q5 := cell_regrown q1
        have G1 := Lib.hid g1
        have BB := Lib.hid b1
        clear g1 d1 b1
        try go_simp
        refine hK _ _ ?_
        clear hK K
        refine wpAny_quiet_at 4 (by kernel_rfl) (by kernel_rfl) (by kernel_rfl) ?_
        simp only [List.drop_succ_cons, List.drop_zero]
        have K32 := Lib.hid fun (W : World) (hW : Below u1.heap.size u1 W) => C32.out W A1 c1 (BB.out.trans (hW.mono BB.out.size)) (G1.out.step hW)
        have K37 := Lib.hid fun (W : World) (hW : Below u1.heap.size u1 W) => C37.out W (BB.out.trans (hW.mono BB.out.size))
        have K43 := Lib.hid fun (W : World) (hW : Below u1.heap.size u1 W) => C43.out W (BB.out.trans (hW.mono BB.out.size))
        have K46 := Lib.hid fun (W : World) (hW : Below u1.heap.size u1 W) => C46.out W (BB.out.trans (hW.mono BB.out.size))
        have KT := Lib.hid fun (W : World) => (show Calls Tryz.prog 12 #[.bool true] W fun e w' => e = .returned (.int .i64 1) ∧ Below W.heap.size W w' from (btoi_any true W).mono (by rintro e w' ⟨he, rfl⟩; exact ⟨he, Below.refl _ _⟩))
        have KF := Lib.hid fun (W : World) => (show Calls Tryz.prog 12 #[.bool false] W fun e w' => e = .returned (.int .i64 0) ∧ Below W.heap.size W w' from (btoi_any false W).mono (by rintro e w' ⟨he, rfl⟩; exact ⟨he, Below.refl _ _⟩))
        clear C31 C32 C37 C43 C46 G1
        repeat (go_big_quiet_step (first | (go_at_call 8; with_reducible exact Calls.regrown_of (K32.out _ (below_regrown _ _ _))) | (go_at_call 10; with_reducible exact Calls.regrown_of (K37.out _ (below_regrown _ _ _))) | (go_at_call 10; with_reducible exact Calls.regrown_of (K43.out _ (below_regrown _ _ _))) | (go_at_call 11; with_reducible exact Calls.regrown_of (K46.out _ (below_regrown _ _ _))) | (go_at_call 12; with_reducible exact Calls.regrown_of (KT.out _)) | (go_at_call 12; with_reducible exact Calls.regrown_of (KF.out _))))
        refine wpQuiet_nil ?_
        intro u hw'
        have hb2 : Below w3.heap.size w3 u := by obtain ⟨⟨dq, osq⟩, rfl⟩ := hw'; exact BB.out.trans ((below_regrown _ _ _).mono BB.out.size)
        clear hw'
        go_wp2
        go_meet
        exact ⟨rfl, Lib.hid hb2⟩
    case rest =>
      obtain ⟨rfl, hB⟩ := hcut
      clear C31 C32 C37 C43 C46 EN X3 F3 I3 G3 q0 q1 q2 q3 tkA tkB X2 F2 I2 C2 hz' hz hc1 hc2 hy1 hy2 hx
      have B4 := Lib.hid (B3.out.trans (hB.out.mono B3.out.size))
      have s4 := B4.out.size
      clear hB B3 B2
      go_wp2_with fail
      refine (DrawCompareFacts_any a0 l0 c0 _ hlen ((W0.out.below B4.out).mono B4.out.size)).mono ?_
      rintro e w5 ⟨r1, Y1, cy1, xs1, r2, Y2, cy2, xs2, rfl, hl1, hl2, hi1, hi2, b5⟩
      have D6 := Lib.hid (step (below_alloc w5 (.cells #[.int .i64 r1, .slice Y1 xs1.length cy1] 27)) (below_alloc _ (.cells #[.int .i64 r2, .slice Y2 xs2.length cy2] 27)))
      have XA6 := Lib.hid ((Box.new w5 #[.int .i64 r1, .slice Y1 xs1.length cy1] 27).step (below_alloc _ (.cells #[.int .i64 r2, .slice Y2 xs2.length cy2] 27)))
      have XB6 := Lib.hid (Box.new (w5.alloc (.cells #[.int .i64 r1, .slice Y1 xs1.length cy1] 27)) #[.int .i64 r2, .slice Y2 xs2.length cy2] 27)
      rw [al_size] at XB6
      obtain ⟨w6, hw6⟩ : ∃ W, W = (w5.alloc (.cells #[.int .i64 r1, .slice Y1 xs1.length cy1] 27)).alloc (.cells #[.int .i64 r2, .slice Y2 xs2.length cy2] 27) := ⟨_, rfl⟩
      have E6 := Lib.hid hw6
      rw [← hw6] at D6 XA6 XB6
      have I6 := Lib.hid (hi1.step D6.out)
      have J6 := Lib.hid (hi2.step D6.out)
      have B6 := Lib.hid ((B4.out.trans (b5.mono B4.out.size)).trans (D6.out.mono ((B4.out.trans (b5.mono B4.out.size)).size)))
      have L6 := Lib.hid (And.intro hl1 hl2)
      have n6 := D6.out.size
      clear hw6 hi1 hi2 hl1 hl2 b5
      go_wp2_with fail
      rw [← E6.out]
      refine (DrawIsFact_any a0 l0 c0 _ hlen ((W0.out.below B6.out).mono B6.out.size)).mono ?_
      rintro e w7 ⟨S7, cs7, s7, r7, Y7, cy7, xs7, rfl, hs7, hl7, hi7, hj7, b7⟩
      have D8 := Lib.hid (below_alloc w7 (.cells #[.int .i64 r7, .slice Y7 xs7.length cy7] 27))
      have X8 := Lib.hid (Box.new w7 #[.int .i64 r7, .slice Y7 xs7.length cy7] 27)
      obtain ⟨w8, hw8⟩ : ∃ W, W = w7.alloc (.cells #[.int .i64 r7, .slice Y7 xs7.length cy7] 27) := ⟨_, rfl⟩
      have E8 := Lib.hid hw8
      rw [← hw8] at D8 X8
      have D68 := Lib.hid (b7.trans (D8.out.mono b7.size))
      have B8 := Lib.hid (B6.out.trans (D68.out.mono B6.out.size))
      have I8 := Lib.hid (hi7.step D8.out)
      have J8 := Lib.hid (hj7.step D8.out)
      have L8 := Lib.hid (And.intro hs7 hl7)
      have M6 := D68.out
      have A8 := Lib.hid (XA6.out.step M6)
      have AB8 := Lib.hid (XB6.out.step M6)
      have P8 := Lib.hid (I6.out.step M6)
      have Q8 := Lib.hid (J6.out.step M6)
      have T8 := Lib.hid (HT.out _ B8.out)
      have p0 := X8.out.cell 0
      have p1 := X8.out.cell 1
      have p2 := X8.out.frozen 0
      have p3 := X8.out.frozen 1
      simp only [List.getElem?_toArray, List.getElem?_cons_zero, List.getElem?_cons_succ] at p0 p1
      have lw := M6.size
      have l78 := D8.out.size
      clear M6 hw8 hi7 hj7 b7 XA6 XB6 I6 J6 hs7 hl7
      go_wp2_with fail
      rw [← E8.out]
      refine (impl_FormatFact r7 xs7 Y7 cy7 (by have := L8.out.2; omega) w8 J8.out T8.out).mono ?_
      rintro e w9 ⟨rfl, b9⟩
      have B9 := Lib.hid (B8.out.trans (b9.mono B8.out.size))
      have D9 := Lib.hid b9
      have l89 := b9.size
      clear b9
      obtain ⟨hp1, hp2, hp3⟩ := prs_fmt s7 r7 xs7
      have XP := Lib.hid (impl_ParseFact S7 cs7 s7 (by have := L8.out.1; omega) (fmtF r7 xs7) (by have := fmtF_size r7 xs7; have := L8.out.2; omega) m w9 (I8.out.step D9.out) ((B9.out.cell (by have := block_lt_of_cell HM.out; exact this)).trans HM.out) (HT.out _ B9.out))
      generalize prs s7 (fmtF r7 xs7) = pr at hp1 hp2 hp3 XP
      obtain ⟨pr, px, pok⟩ := pr
      simp only at hp1 hp2 hp3
      subst hp1
      have HP2 := Lib.hid hp2
      have HP3 := Lib.hid hp3
      clear hp2 hp3
      go_wp2_with fail
      refine XP.out.mono ?_
      rintro e w10 ⟨Y10, c10, q10, rfl, hv10, b10⟩
      have D11 := Lib.hid (below_alloc w10 (.cells #[.int .i64 pr, .slice Y10 px.length c10] 27))
      have X11 := Lib.hid (Box.new w10 #[.int .i64 pr, .slice Y10 px.length c10] 27)
      have V11 := Lib.hid (RI.step (show RI w10 Y10 px from hv10.ints.2.2.2.mono (Nat.zero_le _) (Nat.le_refl _)) D11.out)
      obtain ⟨w11, hw11⟩ : ∃ W, W = w10.alloc (.cells #[.int .i64 pr, .slice Y10 px.length c10] 27) := ⟨_, rfl⟩
      have E11 := Lib.hid hw11
      rw [← hw11] at D11 X11 V11
      have D12 := Lib.hid ((D9.out.trans (b10.mono D9.out.size)).trans (D11.out.mono (D9.out.trans (b10.mono D9.out.size)).size))
      have B11 := Lib.hid (B8.out.trans (D12.out.mono B8.out.size))
      have l1011 := D11.out.size
      have l910 := b10.size
      clear hw11 hv10 b10 XP p0 p1 p2 p3
      go_wp2_with fail
      rw [← E11.out]
      refine (DrawAreFacts_any a0 l0 c0 _ hlen ((W0.out.below B11.out).mono B11.out.size)).mono ?_
      rintro e w13 ⟨S13, cs13, s13, bf13, cl13, fs13, rfl, hs13, hz13, hi13, hf13, b13⟩
      have B13 := Lib.hid (B11.out.trans (b13.mono B11.out.size))
      have D13 := Lib.hid b13
      have L13 := Lib.hid (And.intro hs13 hz13)
      have I13 := Lib.hid hi13
      have F13 := Lib.hid hf13
      have l13 := b13.size
      clear hs13 hz13 hi13 hf13 b13
      go_wp2_with fail
      refine (DrawSameFacts_any a0 l0 c0 _ hlen ((W0.out.below B13.out).mono B13.out.size)).mono ?_
      rintro e w14 ⟨b14, cl14, fs14, Y14, cm14, gs14, rfl, hz14, hy14, hf14, hg14, b14'⟩
      have B14 := Lib.hid (B13.out.trans (b14'.mono B13.out.size))
      have D14 := Lib.hid b14'
      have L14 := Lib.hid (And.intro hz14 hy14)
      have F14 := Lib.hid hf14
      have G14 := Lib.hid hg14
      have l14 := b14'.size
      clear hz14 hy14 hf14 hg14 b14'
      go_wp2_with fail
      refine (DrawIsSchema_any a0 l0 c0 _ hlen ((W0.out.below B14.out).mono B14.out.size)).mono ?_
      rintro e w15 ⟨S15, cs15, s15, rfl, hs15, hi15, b15⟩
      have B15 := Lib.hid (B14.out.trans (b15.mono B14.out.size))
      have D15 := Lib.hid b15
      have L15 := Lib.hid hs15
      have I15 := Lib.hid hi15
      have l15 := b15.size
      clear hs15 hi15 b15
      have D1315 := Lib.hid (D14.out.trans (D15.out.mono D14.out.size))
      have D1115 := Lib.hid (D13.out.trans (D1315.out.mono D13.out.size))
      have D815 := Lib.hid (D12.out.trans (D1115.out.mono D12.out.size))
      have P15 := Lib.hid (P8.out.step D815.out)
      have Q15 := Lib.hid (Q8.out.step D815.out)
      have J15 := Lib.hid (J8.out.step D815.out)
      have I15b := Lib.hid (I8.out.step D815.out)
      have V15 := Lib.hid (V11.out.step D1115.out)
      have I13b := Lib.hid (I13.out.step D1315.out)
      have F13b := Lib.hid (F13.out.step D1315.out)
      have F14b := Lib.hid (F14.out.step D15.out)
      have G14b := Lib.hid (G14.out.step D15.out)
      generalize hy : cmpF r2 xs2 r1 xs1 = y
      have HY2 := Lib.hid hy
      have HY := Lib.hid ((cmpF_anti r1 xs1 r2 xs2).trans (congrArg (fun z => -z) hy))
      have hyr := cmpF_rng r2 xs2 r1 xs1
      rw [hy] at hyr
      clear hy
      generalize htx : fmtF r7 xs7 = t at HP2
      have HTX := Lib.hid htx
      clear htx
      generalize hfb : factB s7 r7 xs7 = fb at HP2
      have HFB := Lib.hid hfb
      clear hfb
      have za0 := (A8.out.step D815.out).cell 0
      have za1 := (A8.out.step D815.out).cell 1
      have za2 := (A8.out.step D815.out).frozen 0
      have za3 := (A8.out.step D815.out).frozen 1
      have zb0 := (AB8.out.step D815.out).cell 0
      have zb1 := (AB8.out.step D815.out).cell 1
      have zb2 := (AB8.out.step D815.out).frozen 0
      have zb3 := (AB8.out.step D815.out).frozen 1
      have zg0 := (X8.out.step D815.out).cell 0
      have zg1 := (X8.out.step D815.out).cell 1
      have zg2 := (X8.out.step D815.out).frozen 0
      have zg3 := (X8.out.step D815.out).frozen 1
      have zh0 := (X11.out.step D1115.out).cell 0
      have zh1 := (X11.out.step D1115.out).cell 1
      have zh2 := (X11.out.step D1115.out).frozen 0
      have zh3 := (X11.out.step D1115.out).frozen 1
      simp only [List.getElem?_toArray, List.getElem?_cons_zero, List.getElem?_cons_succ] at za0 za1 zb0 zb1 zg0 zg1 zh0 zh1
      have za4 := cell_regrown za0
      have za5 := cell_regrown za1
      have zb4 := cell_regrown zb0
      have zb5 := cell_regrown zb1
      have zg4 := cell_regrown zg0
      have zg5 := cell_regrown zg1
      have zh4 := cell_regrown zh0
      have zh5 := cell_regrown zh1
      have KA := Lib.hid fun (W : World) (hW : Below w15.heap.size w15 W) => (show Calls Tryz.prog 20 #[.agg #[.int .i64 r1, .slice Y1 xs1.length cy1], .agg #[.int .i64 r2, .slice Y2 xs2.length cy2]] W fun e w' => e = .returned (.int .i64 (-y)) ∧ Below W.heap.size W w' from by have := impl_CompareFacts r1 r2 xs1 xs2 Y1 Y2 cy1 cy2 (by have := L6.out.1; omega) (by have := L6.out.2; omega) W (P15.out.step hW) (Q15.out.step hW); rw [HY.out] at this; exact this)
      have KB := Lib.hid fun (W : World) (hW : Below w15.heap.size w15 W) => (show Calls Tryz.prog 20 #[.agg #[.int .i64 r2, .slice Y2 xs2.length cy2], .agg #[.int .i64 r1, .slice Y1 xs1.length cy1]] W fun e w' => e = .returned (.int .i64 y) ∧ Below W.heap.size W w' from by have := impl_CompareFacts r2 r1 xs2 xs1 Y2 Y1 cy2 cy1 (by have := L6.out.2; omega) (by have := L6.out.1; omega) W (Q15.out.step hW) (P15.out.step hW); rw [HY2.out] at this; exact this)
      have KC := Lib.hid fun (W : World) (hW : Below w15.heap.size w15 W) => (show Calls Tryz.prog 21 #[.agg #[.int .i64 r1, .slice Y1 xs1.length cy1], .agg #[.int .i64 r2, .slice Y2 xs2.length cy2]] W fun e w' => e = .returned (.int .i64 (-y)) ∧ Below W.heap.size W w' from by have := spec_CompareFacts r1 r2 xs1 xs2 Y1 Y2 cy1 cy2 (by have := L6.out.1; omega) (by have := L6.out.2; omega) W (P15.out.step hW) (Q15.out.step hW); rw [HY.out] at this; exact this)
      have KD := Lib.hid fun (W : World) (hW : Below w15.heap.size w15 W) => (show Calls Tryz.prog 22 #[.agg #[.int .i64 r7, .slice Y7 xs7.length cy7]] W fun e w' => e = .returned (.string t) ∧ Below W.heap.size W w' from by have := spec_FormatFact r7 xs7 Y7 cy7 (by have := L8.out.2; omega) W (J15.out.step hW); rw [HTX.out] at this; exact this)
      have KE := Lib.hid fun (W : World) (hW : Below w15.heap.size w15 W) => (show Calls Tryz.prog 23 #[.slice S7 s7.length cs7, .agg #[.int .i64 r7, .slice Y7 xs7.length cy7]] W fun e w' => e = .returned (.bool fb) ∧ Below W.heap.size W w' from by have := spec_IsFact 0 W.heap.size 0 W.heap.size S7 cs7 s7 r7 xs7 Y7 cy7 (by have := L8.out.1; omega) (by have := L8.out.2; omega) W (Nat.le_refl _) (Nat.le_refl _) (I15b.out.step hW) (J15.out.step hW); rw [HFB.out] at this; exact this)
      have KF := Lib.hid fun (W : World) (hW : Below w15.heap.size w15 W) => (show Calls Tryz.prog 24 #[.slice S7 s7.length cs7, .agg #[.int .i64 r7, .slice Y7 xs7.length cy7]] W fun e w' => e = .returned (.bool fb) ∧ Below W.heap.size W w' from by have := impl_IsFact 0 W.heap.size 0 W.heap.size S7 cs7 s7 r7 xs7 Y7 cy7 (by have := L8.out.1; omega) (by have := L8.out.2; omega) W (Nat.le_refl _) (Nat.le_refl _) (I15b.out.step hW) (J15.out.step hW); rw [HFB.out] at this; exact this)
      have KG := Lib.hid fun (W : World) (hW : Below w15.heap.size w15 W) => fun (hfb : fb = true) => (show Calls Tryz.prog 15 #[.agg #[.int .i64 pr, .slice Y10 px.length c10]] W fun e w' => e = .returned (.string t) ∧ Below W.heap.size W w' from by have := impl_FormatFact pr px Y10 c10 (by have := HP3.out; have := L8.out.2; omega) W (V15.out.step hW) (HT.out _ (B15.out.trans (hW.mono B15.out.size))); rw [HP2.out hfb] at this; exact this)
      have KH := Lib.hid fun (W : World) (hW : Below w15.heap.size w15 W) => impl_AreFacts S13 cs13 s13 (some ⟨bf13, 0, none⟩) cl13 fs13 (by have := L13.out.1; omega) (by have := L13.out.2; omega) W (I13b.out.step hW) (F13b.out.step hW)
      have KI := Lib.hid fun (W : World) (hW : Below w15.heap.size w15 W) => spec_AreFacts S13 cs13 s13 (some ⟨bf13, 0, none⟩) cl13 fs13 (by have := L13.out.1; omega) (by have := L13.out.2; omega) W (I13b.out.step hW) (F13b.out.step hW)
      have KJ := Lib.hid fun (W : World) (hW : Below w15.heap.size w15 W) => impl_SameFacts (some ⟨b14, 0, none⟩) cl14 fs14 Y14 cm14 gs14 (by have := L14.out.1; omega) (by have := L14.out.2; omega) W (F14b.out.step hW) (G14b.out.step hW)
      have KK := Lib.hid fun (W : World) (hW : Below w15.heap.size w15 W) => spec_SameFacts (some ⟨b14, 0, none⟩) cl14 fs14 Y14 cm14 gs14 (by have := L14.out.1; omega) (by have := L14.out.2; omega) W (F14b.out.step hW) (G14b.out.step hW)
      have KL := Lib.hid fun (W : World) (hW : Below w15.heap.size w15 W) => (show Calls Tryz.prog 28 #[.slice S15 s15.length cs15] W fun e w' => e = .returned (.bool (schB s15)) ∧ Below W.heap.size W w' from (impl_IsSchema 0 W.heap.size S15 cs15 s15 (by have := L15.out; omega) W (I15.out.step hW)).mono (by rintro e w' ⟨he, rfl⟩; exact ⟨he, Below.refl _ _⟩))
      have KM := Lib.hid fun (W : World) (hW : Below w15.heap.size w15 W) => (show Calls Tryz.prog 29 #[.slice S15 s15.length cs15] W fun e w' => e = .returned (.bool (schB s15)) ∧ Below W.heap.size W w' from (spec_IsSchema 0 W.heap.size S15 cs15 s15 (by have := L15.out; omega) W (I15.out.step hW)).mono (by rintro e w' ⟨he, rfl⟩; exact ⟨he, Below.refl _ _⟩))
      have hdd : decide (t = t) = true := decide_eq_true rfl
      generalize areB s13 fs13 = ab at KH KI
      generalize sameL fs14 gs14 = sb at KJ KK
      generalize schB s15 = cb at KL KM
      clear P15 Q15 J15 I15b V15 I13b F13b F14b G14b HY HY2 HTX HFB HP2 HP3 D12 D13 D14 D15 D1315 D1115 D815 D6 D68 D8 D9 D11 E2 E6 E8 E11 B4 B6 B8 B9 B11 B13 B14 W0 HM HT A8 AB8 P8 Q8 I8 J8 X8 X11 V11 I13 F13 F14 G14 I15 L6 L8 L13 L14 L15
      rcases (by omega : y = -1 ∨ y = 0 ∨ y = 1) with rfl | rfl | rfl
      all_goals cases fb
      all_goals try (have KG2 := Lib.hid fun (W : World) (hW : Below w15.heap.size w15 W) => KG.out W hW rfl)
      all_goals
        go_wp2
        refine wp_region_quiet_below (by kernel_rfl) (by kernel_rfl) ?_
        simp only [List.append]
        repeat (go_big_quiet_step (first | (go_at_call 20; with_reducible exact Calls.regrown_of (KA.out _ (below_regrown _ _ _))) | (go_at_call 20; with_reducible exact Calls.regrown_of (KB.out _ (below_regrown _ _ _))) | (go_at_call 21; with_reducible exact Calls.regrown_of (KC.out _ (below_regrown _ _ _))) | (go_at_call 22; with_reducible exact Calls.regrown_of (KD.out _ (below_regrown _ _ _))) | (go_at_call 23; with_reducible exact Calls.regrown_of (KE.out _ (below_regrown _ _ _))) | (go_at_call 24; with_reducible exact Calls.regrown_of (KF.out _ (below_regrown _ _ _))) | (go_at_call 15; with_reducible exact Calls.regrown_of (KG2.out _ (below_regrown _ _ _))) | (go_at_call 25; with_reducible exact Calls.regrown_of (KH.out _ (below_regrown _ _ _))) | (go_at_call 26; with_reducible exact Calls.regrown_of (KI.out _ (below_regrown _ _ _))) | (go_at_call 27; with_reducible exact Calls.regrown_of (KJ.out _ (below_regrown _ _ _))) | (go_at_call 8; with_reducible exact Calls.regrown_of (KK.out _ (below_regrown _ _ _))) | (go_at_call 28; with_reducible exact Calls.regrown_of (KL.out _ (below_regrown _ _ _))) | (go_at_call 29; with_reducible exact Calls.regrown_of (KM.out _ (below_regrown _ _ _)))))
        refine wpQuiet_nil ?_
        intro u hw'
        have hb2 : Below w.heap.size w u := by obtain ⟨⟨dq, osq⟩, rfl⟩ := hw'; exact B15.out.trans ((below_regrown _ _ _).mono B15.out.size)
        clear hw'
        clear za0 za1 za2 za3 zb0 zb1 zb2 zb3
        go_wp2
        go_ret
        exact ⟨rfl, hb2⟩
end Go.Proofs.YtigakhkhjjbboaaGreatDoor
