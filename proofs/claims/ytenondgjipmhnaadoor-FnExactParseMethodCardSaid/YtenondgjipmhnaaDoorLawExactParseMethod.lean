/- impl.ParseMethod answers as its model at every argument: the law FnExactParseMethod returns true. The listed package-level variables are tied to the program's text by the card. Conditions: none beyond the statement's own. -/
import Derived.Test.YtenondgjipmhnaaDoorMpm
import Derived.Test.YtenondgjipmhnaaDoorDoorP
namespace Go.Proofs.YtenondgjipmhnaaDoor.fnExactParseMethod
open Go.ChangeShapes Go.WideShapes Go.ChangeAt Go.RowKit Go.Sort
open Go.ChangeMaps (open_string shut_string)
set_option linter.unusedVariables false
set_option linter.unusedSimpArgs false


set_option maxRecDepth 100000 in
set_option maxHeartbeats 16000000 in
theorem walk (w : World) (ht : Tab w ∧ ∃ m, w.cell? ⟨0, 0, none⟩ = some (.int .i64 m)) (A0 : Option Addr) (c0 : Nat) (s0 : List Int) (l0 : s0.length ≤ c0) (m0 : c0 ≤ maxLen) (w0 : Ints w 0 w.heap.size A0 s0) (a1 : ByteArray) (w1 : a1.size ≤ maxLen) :
    Calls Tryd.prog 4 #[.slice A0 s0.length c0, .string a1] w fun e w' => e = .returned (.bool true) ∧ Below w.heap.size w w' := by
  obtain ⟨ht, mx, hm⟩ := ht
  unfold maxLen at m0
  by_cases hb0 : (1048576 : Int) < s0.length
  · go_enter Tryd.func4, Tryd.ntmps4
    go_wp2
    go_ret
    exact ⟨rfl, Below.refl _ _⟩
  by_cases hb1 : (1048576 : Int) < a1.size
  · go_enter Tryd.func4, Tryd.ntmps4
    go_wp2
    go_ret
    exact ⟨rfl, Below.refl _ _⟩
  have hl0 : s0.length ≤ 1048576 := by omega
  have hL0 : (s0.length : Int) ≤ 1048576 := by omega
  have hs1 : a1.size ≤ 1048576 := by omega
  have hS1 : (a1.size : Int) ≤ 1048576 := by omega
  have HT := Lib.hid (Lib.tabBelow_of_tabIs ht)
  have HM := Lib.hid (fun (W : World) (hW : Below w.heap.size w W) => (hW.cell (p := ⟨0, 0, none⟩) (by
    show 0 < w.heap.size
    rcases Nat.eq_zero_or_pos w.heap.size with h0 | h0
    · simp [World.cell?, Array.getElem?_eq_none (show w.heap.size ≤ 0 by omega)] at hm
    · exact h0)).trans hm)
  have I0 := Lib.hid (show RI w A0 s0 from w0)
  have I0r := Lib.hid (show RI w A0 s0 from w0)
  have PL := prsM_len s0 a1
  have SPC0 := fun (A : Option Addr) (W : World) (h : RI W A s0) => spec_ParseMethod A s0.length s0 hl0 a1 hs1 W h
  have IMP0 := fun (A : Option Addr) (W : World) (h : RI W A s0) (hW : Below w.heap.size w W) => impl_ParseMethod A s0.length s0 hl0 a1 hs1 mx W h (HM.out W hW) (HT.out W hW)
  generalize prsM s0 a1 = p at PL SPC0 IMP0
  obtain ⟨⟨r, xs, li, co, qu⟩, ok⟩ := p
  have hx3 : xs.length ≤ 3 := PL
  have hX3 : (xs.length : Int) ≤ 3 := by omega
  have SPC : Hid (∀ (A : Option Addr) (W : World) (h : RI W A s0), Calls Tryd.prog 10 #[.slice A s0.length s0.length, .string a1] W (PmX W r xs li co qu ok)) := Lib.hid SPC0
  have IMP : Hid (∀ (A : Option Addr) (W : World) (h : RI W A s0) (hW : Below w.heap.size w W), Calls Tryd.prog 12 #[.slice A s0.length s0.length, .string a1] W (PmX W r xs li co qu ok)) := Lib.hid IMP0
  clear PL SPC0 IMP0 ht hm w0
  go_enter Tryd.func4, Tryd.ntmps4
  have T := Lib.hid (Below.refl w.heap.size w)
  go_wp2_with fail
  refine (toIntS_r A0 c0 s0 hl0 _ I0.out).mono ?_
  rintro e u1 ⟨rfl, r1, d1, z1⟩
  have T_ := Lib.hid (RB.step T.out d1)
  clear T
  have T := T_
  clear T_
  have z1s := d1.size
  have I0_ := Lib.hid (I0.out.step d1)
  clear I0
  have I0 := I0_
  clear I0_
  have R1 := Lib.hid r1.ri
  have y1 : w.heap.size < u1.heap.size := by omega
  clear r1 z1
  clear d1
  go_wp2_with fail
  refine (SPC.out _ _ R1.out).mono ?_
  rintro e u2 ⟨A2, c2, q2, rfl, v2, d2⟩
  have T_ := Lib.hid (RB.step T.out d2)
  clear T
  have T := T_
  clear T_
  have z2s := d2.size
  have I0_ := Lib.hid (I0.out.step d2)
  clear I0
  have I0 := I0_
  clear I0_
  have V2 := Lib.hid (show OV u2 u1.heap.size u2.heap.size A2 c2 q2 xs from ⟨v2, Nat.le_refl _⟩)
  clear v2 R1
  clear d2
  obtain ⟨w2, hw2⟩ : ∃ W, W = u2.alloc (.cells #[.int .i64 r, .slice A2 xs.length c2, .int .i64 li, .int .i64 co, .int .i64 qu] 27) := ⟨_, rfl⟩
  have Ew2 := Lib.hid hw2
  have dw2 : Below u2.heap.size u2 w2 := by rw [hw2]; exact below_alloc _ _
  have zw2 : u2.heap.size < w2.heap.size := by rw [hw2, al_size]; omega
  have Yw2 := Lib.hid (show Box w2 u2.heap.size #[.int .i64 r, .slice A2 xs.length c2, .int .i64 li, .int .i64 co, .int .i64 qu] 27 by rw [hw2]; exact Box.new _ _ _)
  have T_ := Lib.hid (RB.step T.out dw2)
  clear T
  have T := T_
  clear T_
  have I0_ := Lib.hid (I0.out.step dw2)
  clear I0
  have I0 := I0_
  clear I0_
  have V2_ := Lib.hid (V2.out.step dw2)
  clear V2
  have V2 := V2_
  clear V2_
  clear dw2 hw2
  go_wp2_with fail
  rw [← Ew2.out]
  refine (toIntS_r A0 c0 s0 hl0 _ I0.out).mono ?_
  rintro e u3 ⟨rfl, r3, d3, z3⟩
  have T_ := Lib.hid (RB.step T.out d3)
  clear T
  have T := T_
  clear T_
  have z3s := d3.size
  have I0_ := Lib.hid (I0.out.step d3)
  clear I0
  have I0 := I0_
  clear I0_
  have V2_ := Lib.hid (V2.out.step d3)
  clear V2
  have V2 := V2_
  clear V2_
  have Yw2_ := Lib.hid (Yw2.out.step d3)
  clear Yw2
  have Yw2 := Yw2_
  clear Yw2_
  have R3 := Lib.hid r3
  have y3 : w2.heap.size < u3.heap.size := by omega
  clear r3 z3
  clear d3
  go_wp2_with fail
  refine (IMP.out _ _ R3.out.ri T.out).mono ?_
  rintro e u4 ⟨A4, c4, q4, rfl, v4, d4⟩
  have T_ := Lib.hid (RB.step T.out d4)
  clear T
  have T := T_
  clear T_
  have z4s := d4.size
  have I0_ := Lib.hid (I0.out.step d4)
  clear I0
  have I0 := I0_
  clear I0_
  have V2_ := Lib.hid (V2.out.step d4)
  clear V2
  have V2 := V2_
  clear V2_
  have Yw2_ := Lib.hid (Yw2.out.step d4)
  clear Yw2
  have Yw2 := Yw2_
  clear Yw2_
  have R3_ := Lib.hid (R3.out.step d4)
  clear R3
  have R3 := R3_
  clear R3_
  have V4 := Lib.hid (show OV u4 u3.heap.size u4.heap.size A4 c4 q4 xs from ⟨v4, Nat.le_refl _⟩)
  clear v4
  clear d4
  obtain ⟨w4, hw4⟩ : ∃ W, W = u4.alloc (.cells #[.int .i64 r, .slice A4 xs.length c4, .int .i64 li, .int .i64 co, .int .i64 qu] 27) := ⟨_, rfl⟩
  have Ew4 := Lib.hid hw4
  have dw4 : Below u4.heap.size u4 w4 := by rw [hw4]; exact below_alloc _ _
  have zw4 : u4.heap.size < w4.heap.size := by rw [hw4, al_size]; omega
  have Yw4 := Lib.hid (show Box w4 u4.heap.size #[.int .i64 r, .slice A4 xs.length c4, .int .i64 li, .int .i64 co, .int .i64 qu] 27 by rw [hw4]; exact Box.new _ _ _)
  have T_ := Lib.hid (RB.step T.out dw4)
  clear T
  have T := T_
  clear T_
  have I0_ := Lib.hid (I0.out.step dw4)
  clear I0
  have I0 := I0_
  clear I0_
  have V2_ := Lib.hid (V2.out.step dw4)
  clear V2
  have V2 := V2_
  clear V2_
  have Yw2_ := Lib.hid (Yw2.out.step dw4)
  clear Yw2
  have Yw2 := Yw2_
  clear Yw2_
  have R3_ := Lib.hid (R3.out.step dw4)
  clear R3
  have R3 := R3_
  clear R3_
  have V4_ := Lib.hid (V4.out.step dw4)
  clear V4
  have V4 := V4_
  clear V4_
  clear dw4 hw4
  have ga0 := Yw2.out.cell 0
  have ga1 := Yw2.out.cell 1
  have ga2 := Yw2.out.cell 2
  have ga3 := Yw2.out.cell 3
  have ga4 := Yw2.out.cell 4
  simp only [List.getElem?_toArray, List.getElem?_cons_zero, List.getElem?_cons_succ] at ga0 ga1 ga2 ga3 ga4
  rw [Ew4.out] at ga0 ga1 ga2 ga3 ga4
  have gb0 := Yw4.out.cell 0
  have gb1 := Yw4.out.cell 1
  have gb2 := Yw4.out.cell 2
  have gb3 := Yw4.out.cell 3
  have gb4 := Yw4.out.cell 4
  simp only [List.getElem?_toArray, List.getElem?_cons_zero, List.getElem?_cons_succ] at gb0 gb1 gb2 gb3 gb4
  rw [Ew4.out] at gb0 gb1 gb2 gb3 gb4
  go_wp2_with fail
  rw [← Ew4.out] at ga0 ga1 ga2 ga3 ga4 gb0 gb1 gb2 gb3 gb4 ⊢
  refine (eqMethod_r r xs li co qu _ _ _ _ (by omega) _ V4.out.ri V2.out.ri).mono ?_
  rintro e u5 ⟨rfl, d5⟩
  have T_ := Lib.hid (RB.step T.out d5)
  clear T
  have T := T_
  clear T_
  have z5s := d5.size
  have I0_ := Lib.hid (I0.out.step d5)
  clear I0
  have I0 := I0_
  clear I0_
  have V2_ := Lib.hid (V2.out.step d5)
  clear V2
  have V2 := V2_
  clear V2_
  have Yw2_ := Lib.hid (Yw2.out.step d5)
  clear Yw2
  have Yw2 := Yw2_
  clear Yw2_
  have R3_ := Lib.hid (R3.out.step d5)
  clear R3
  have R3 := R3_
  clear R3_
  have V4_ := Lib.hid (V4.out.step d5)
  clear V4
  have V4 := V4_
  clear V4_
  have Yw4_ := Lib.hid (Yw4.out.step d5)
  clear Yw4
  have Yw4 := Yw4_
  clear Yw4_
  clear d5
  clear ga0 ga1 ga2 ga3 ga4 gb0 gb1 gb2 gb3 gb4
  go_wp2_with fail
  refine (toIntS_r A0 c0 s0 hl0 _ I0.out).mono ?_
  rintro e u6 ⟨rfl, r6, d6, z6⟩
  have T_ := Lib.hid (RB.step T.out d6)
  clear T
  have T := T_
  clear T_
  have z6s := d6.size
  have I0_ := Lib.hid (I0.out.step d6)
  clear I0
  have I0 := I0_
  clear I0_
  have V2_ := Lib.hid (V2.out.step d6)
  clear V2
  have V2 := V2_
  clear V2_
  have Yw2_ := Lib.hid (Yw2.out.step d6)
  clear Yw2
  have Yw2 := Yw2_
  clear Yw2_
  have R3_ := Lib.hid (R3.out.step d6)
  clear R3
  have R3 := R3_
  clear R3_
  have V4_ := Lib.hid (V4.out.step d6)
  clear V4
  have V4 := V4_
  clear V4_
  have Yw4_ := Lib.hid (Yw4.out.step d6)
  clear Yw4
  have Yw4 := Yw4_
  clear Yw4_
  have R6 := Lib.hid r6.ri
  have y6 : u5.heap.size < u6.heap.size := by omega
  clear r6 z6
  clear d6
  go_wp2_with fail
  refine (eqIntS_r _ _ _ _ s0 hl0 _ R3.out.ri R6.out).mono ?_
  rintro e u7 ⟨rfl, d7⟩
  have T_ := Lib.hid (RB.step T.out d7)
  clear T
  have T := T_
  clear T_
  have z7s := d7.size
  have I0_ := Lib.hid (I0.out.step d7)
  clear I0
  have I0 := I0_
  clear I0_
  have V2_ := Lib.hid (V2.out.step d7)
  clear V2
  have V2 := V2_
  clear V2_
  have Yw2_ := Lib.hid (Yw2.out.step d7)
  clear Yw2
  have Yw2 := Yw2_
  clear Yw2_
  have R3_ := Lib.hid (R3.out.step d7)
  clear R3
  have R3 := R3_
  clear R3_
  have V4_ := Lib.hid (V4.out.step d7)
  clear V4
  have V4 := V4_
  clear V4_
  have Yw4_ := Lib.hid (Yw4.out.step d7)
  clear Yw4
  have Yw4 := Yw4_
  clear Yw4_
  have R6_ := Lib.hid (R6.out.step d7)
  clear R6
  have R6 := R6_
  clear R6_
  clear R6
  clear d7
  go_wp2_with fail
  refine (markIntS_any _ w2.heap.size s0.length s0.length s0.length 1 _ hl0 (by omega) (by omega) (fun i => .int .i64 (s0.getD i 0)) (fun _ => rfl) (Nat.le_refl _) (fun _ => R3.out)).mono ?_
  rintro e u8 ⟨rfl, W8, _⟩
  have z8s := W8.size
  have V2_ := Lib.hid (V2.out.keep (w' := u8) (by omega) (fun b _ hb => W8.block b (.inl (by omega))))
  have V4_ := Lib.hid (V4.out.keep (w' := u8) (by omega) (fun b hb _ => W8.block b (.inr (by omega))))
  have Yw2_ := Lib.hid (show Box u8 u2.heap.size _ _ from (W8.block _ (.inl (by omega))).trans Yw2.out)
  have Yw4_ := Lib.hid (show Box u8 u4.heap.size _ _ from (W8.block _ (.inr (by omega))).trans Yw4.out)
  have T_ := Lib.hid (T.out.trans (W8.below.mono (by have := T.out.size; omega)))
  have I0_ := Lib.hid (I0r.out.step T_.out)
  clear V2 V4 Yw2 Yw4 T R3 W8 I0
  have V2 := V2_
  have V4 := V4_
  have Yw2 := Yw2_
  have Yw4 := Yw4_
  have T := T_
  have I0 := I0_
  clear V2_ V4_ Yw2_ Yw4_ T_ I0_
  have hk0 : ¬ (1 + (s0.length : Int) < 0) := by omega
  have ga0 := Yw2.out.cell 0
  have ga1 := Yw2.out.cell 1
  have ga2 := Yw2.out.cell 2
  have ga3 := Yw2.out.cell 3
  have ga4 := Yw2.out.cell 4
  simp only [List.getElem?_toArray, List.getElem?_cons_zero, List.getElem?_cons_succ] at ga0 ga1 ga2 ga3 ga4
  have gb0 := Yw4.out.cell 0
  have gb1 := Yw4.out.cell 1
  have gb2 := Yw4.out.cell 2
  have gb3 := Yw4.out.cell 3
  have gb4 := Yw4.out.cell 4
  simp only [List.getElem?_toArray, List.getElem?_cons_zero, List.getElem?_cons_succ] at gb0 gb1 gb2 gb3 gb4
  go_wp2_with fail
  refine (eqMethod_r r xs li co qu _ _ _ _ (by omega) _ V4.out.ri V2.out.ri).mono ?_
  rintro e u9 ⟨rfl, d9⟩
  have T_ := Lib.hid (RB.step T.out d9)
  clear T
  have T := T_
  clear T_
  have z9s := d9.size
  have I0_ := Lib.hid (I0.out.step d9)
  clear I0
  have I0 := I0_
  clear I0_
  have V2_ := Lib.hid (V2.out.step d9)
  clear V2
  have V2 := V2_
  clear V2_
  have Yw2_ := Lib.hid (Yw2.out.step d9)
  clear Yw2
  have Yw2 := Yw2_
  clear Yw2_
  have V4_ := Lib.hid (V4.out.step d9)
  clear V4
  have V4 := V4_
  clear V4_
  have Yw4_ := Lib.hid (Yw4.out.step d9)
  clear Yw4
  have Yw4 := Yw4_
  clear Yw4_
  clear d9
  clear ga0 ga1 ga2 ga3 ga4 gb0 gb1 gb2 gb3 gb4
  have gb0 := Yw4.out.cell 0
  have gb1 := Yw4.out.cell 1
  have gb2 := Yw4.out.cell 2
  have gb3 := Yw4.out.cell 3
  have gb4 := Yw4.out.cell 4
  simp only [List.getElem?_toArray, List.getElem?_cons_zero, List.getElem?_cons_succ] at gb0 gb1 gb2 gb3 gb4
  go_wp2_with fail
  refine (markMethod_m u3.heap.size u4.heap.size q4 c4 r li co qu xs A4 1 _ hx3 V4.out.1 (by omega) V4.out.2 (by omega) (by omega)).mono ?_
  rintro e u10 ⟨rfl, M10, U10⟩
  have z10s := U10.size
  have V2_ := Lib.hid (V2.out.keep (w' := u10) (by omega) (fun b _ hb => U10.block b (.inl (by omega)) (by omega)))
  have Yw2_ := Lib.hid (show Box u10 u2.heap.size _ _ from (U10.block _ (.inl (by omega)) (by omega)).trans Yw2.out)
  have Yw4_ := Lib.hid (show Box u10 u4.heap.size _ _ from (U10.block _ (.inr (by omega)) (by omega)).trans Yw4.out)
  have MK := Lib.hid (show MI u10 u3.heap.size u4.heap.size A4 1 xs.length from ⟨M10, by omega⟩)
  have T_ := Lib.hid (T.out.trans (U10.below.mono (by have := T.out.size; omega)))
  have I0_ := Lib.hid (I0r.out.step T_.out)
  clear V2 V4 Yw2 Yw4 T M10 U10 gb0 gb1 gb2 gb3 gb4 I0
  have V2 := V2_
  have Yw2 := Yw2_
  have Yw4 := Yw4_
  have T := T_
  have I0 := I0_
  clear V2_ Yw2_ Yw4_ T_ I0_
  have hk1 : ¬ (1 + (xs.length : Int) < 0) := by omega
  have gb0 := Yw4.out.cell 0
  have gb1 := Yw4.out.cell 1
  have gb2 := Yw4.out.cell 2
  have gb3 := Yw4.out.cell 3
  have gb4 := Yw4.out.cell 4
  simp only [List.getElem?_toArray, List.getElem?_cons_zero, List.getElem?_cons_succ] at gb0 gb1 gb2 gb3 gb4
  go_wp2_with fail
  refine (heldMethod_m u3.heap.size u4.heap.size c4 xs.length r li co qu A4 1 _ hx3 MK.out.1 MK.out.2 (by omega) (by omega)).mono ?_
  rintro e u11 ⟨rfl, d11⟩
  have T_ := Lib.hid (RB.step T.out d11)
  clear T
  have T := T_
  clear T_
  have z11s := d11.size
  have I0_ := Lib.hid (I0.out.step d11)
  clear I0
  have I0 := I0_
  clear I0_
  have V2_ := Lib.hid (V2.out.step d11)
  clear V2
  have V2 := V2_
  clear V2_
  have Yw2_ := Lib.hid (Yw2.out.step d11)
  clear Yw2
  have Yw2 := Yw2_
  clear Yw2_
  have Yw4_ := Lib.hid (Yw4.out.step d11)
  clear Yw4
  have Yw4 := Yw4_
  clear Yw4_
  have MK_ := Lib.hid (MK.out.step d11)
  clear MK
  have MK := MK_
  clear MK_
  clear d11
  clear gb0 gb1 gb2 gb3 gb4
  go_wp2_with fail
  refine (toIntS_r A0 c0 s0 hl0 _ I0.out).mono ?_
  rintro e u12 ⟨rfl, r12, d12, z12⟩
  have T_ := Lib.hid (RB.step T.out d12)
  clear T
  have T := T_
  clear T_
  have z12s := d12.size
  have I0_ := Lib.hid (I0.out.step d12)
  clear I0
  have I0 := I0_
  clear I0_
  have V2_ := Lib.hid (V2.out.step d12)
  clear V2
  have V2 := V2_
  clear V2_
  have Yw2_ := Lib.hid (Yw2.out.step d12)
  clear Yw2
  have Yw2 := Yw2_
  clear Yw2_
  have Yw4_ := Lib.hid (Yw4.out.step d12)
  clear Yw4
  have Yw4 := Yw4_
  clear Yw4_
  have MK_ := Lib.hid (MK.out.step d12)
  clear MK
  have MK := MK_
  clear MK_
  have R12 := Lib.hid r12.ri
  have y12 : u11.heap.size < u12.heap.size := by omega
  clear r12 z12
  clear d12
  go_wp2_with fail
  refine (IMP.out _ _ R12.out T.out).mono ?_
  rintro e u13 ⟨A13, c13, q13, rfl, v13, d13⟩
  have T_ := Lib.hid (RB.step T.out d13)
  clear T
  have T := T_
  clear T_
  have z13s := d13.size
  have I0_ := Lib.hid (I0.out.step d13)
  clear I0
  have I0 := I0_
  clear I0_
  have V2_ := Lib.hid (V2.out.step d13)
  clear V2
  have V2 := V2_
  clear V2_
  have Yw2_ := Lib.hid (Yw2.out.step d13)
  clear Yw2
  have Yw2 := Yw2_
  clear Yw2_
  have Yw4_ := Lib.hid (Yw4.out.step d13)
  clear Yw4
  have Yw4 := Yw4_
  clear Yw4_
  have MK_ := Lib.hid (MK.out.step d13)
  clear MK
  have MK := MK_
  clear MK_
  have V13 := Lib.hid (show OV u13 u12.heap.size u13.heap.size A13 c13 q13 xs from ⟨v13, Nat.le_refl _⟩)
  clear v13 R12
  clear d13
  obtain ⟨w13, hw13⟩ : ∃ W, W = u13.alloc (.cells #[.int .i64 r, .slice A13 xs.length c13, .int .i64 li, .int .i64 co, .int .i64 qu] 27) := ⟨_, rfl⟩
  have Ew13 := Lib.hid hw13
  have dw13 : Below u13.heap.size u13 w13 := by rw [hw13]; exact below_alloc _ _
  have zw13 : u13.heap.size < w13.heap.size := by rw [hw13, al_size]; omega
  have Yw13 := Lib.hid (show Box w13 u13.heap.size #[.int .i64 r, .slice A13 xs.length c13, .int .i64 li, .int .i64 co, .int .i64 qu] 27 by rw [hw13]; exact Box.new _ _ _)
  have T_ := Lib.hid (RB.step T.out dw13)
  clear T
  have T := T_
  clear T_
  have I0_ := Lib.hid (I0.out.step dw13)
  clear I0
  have I0 := I0_
  clear I0_
  have V2_ := Lib.hid (V2.out.step dw13)
  clear V2
  have V2 := V2_
  clear V2_
  have Yw2_ := Lib.hid (Yw2.out.step dw13)
  clear Yw2
  have Yw2 := Yw2_
  clear Yw2_
  have Yw4_ := Lib.hid (Yw4.out.step dw13)
  clear Yw4
  have Yw4 := Yw4_
  clear Yw4_
  have MK_ := Lib.hid (MK.out.step dw13)
  clear MK
  have MK := MK_
  clear MK_
  have V13_ := Lib.hid (V13.out.step dw13)
  clear V13
  have V13 := V13_
  clear V13_
  clear dw13 hw13
  have ga0 := Yw2.out.cell 0
  have ga1 := Yw2.out.cell 1
  have ga2 := Yw2.out.cell 2
  have ga3 := Yw2.out.cell 3
  have ga4 := Yw2.out.cell 4
  simp only [List.getElem?_toArray, List.getElem?_cons_zero, List.getElem?_cons_succ] at ga0 ga1 ga2 ga3 ga4
  rw [Ew13.out] at ga0 ga1 ga2 ga3 ga4
  have gb0 := Yw13.out.cell 0
  have gb1 := Yw13.out.cell 1
  have gb2 := Yw13.out.cell 2
  have gb3 := Yw13.out.cell 3
  have gb4 := Yw13.out.cell 4
  simp only [List.getElem?_toArray, List.getElem?_cons_zero, List.getElem?_cons_succ] at gb0 gb1 gb2 gb3 gb4
  rw [Ew13.out] at gb0 gb1 gb2 gb3 gb4
  go_wp2_with fail
  rw [← Ew13.out] at ga0 ga1 ga2 ga3 ga4 gb0 gb1 gb2 gb3 gb4 ⊢
  refine (eqMethod_r r xs li co qu _ _ _ _ (by omega) _ V13.out.ri V2.out.ri).mono ?_
  rintro e u14 ⟨rfl, d14⟩
  have T_ := Lib.hid (RB.step T.out d14)
  clear T
  have T := T_
  clear T_
  have z14s := d14.size
  have I0_ := Lib.hid (I0.out.step d14)
  clear I0
  have I0 := I0_
  clear I0_
  have V2_ := Lib.hid (V2.out.step d14)
  clear V2
  have V2 := V2_
  clear V2_
  have Yw2_ := Lib.hid (Yw2.out.step d14)
  clear Yw2
  have Yw2 := Yw2_
  clear Yw2_
  have Yw4_ := Lib.hid (Yw4.out.step d14)
  clear Yw4
  have Yw4 := Yw4_
  clear Yw4_
  have MK_ := Lib.hid (MK.out.step d14)
  clear MK
  have MK := MK_
  clear MK_
  have V13_ := Lib.hid (V13.out.step d14)
  clear V13
  have V13 := V13_
  clear V13_
  have Yw13_ := Lib.hid (Yw13.out.step d14)
  clear Yw13
  have Yw13 := Yw13_
  clear Yw13_
  clear d14
  clear ga0 ga1 ga2 ga3 ga4 gb0 gb1 gb2 gb3 gb4
  have gb0 := Yw4.out.cell 0
  have gb1 := Yw4.out.cell 1
  have gb2 := Yw4.out.cell 2
  have gb3 := Yw4.out.cell 3
  have gb4 := Yw4.out.cell 4
  simp only [List.getElem?_toArray, List.getElem?_cons_zero, List.getElem?_cons_succ] at gb0 gb1 gb2 gb3 gb4
  go_wp2_with fail
  refine (heldMethod_m u3.heap.size u4.heap.size c4 xs.length r li co qu A4 1 _ hx3 MK.out.1 MK.out.2 (by omega) (by omega)).mono ?_
  rintro e u15 ⟨rfl, d15⟩
  have T_ := Lib.hid (RB.step T.out d15)
  clear T
  have T := T_
  clear T_
  have z15s := d15.size
  have I0_ := Lib.hid (I0.out.step d15)
  clear I0
  have I0 := I0_
  clear I0_
  have V2_ := Lib.hid (V2.out.step d15)
  clear V2
  have V2 := V2_
  clear V2_
  have Yw2_ := Lib.hid (Yw2.out.step d15)
  clear Yw2
  have Yw2 := Yw2_
  clear Yw2_
  have Yw4_ := Lib.hid (Yw4.out.step d15)
  clear Yw4
  have Yw4 := Yw4_
  clear Yw4_
  have MK_ := Lib.hid (MK.out.step d15)
  clear MK
  have MK := MK_
  clear MK_
  have V13_ := Lib.hid (V13.out.step d15)
  clear V13
  have V13 := V13_
  clear V13_
  have Yw13_ := Lib.hid (Yw13.out.step d15)
  clear Yw13
  have Yw13 := Yw13_
  clear Yw13_
  clear d15
  clear gb0 gb1 gb2 gb3 gb4
  go_wp2
  go_ret
  exact ⟨rfl, T.out⟩

set_option maxRecDepth 100000 in
theorem contract (H : Type) (enc : TypeId × Value → H) (W : World) (hsh : W.ShapedOpen Tryd.prog) (base : Nat) (args : Array Value) (ds gs : List (DataW H)) (before : List MemPlace)
    (hval : ∀ (j : Nat) t v, Tryd.f4.params[j]? = some t → args[j]? = some v → Value.okWide Tryd.prog W .any base t v)
    (hW : DataW.Whole enc Tryd.prog Tryd.f4.params.toList Rows.fnExactParseMethodSpec.vars false W args.toList ds gs before) (hL : laidMetH Tryd.prog Rows.fnExactParseMethodRow.laid W) :
    Calls Tryd.prog 4 args W fun e W' => ∃ v, e = .returned v ∧ Rows.fnExactParseMethodSpec.post enc Tryd.prog Tryd.f4 false true false false W args v W' := by
  have hpost := fun (W' : World) (hfn : Rows.fnExactParseMethodSpec.fn H (ds ++ gs) = { results := [.lit (.bool true)], args := ds }) (hb : Below W.heap.size W W') => law_post (enc := enc) laidOut (f := Tryd.f4) (s := Rows.fnExactParseMethodSpec) (args := args) rfl rfl Tryd.underlying4 (by intro t ht; rw [Tryd.params4] at ht; simp at ht; rcases ht with rfl | rfl <;> exact ⟨by kernel_rfl, of_decide_eq_true (by kernel_rfl)⟩) hW hfn hb
  obtain ⟨p, q, hA0, hV, rfl, hfz, hnd⟩ := hW
  have hA : DataW.TrodAll enc Tryd.prog W 0 (fun _ => true) true Tryd.f4.params.toList args.toList ds p := hA0
  rw [Tryd.params4] at hA hval
  obtain ⟨v0, vs0, d0, ds0, p0, q0, hargs, rfl, rfl, h0, r0⟩ := trodAll_cons hA
  obtain ⟨v1, vs1, d1, ds1, p1, q1, rfl, rfl, rfl, h1, r1⟩ := trodAll_cons r0
  obtain ⟨rfl, rfl, rfl⟩ := trodAll_nil r1
  obtain rfl : args = #[v0, v1] := by cases args; simp_all
  obtain ⟨rfl, rfl⟩ := trodVars_none hV
  obtain ⟨A0, c0, s0, rfl, l0, m0, w0⟩ := open_numsT Tryd.underlying22 Tryd.underlying3 (by kernel_rfl) (hval 0 22 v0 rfl rfl) h0
  obtain ⟨a1, rfl, rfl, rfl, w1⟩ := open_string Tryd.underlying9 (hval 1 9 v1 rfl rfl) h1
  refine (walk W ⟨tableP hL, Tryd.laysM138.s1_3 W hsh⟩ A0 c0 s0 l0 m0 w0 a1 w1).mono fun e W' ⟨he, hg⟩ => ?_
  subst he
  exact ⟨_, rfl, hpost W' rfl hg⟩

set_option maxRecDepth 100000 in
theorem laid_met (os : Os) : laidMet Tryd.prog Rows.fnExactParseMethodRow.laid ((laidWorldP os).forCall (fun _ _ => 0) ⟨#[], #[.slice none 0 0, .string ⟨#[]⟩], []⟩).memory :=
  laidMet_of_run' 8 (by kernel_rfl) (by kernel_rfl)
theorem reads (os : Os) {H : Type} (enc : TypeId × Value → H) : ∃ places, DataW.whole enc Tryd.prog ((laidWorldP os).forCall (fun _ _ => 0) ⟨#[], #[.slice none 0 0, .string ⟨#[]⟩], []⟩).memory Tryd.f4.params.toList Rows.fnExactParseMethodSpec.vars false (#[.slice none 0 0, .string ⟨#[]⟩] : Array Value).toList 8 = some ([.nil, .lit (.string [])], [], places) :=
  ⟨[], by kernel_rfl⟩

set_option maxRecDepth 100000 in
theorem lifted (os : Os) (started : os.Started) (H : Type) (enc : TypeId × Value → H) (F : Stop.Interp) :
    ReturnsInHanded {} Tryd.checked os 4 .any ((OpenSpec.ofChange Rows.fnExactParseMethodSpec).preRow enc Tryd.prog Tryd.f4 Rows.fnExactParseMethodRow.domain false Rows.fnExactParseMethodRow.laid) (((OpenSpec.ofChange Rows.fnExactParseMethodSpec).at F).post enc Tryd.prog Tryd.f4 false true false false) := by
  obtain ⟨places, hx⟩ := reads os enc
  refine returnsInHanded_of_row (C := Tryd.checked) (s := OpenSpec.ofChange Rows.fnExactParseMethodSpec) own started (by kernel_rfl) Tryd.func4
    (witness_row_at (enc := enc) (C := Tryd.checked) false (laidWorldP os) #[.slice none 0 0, .string ⟨#[]⟩] rfl (by kernel_rfl) (by kernel_rfl) (by kernel_rfl)
      (OpenSpec.preRow_of_cond 8 hx (by kernel_rfl) (fun k hk => by cases hk) (by kernel_rfl) (laid_met os))) ?_
  intro W base args ds gs before hval hW h1 h2 h3 hL h4 h5
  exact contract H enc W (by assumption) base args ds gs before hval hW hL

theorem said : Rows.FnExactParseMethodSaid :=
  OpenClaim.holds_of_cond 4 Tryd.f4 rfl rfl rfl rfl rfl rfl rfl ⟨rfl, rfl, rfl, rfl, rfl⟩ rfl rfl rfl rfl rfl (by kernel_rfl) Tryd.func4 (by kernel_rfl)
    (of_decide_eq_true (by kernel_rfl)) (by unfold Func.isWrapper; first | (rw [if_pos (by decide +kernel)]; kernel_rfl) | (rw [if_neg (by decide +kernel)]; exact ⟨rfl, rfl⟩))
    (fun os started H enc _ F => by rw [OpenClaim.pre_eq_preRow]; exact lifted os started H enc F)

theorem plain (f : FuncId) (fn : Func) (hf : Tryd.pinned.checked.prog.funcNamed "loop.example/g01989/laws.FnExactParseMethod" = some f) (hfn : Tryd.pinned.checked.prog.funcs[f]? = some fn) :
    false = Tryd.pinned.checked.prog.looks [] ∧ ∀ (j : Nat) t, fn.params[j]? = some t → Tryd.pinned.checked.prog.wantsStandIn t = false := by
  obtain rfl : f = 4 := Option.some.inj ((show Tryd.prog.funcNamed "loop.example/g01989/laws.FnExactParseMethod" = some 4 by kernel_rfl).symm.trans hf) |>.symm
  obtain rfl : fn = Tryd.f4 := (Option.some.inj (Tryd.func4.symm.trans hfn)).symm
  refine ⟨by kernel_rfl, fun j t ht => ?_⟩
  rw [Tryd.params4] at ht
  rcases (by simpa using Array.mem_of_getElem? ht : t = 22 ∨ t = 9) with rfl | rfl
  all_goals kernel_rfl
end Go.Proofs.YtenondgjipmhnaaDoor.fnExactParseMethod
namespace Go.Proofs.YtenondgjipmhnaaDoor
theorem fnExactParseMethod_card : Rows.FnExactParseMethodCardSaid :=
  Claim7.holds_tied_plain_at .later [] _ _ _ _ fnExactParseMethod.said (fun _ h => by cases h) (by kernel_rfl) (fun _ h => by cases h) fnExactParseMethod_row_tie rfl ⟨rfl, rfl⟩ (by kernel_rfl) rfl fnExactParseMethod.plain (by kernel_rfl)
#print axioms fnExactParseMethod_card
end Go.Proofs.YtenondgjipmhnaaDoor
