/- What the model's FormatQuery answers. Conditions: none beyond each theorem's own. -/
import Derived.Test.YtimlpdcambmcjaaDoorFmtQ
namespace Go.Proofs.YtimlpdcambmcjaaDoor
open Go.ChangeShapes Go.WideShapes Go.ChangeAt Go.RowKit Go.Sort
open Go.Proofs.YtimlpdcambmcjaaDoor.atom
set_option linter.unusedVariables false
set_option linter.unusedSimpArgs false

set_option maxRecDepth 100000 in
set_option maxHeartbeats 4000000 in
theorem spec_FormatQuery (H A : Option Addr) (ch c : Nat) (hs : List Int) (l : FL) (hh : hs.length ≤ 1048577) (hr : allR hs) (hz : szF l ≤ 1048576) (w : World) (h : RI w H hs) (h' : RF w A l) :
    Calls Tryd.prog 10 #[.agg #[.slice H hs.length ch, .slice A l.length c]] w fun e w' => e = .returned (.string (fmtQ hs l)) ∧ Below w.heap.size w w' := by
  have hl := szF_len hz
  have hl' : (l.length : Int) ≤ 1048576 := by omega
  have hh' : (hs.length : Int) ≤ 1048577 := by omega
  have B0 := Lib.hid (below_alloc w (.cells #[.slice H hs.length ch, .slice A l.length c] 37))
  have X0 := Lib.hid (Box.new w #[.slice H hs.length ch, .slice A l.length c] 37)
  have HH := Lib.hid h
  have HF := Lib.hid h'
  have HR := Lib.hid hr
  have CV := Lib.hid fun (W : World) (hW : RF W A l) => (spec_VarsOf H A ch c hs l hz W hW).mono fun _ _ h => h.toV
  have HV := Lib.hid (wl_len 10 17 (terms l))
  clear h h' hr
  by_cases c1 : inB (l.length : Int) 1 4 = true
  · have C1 := Lib.hid c1
    have hn : 1 ≤ (l.length : Int) ∧ (l.length : Int) ≤ 4 := by simpa [inB] using c1
    by_cases h3 : hs.length ≤ 3
    · have h3' : (hs.length : Int) ≤ 3 := by omega
      have h3n : ¬ (3 : Int) < (hs.length : Int) := by omega
      have hv : (wl 10 17 (terms l)).length ≤ 1048576 := by have := HV.out; omega
      have QY := Lib.hid fun (hi : inAll (wl 10 17 (terms l)) hs = true) (ho : okA l = true) => fmtQ_yes (show qOk hs l = true by unfold qOk headB; rw [c1, hi, ho]; simp [h3])
      have QH := Lib.hid fun (hi : inAll (wl 10 17 (terms l)) hs = false) => fmtQ_no (show qOk hs l = false by unfold qOk headB; rw [hi]; simp)
      have QN := Lib.hid fun (ho : okA l = false) => fmtQ_no (show qOk hs l = false by unfold qOk; rw [ho]; simp)
      have HLen := Lib.hid (headL_len h3 HR.out)
      have XT := Lib.hid fun (W : World) (hW : RI W H hs) => l3Terms_any H ch hs h3 HR.out W hW
      have HE := Lib.hid (show ¬ hs.length = 0 → headL hs = commaT hs from fun h => if_neg h)
      have HE0 := Lib.hid (show hs.length = 0 → headL hs = [121, 101, 115] from fun h => if_pos h)
      generalize wl 10 17 (terms l) = vs at CV hv QY QH
      generalize headL hs = P at QY HLen HE HE0
      have hPl : P.length ≤ 70 := HLen.out
      clear HV c1 HLen
      by_cases h0 : hs.length = 0
      · have EP := Lib.hid (HE0.out h0)
        have e1 : ¬ ((0 : Int) < (hs.length : Int)) := by omega
        have e2 : ¬ (0 < hs.length) := by omega
        have Z0 := Lib.hid h0
        clear h0
        go_enter Tryd.func10, Tryd.ntmps10
        go_wp2_with fail
        refine (l1In_any (l.length : Int) 1 4 _).mono ?_
        rintro e w1 ⟨he, rfl⟩
        rw [C1.out] at he
        subst he
        go_wp2_with fail
        refine (CV.out _ (HF.out.step B0.out)).mono ?_
        rintro e w2 ⟨A2, c2, rfl, hi2, d⟩
        have HV2 := Lib.hid hi2.ri
        have HB2 := Lib.hid (step B0.out d)
        have HX2 := Lib.hid (X0.out.step d)
        have HH2 := Lib.hid (HH.out.step HB2.out)
        clear hi2 d
        have g0 := HX2.out.cell 0
        have g1 := HX2.out.cell 1
        simp only [List.getElem?_toArray, List.getElem?_cons_zero, List.getElem?_cons_succ] at g0 g1
        go_wp2
        go_loop [5] (fun i => ∃ j : Nat, j ≤ hs.length ∧ i = .int .i64 j ∧ Hid (inAll vs (hs.take j) = true)) (fun i => hs.length - (intOf i).toNat)
        case atStart => exact ⟨0, by omega, rfl, Lib.hid rfl⟩
        case round =>
          obtain ⟨j, hj, rfl, ha⟩ := hrel
          have hj0 : (0 : Int) ≤ (j : Int) := by omega
          by_cases hlt : j < hs.length
          · exact absurd hlt (by have := Z0.out; omega)
          · obtain rfl : j = hs.length := by omega
            have HI := Lib.hid (show inAll vs hs = true by have := ha.out; rwa [take_all] at this)
            clear ha
            go_wp2
            go_loopw [3, 6, 7] (fun v i _ wr => ∃ (k : Nat) (M : List UInt8), k ≤ l.length ∧ i = .int .i64 k ∧ v = .string ⟨M.toArray⟩ ∧ Hid (M = P ++ [32, 105, 102, 32] ++ andL (l.take k)) ∧ Hid (okA (l.take k) = true) ∧ Hid (Box wr w.heap.size #[.slice H hs.length ch, .slice A l.length c] 37) ∧ Hid (Below w.heap.size w wr)) (fun _ i _ _ => l.length - (intOf i).toNat)
            case atStart => exact ⟨0, P ++ [32, 105, 102, 32], by omega, rfl, by rw [EP.out]; rfl, Lib.hid (by simp [andL]), Lib.hid rfl, HX2, HB2⟩
            case round =>
              obtain ⟨k, M, hk, rfl, rfl, hM, ha, hX, hB⟩ := hrel
              clear g0 g1
              have g1 := hX.out.cell 1
              simp only [List.getElem?_toArray, List.getElem?_cons_zero, List.getElem?_cons_succ] at g1
              have hk0 : (0 : Int) ≤ (k : Int) := by omega
              have hMl : M.length ≤ 400 := by
                have h1 := andL_len (l.take k) ha.out
                rw [List.length_take] at h1
                rw [hM.out]
                simp only [List.length_append, List.length_cons, List.length_nil]
                omega
              by_cases hlt : k < l.length
              · generalize hg : l.getD k (0, []) = g
                obtain ⟨r, xs⟩ := g
                have hxl : xs.length ≤ 1048576 := by have := szF_elem hz hlt; rw [hg] at this; exact this
                have OT := Lib.hid (okA_take l k hlt hg)
                have AT := Lib.hid (andL_take l k hlt hg)
                have A0 := Lib.hid (show k = 0 → andL (l.take k) = [] by rintro rfl; rfl)
                have ON := Lib.hid fun (h : fmtOkA r xs = false) => okA_not l k hlt hg h
                have hk1 : (k : Int) < (l.length : Int) := by omega
                obtain ⟨b, off, B, c3, rfl, hbl, e0, e1, _, hcm, hJ⟩ := HF.out.at_ hlt hg
                have q0 := (hB.out.cell (p := ⟨b, off + k * 2, none⟩) hbl).trans e0
                have q1 := (hB.out.cell (p := ⟨b, off + k * 2 + 1, none⟩) hbl).trans e1
                have XA := Lib.hid (spec_FormatAtom r xs B c3 hxl _ (hJ.step hB.out))
                clear hg e0 e1 hJ
                by_cases c3 : fmtOkA r xs = true
                · have C3 := Lib.hid c3
                  have HL := Lib.hid (atL_len c3)
                  rw [fmtA_at c3] at XA
                  generalize hXX : atL (r, xs) = X at HL XA AT
                  have n2 : ¬ X = [] := fun e => by have := HL.out.1; rw [e] at this; simp at this
                  have n1 : (X == []) = false := by simpa using n2
                  have hXl : X.length ≤ 70 := HL.out.2
                  clear c3 hXX
                  by_cases h0 : k = 0
                  · have K0 := Lib.hid h0
                    have e1 : ¬ ((0 : Int) < (k : Int)) := by omega
                    have e2 : ¬ (0 < k) := by omega
                    clear h0
                    go_wp2_with fail
                    refine XA.out.mono ?_
                    rintro e w3 ⟨rfl, d⟩
                    have hB3 := Lib.hid (step hB.out d)
                    have hX3 := Lib.hid (hX.out.step d)
                    clear d q0 q1
                    go_wp2
                    go_roundw
                    case rel => exact ⟨k + 1, M ++ X, by omega, by go_num, by rw [ba_append], Lib.hid (by rw [hM.out, AT.out, if_pos K0.out, A0.out K0.out]; simp), Lib.hid (by rw [OT.out, ha.out, C3.out]; rfl), hX3, hB3⟩
                    case measure => simp [intOf]; omega
                  · have K0 := Lib.hid h0
                    have e1 : ((0 : Int) < (k : Int)) := by omega
                    have e2 : (0 < k) := by omega
                    clear h0
                    go_wp2_with fail
                    refine XA.out.mono ?_
                    rintro e w3 ⟨rfl, d⟩
                    have hB3 := Lib.hid (step hB.out d)
                    have hX3 := Lib.hid (hX.out.step d)
                    clear d q0 q1
                    go_wp2
                    go_roundw
                    case rel => exact ⟨k + 1, M ++ [32, 97, 110, 100, 32] ++ X, by omega, by go_num, by rw [show (⟨#[32, 97, 110, 100, 32]⟩ : ByteArray) = ⟨[32, 97, 110, 100, 32].toArray⟩ from rfl, ba_append, ba_append], Lib.hid (by rw [hM.out, AT.out, if_neg K0.out]; simp), Lib.hid (by rw [OT.out, ha.out, C3.out]; rfl), hX3, hB3⟩
                    case measure => simp [intOf]; omega
                · have C3 := Lib.hid (show fmtOkA r xs = false by simpa using c3)
                  rw [fmtA_no C3.out] at XA
                  clear c3
                  go_wp2_with fail
                  refine XA.out.mono ?_
                  rintro e w3 ⟨rfl, d⟩
                  have hB3 := Lib.hid (step hB.out d)
                  clear d q0 q1
                  go_wp2
                  go_ret
                  exact ⟨ret_str (QN.out (ON.out C3.out)).symm, hB3.out⟩
              · obtain rfl : k = l.length := by omega
                have HA := Lib.hid (show okA l = true by have := ha.out; rwa [take_all] at this)
                have EM := Lib.hid (show M = P ++ [32, 105, 102, 32] ++ andL l by rw [hM.out, take_all])
                go_wp2
                go_ret
                exact ⟨ret_str (by rw [QY.out HI.out HA.out, EM.out]), hB.out⟩
      · have EP := Lib.hid (HE.out h0)
        have e1 : ((0 : Int) < (hs.length : Int)) := by omega
        have e2 : (0 < hs.length) := by omega
        rw [← EP.out] at XT
        clear h0
        go_enter Tryd.func10, Tryd.ntmps10
        go_wp2_with fail
        refine (l1In_any (l.length : Int) 1 4 _).mono ?_
        rintro e w1 ⟨he, rfl⟩
        rw [C1.out] at he
        subst he
        go_wp2_with fail
        refine (XT.out _ (HH.out.step B0.out)).mono ?_
        rintro e w1 ⟨rfl, d⟩
        have HB1 := Lib.hid (step B0.out d)
        have HX1 := Lib.hid (X0.out.step d)
        have g2 := HX1.out.cell 0
        have g3 := HX1.out.cell 1
        simp only [List.getElem?_toArray, List.getElem?_cons_zero, List.getElem?_cons_succ] at g2 g3
        clear d
        go_wp2_with fail
        refine (CV.out _ (HF.out.step HB1.out)).mono ?_
        rintro e w2 ⟨A2, c2, rfl, hi2, d⟩
        have HV2 := Lib.hid hi2.ri
        have HB2 := Lib.hid (step HB1.out d)
        have HX2 := Lib.hid (HX1.out.step d)
        have HH2 := Lib.hid (HH.out.step HB2.out)
        clear hi2 d
        have g0 := HX2.out.cell 0
        have g1 := HX2.out.cell 1
        simp only [List.getElem?_toArray, List.getElem?_cons_zero, List.getElem?_cons_succ] at g0 g1
        go_wp2
        go_loop [5] (fun i => ∃ j : Nat, j ≤ hs.length ∧ i = .int .i64 j ∧ Hid (inAll vs (hs.take j) = true)) (fun i => hs.length - (intOf i).toNat)
        case atStart => exact ⟨0, by omega, rfl, Lib.hid rfl⟩
        case round =>
          obtain ⟨j, hj, rfl, ha⟩ := hrel
          have hj0 : (0 : Int) ≤ (j : Int) := by omega
          by_cases hlt : j < hs.length
          · obtain ⟨b, off, rfl, _, hc⟩ := HH2.out.at_ hlt
            have hj1 : (j : Int) < (hs.length : Int) := by omega
            generalize hx : hs.getD j 0 = x at hc
            have HX := Lib.hid hx
            have XC := Lib.hid (l2Has_any 0 _ A2 c2 vs x hv w2 HV2.out)
            clear hx
            by_cases hm : decide (x ∈ vs) = true
            · have HM := Lib.hid hm
              clear hm
              go_wp2_with fail
              refine XC.out.mono ?_
              rintro e w3 ⟨he, rfl⟩
              rw [HM.out] at he
              subst he
              go_wp2
              go_round
              case rel => exact ⟨j + 1, by omega, by go_num, Lib.hid (by rw [inAll_take _ _ _ hlt, ha.out, HX.out, HM.out]; rfl)⟩
              case measure => simp [intOf]; omega
            · have HM := Lib.hid (show decide (x ∈ vs) = false by simpa using hm)
              clear hm
              go_wp2_with fail
              refine XC.out.mono ?_
              rintro e w3 ⟨he, rfl⟩
              rw [HM.out] at he
              subst he
              go_wp2
              go_ret
              exact ⟨ret_str (QH.out (inAll_not _ _ j hlt (by rw [HX.out]; exact HM.out))).symm, HB2.out⟩
          · obtain rfl : j = hs.length := by omega
            have HI := Lib.hid (show inAll vs hs = true by have := ha.out; rwa [take_all] at this)
            clear ha
            go_wp2
            go_loopw [3, 6, 7] (fun v i _ wr => ∃ (k : Nat) (M : List UInt8), k ≤ l.length ∧ i = .int .i64 k ∧ v = .string ⟨M.toArray⟩ ∧ Hid (M = P ++ [32, 105, 102, 32] ++ andL (l.take k)) ∧ Hid (okA (l.take k) = true) ∧ Hid (Box wr w.heap.size #[.slice H hs.length ch, .slice A l.length c] 37) ∧ Hid (Below w.heap.size w wr)) (fun _ i _ _ => l.length - (intOf i).toNat)
            case atStart => exact ⟨0, P ++ [32, 105, 102, 32], by omega, rfl, by rw [show (⟨#[32, 105, 102, 32]⟩ : ByteArray) = ⟨[32, 105, 102, 32].toArray⟩ from rfl, ba_append], Lib.hid (by simp [andL]), Lib.hid rfl, HX2, HB2⟩
            case round =>
              obtain ⟨k, M, hk, rfl, rfl, hM, ha, hX, hB⟩ := hrel
              clear g0 g1
              have g1 := hX.out.cell 1
              simp only [List.getElem?_toArray, List.getElem?_cons_zero, List.getElem?_cons_succ] at g1
              have hk0 : (0 : Int) ≤ (k : Int) := by omega
              have hMl : M.length ≤ 400 := by
                have h1 := andL_len (l.take k) ha.out
                rw [List.length_take] at h1
                rw [hM.out]
                simp only [List.length_append, List.length_cons, List.length_nil]
                omega
              by_cases hlt : k < l.length
              · generalize hg : l.getD k (0, []) = g
                obtain ⟨r, xs⟩ := g
                have hxl : xs.length ≤ 1048576 := by have := szF_elem hz hlt; rw [hg] at this; exact this
                have OT := Lib.hid (okA_take l k hlt hg)
                have AT := Lib.hid (andL_take l k hlt hg)
                have A0 := Lib.hid (show k = 0 → andL (l.take k) = [] by rintro rfl; rfl)
                have ON := Lib.hid fun (h : fmtOkA r xs = false) => okA_not l k hlt hg h
                have hk1 : (k : Int) < (l.length : Int) := by omega
                obtain ⟨b, off, B, c3, rfl, hbl, e0, e1, _, hcm, hJ⟩ := HF.out.at_ hlt hg
                have q0 := (hB.out.cell (p := ⟨b, off + k * 2, none⟩) hbl).trans e0
                have q1 := (hB.out.cell (p := ⟨b, off + k * 2 + 1, none⟩) hbl).trans e1
                have XA := Lib.hid (spec_FormatAtom r xs B c3 hxl _ (hJ.step hB.out))
                clear hg e0 e1 hJ
                by_cases c3 : fmtOkA r xs = true
                · have C3 := Lib.hid c3
                  have HL := Lib.hid (atL_len c3)
                  rw [fmtA_at c3] at XA
                  generalize hXX : atL (r, xs) = X at HL XA AT
                  have n2 : ¬ X = [] := fun e => by have := HL.out.1; rw [e] at this; simp at this
                  have n1 : (X == []) = false := by simpa using n2
                  have hXl : X.length ≤ 70 := HL.out.2
                  clear c3 hXX
                  by_cases h0 : k = 0
                  · have K0 := Lib.hid h0
                    have e1 : ¬ ((0 : Int) < (k : Int)) := by omega
                    have e2 : ¬ (0 < k) := by omega
                    clear h0
                    go_wp2_with fail
                    refine XA.out.mono ?_
                    rintro e w3 ⟨rfl, d⟩
                    have hB3 := Lib.hid (step hB.out d)
                    have hX3 := Lib.hid (hX.out.step d)
                    clear d q0 q1
                    go_wp2
                    go_roundw
                    case rel => exact ⟨k + 1, M ++ X, by omega, by go_num, by rw [ba_append], Lib.hid (by rw [hM.out, AT.out, if_pos K0.out, A0.out K0.out]; simp), Lib.hid (by rw [OT.out, ha.out, C3.out]; rfl), hX3, hB3⟩
                    case measure => simp [intOf]; omega
                  · have K0 := Lib.hid h0
                    have e1 : ((0 : Int) < (k : Int)) := by omega
                    have e2 : (0 < k) := by omega
                    clear h0
                    go_wp2_with fail
                    refine XA.out.mono ?_
                    rintro e w3 ⟨rfl, d⟩
                    have hB3 := Lib.hid (step hB.out d)
                    have hX3 := Lib.hid (hX.out.step d)
                    clear d q0 q1
                    go_wp2
                    go_roundw
                    case rel => exact ⟨k + 1, M ++ [32, 97, 110, 100, 32] ++ X, by omega, by go_num, by rw [show (⟨#[32, 97, 110, 100, 32]⟩ : ByteArray) = ⟨[32, 97, 110, 100, 32].toArray⟩ from rfl, ba_append, ba_append], Lib.hid (by rw [hM.out, AT.out, if_neg K0.out]; simp), Lib.hid (by rw [OT.out, ha.out, C3.out]; rfl), hX3, hB3⟩
                    case measure => simp [intOf]; omega
                · have C3 := Lib.hid (show fmtOkA r xs = false by simpa using c3)
                  rw [fmtA_no C3.out] at XA
                  clear c3
                  go_wp2_with fail
                  refine XA.out.mono ?_
                  rintro e w3 ⟨rfl, d⟩
                  have hB3 := Lib.hid (step hB.out d)
                  clear d q0 q1
                  go_wp2
                  go_ret
                  exact ⟨ret_str (QN.out (ON.out C3.out)).symm, hB3.out⟩
              · obtain rfl : k = l.length := by omega
                have HA := Lib.hid (show okA l = true by have := ha.out; rwa [take_all] at this)
                have EM := Lib.hid (show M = P ++ [32, 105, 102, 32] ++ andL l by rw [hM.out, take_all])
                go_wp2
                go_ret
                exact ⟨ret_str (by rw [QY.out HI.out HA.out, EM.out]), hB.out⟩
    · have h3' : 3 < (hs.length : Int) := by omega
      have E := Lib.hid (fmtQ_no (show qOk hs l = false by unfold qOk headB; simp [h3]))
      rw [E.out]
      clear c1 h3
      go_enter Tryd.func10, Tryd.ntmps10
      go_wp2_with fail
      refine (l1In_any (l.length : Int) 1 4 _).mono ?_
      rintro e w1 ⟨he, rfl⟩
      rw [C1.out] at he
      subst he
      go_wp2
      go_ret
      exact ⟨rfl, B0.out⟩
  · have C1 := Lib.hid (show inB (l.length : Int) 1 4 = false by simpa using c1)
    have E := Lib.hid (fmtQ_no (show qOk hs l = false by unfold qOk; rw [C1.out]; simp))
    rw [E.out]
    clear c1
    go_enter Tryd.func10, Tryd.ntmps10
    go_wp2_with fail
    refine (l1In_any (l.length : Int) 1 4 _).mono ?_
    rintro e w1 ⟨he, rfl⟩
    rw [C1.out] at he
    subst he
    go_wp2
    go_ret
    exact ⟨rfl, B0.out⟩

theorem impl_FormatQuery_r (H A : Option Addr) (ch c : Nat) (hs : List Int) (l : FL) (hh : hs.length ≤ 1048577) (hz : szF l ≤ 1048576) (w : World) (h : RI w H hs) (h' : RF w A l) (ht : TabB w) :
    Calls Tryd.prog 13 #[.agg #[.slice H hs.length ch, .slice A l.length c]] w fun e w' => e = .returned (.string (fmtQ hs l)) ∧ Below w.heap.size w w' :=
  impl_FormatQuery H A ch c hs l hh hz w h h' (ht w (Below.refl _ _))
end Go.Proofs.YtimlpdcambmcjaaDoor
