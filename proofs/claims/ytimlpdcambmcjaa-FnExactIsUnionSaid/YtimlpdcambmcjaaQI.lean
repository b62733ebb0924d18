/- What the two functions IsQuery answer. Conditions: none beyond each theorem's own. -/
import Derived.Test.YtimlpdcambmcjaaQH
namespace Go.Proofs.Ytimlpdcambmcjaa
open Go.ChangeShapes Go.WideShapes Go.ChangeAt Go.RowKit Go.Sort
open Go.Proofs.Ytimlpdcambmcjaa.atom
set_option linter.unusedVariables false
set_option linter.unusedSimpArgs false

/-- Are all of l atoms of the schema s? -/
def atomsB (s : List Int) (l : FL) : Bool := l.all fun f => atom.factB s f.1 f.2
theorem atomsB_take (s : List Int) (l : FL) (k : Nat) (hk : k < l.length) {r : Int} {xs : List Int} (hf : l.getD k (0, []) = (r, xs)) : atomsB s (l.take (k + 1)) = (atomsB s (l.take k) && atom.factB s r xs) := by
  unfold atomsB
  rw [List.take_succ_eq_append_getElem hk, List.all_append]
  have : l[k] = l.getD k (0, []) := by simp [List.getD_eq_getElem?_getD, hk]
  rw [this, hf]
  simp
theorem atomsB_not (s : List Int) (l : FL) (k : Nat) (hk : k < l.length) {r : Int} {xs : List Int} (hf : l.getD k (0, []) = (r, xs)) (h : atom.factB s r xs = false) : atomsB s l = false := by
  unfold atomsB
  rw [List.all_eq_false]
  refine ⟨l[k], List.getElem_mem _, ?_⟩
  have : l.getD k (0, []) = l[k] := by simp [List.getD_eq_getElem?_getD, hk]
  rw [← this, hf]
  simp [h]
/-- Is (hs, l) a query of the schema s? -/
def queryB (s hs : List Int) (l : FL) : Bool := atomsB s l && inAll (wl 10 17 (terms l)) hs && schB s && inB (l.length : Int) 1 4 && decide (hs.length ≤ 3)
theorem atomsB_sch {s : List Int} {l : FL} (h : atomsB s l = true) (hl : 0 < l.length) : schB s = true := by
  unfold atomsB at h
  rw [List.all_eq_true] at h
  have := h l[0] (List.getElem_mem _)
  unfold atom.factB at this
  simp only [Bool.and_eq_true] at this
  exact this.1.1.1
theorem queryB_i (s hs : List Int) (l : FL) : queryB s hs l = (inB (l.length : Int) 1 4 && headB hs l && atomsB s l) := by
  unfold queryB headB
  by_cases h1 : inB (l.length : Int) 1 4 = true
  · by_cases h2 : atomsB s l = true
    · have h3 : 1 ≤ (l.length : Int) ∧ (l.length : Int) ≤ 4 := by simpa [inB] using h1
      rw [h1, h2, atomsB_sch h2 (by omega)]
      simp [Bool.and_comm]
    · have h2' : atomsB s l = false := by simpa using h2
      simp [h2']
  · have h1' : inB (l.length : Int) 1 4 = false := by simpa using h1
    simp [h1']

set_option maxRecDepth 100000 in
set_option maxHeartbeats 1000000 in
theorem impl_IsQuery (S H A : Option Addr) (cs ch c : Nat) (s hs : List Int) (l : FL) (hls : s.length ≤ 1048576) (hh : hs.length ≤ 1048577) (hz : szF l ≤ 1048576) (w : World) (hS : RI w S s) (h : RI w H hs) (h' : RF w A l) :
    Calls Try.prog 30 #[.slice S s.length cs, .agg #[.slice H hs.length ch, .slice A l.length c]] w fun e w' => e = .returned (.bool (queryB s hs l)) ∧ Below w.heap.size w w' := by
  have hl := szF_len hz
  have hl' : (l.length : Int) ≤ 1048576 := by omega
  have B0 := Lib.hid (below_alloc w (.cells #[.slice H hs.length ch, .slice A l.length c] 31))
  have X0 := Lib.hid (Box.new w #[.slice H hs.length ch, .slice A l.length c] 31)
  have XH := Lib.hid (isHead_any H A ch c hs l hh hz _ (h.step B0.out) (h'.step B0.out))
  have HS := Lib.hid hS
  have HF := Lib.hid h'
  clear hS h h'
  rw [queryB_i]
  by_cases c1 : inB (l.length : Int) 1 4 = true
  · have C1 := Lib.hid c1
    by_cases c2 : headB hs l = true
    · have C2 := Lib.hid c2
      have E := Lib.hid (show (inB (l.length : Int) 1 4 && headB hs l && atomsB s l) = atomsB s l by rw [c1, c2]; simp)
      rw [E.out]
      clear c1 c2 E
      go_enter Try.func30, Try.ntmps30
      go_wp2_with fail
      refine (isBetween_any (l.length : Int) 1 4 _).mono ?_
      rintro e w1 ⟨he, rfl⟩
      rw [C1.out] at he
      subst he
      go_wp2_with fail
      refine XH.out.mono ?_
      rintro e w1 ⟨he, d⟩
      rw [C2.out] at he
      subst he
      have X1 := X0.out.step d
      have x1 := X1.cell 1
      simp only [List.getElem?_toArray, List.getElem?_cons_zero, List.getElem?_cons_succ] at x1
      have B1 := Lib.hid (step B0.out d)
      clear d X1
      go_wp2
      go_loopw [6, 20] (fun _ i wr => ∃ k : Nat, k ≤ l.length ∧ i = .int .i64 k ∧ Hid (atomsB s (l.take k) = true) ∧ Hid (Below w.heap.size w wr)) (fun _ i _ => l.length - (intOf i).toNat)
      case atStart => exact ⟨0, by omega, rfl, Lib.hid rfl, B1⟩
      case round =>
        obtain ⟨k, hk, rfl, ha, hB⟩ := hrel
        have hk0 : (0 : Int) ≤ (k : Int) := by omega
        by_cases hlt : k < l.length
        · generalize hf : l.getD k (0, []) = f
          obtain ⟨r, xs⟩ := f
          have hxl : xs.length ≤ 1048576 := by have := szF_elem hz hlt; rw [hf] at this; exact this
          have HT := Lib.hid (atomsB_take s l k hlt hf)
          have HN := Lib.hid fun (h : atom.factB s r xs = false) => atomsB_not s l k hlt hf h
          have hk1 : (k : Int) < (l.length : Int) := by omega
          obtain ⟨b, off, B, c3, rfl, hb, e0, e1, _, hcm, hJ⟩ := HF.out.at_ hlt hf
          have q0 := (hB.out.cell (p := ⟨b, off + k * 2, none⟩) hb).trans e0
          have q1 := (hB.out.cell (p := ⟨b, off + k * 2 + 1, none⟩) hb).trans e1
          have BA := below_alloc wr (.cells #[.int .i64 r, .slice B xs.length c3] 68)
          have B2 := step hB.out BA
          have XA := Lib.hid (impl_IsAtom_r S cs s r xs B c3 (by omega) (by omega) _ (HS.out.step B2) (hJ.step B2))
          have HB2 := Lib.hid B2
          clear hf e0 e1 hJ BA B2
          by_cases c3 : atom.factB s r xs = true
          · have C3 := Lib.hid c3
            clear c3
            go_wp2_with fail
            refine XA.out.mono ?_
            rintro e w2 ⟨he, d⟩
            rw [C3.out] at he
            subst he
            have HB3 := Lib.hid (step HB2.out d)
            clear d
            go_wp2
            go_roundw
            case rel => exact ⟨k + 1, by omega, by go_num, Lib.hid (by rw [HT.out, ha.out, C3.out]; rfl), HB3⟩
            case measure => simp [intOf]; omega
          · have C3 := Lib.hid (show atom.factB s r xs = false by simpa using c3)
            clear c3
            go_wp2_with fail
            refine XA.out.mono ?_
            rintro e w2 ⟨he, d⟩
            rw [C3.out] at he
            subst he
            have HB3 := Lib.hid (step HB2.out d)
            clear d
            go_wp2
            go_ret
            exact ⟨ret_bool (HN.out C3.out).symm, HB3.out⟩
        · obtain rfl : k = l.length := by omega
          go_wp2
          go_ret
          exact ⟨ret_bool (by have := ha.out; rw [take_all] at this; rw [this]), hB.out⟩
    · have C2 := Lib.hid (show headB hs l = false by simpa using c2)
      have E := Lib.hid (show (inB (l.length : Int) 1 4 && headB hs l && atomsB s l) = false by rw [C2.out]; simp)
      rw [E.out]
      clear c1 c2 E
      go_enter Try.func30, Try.ntmps30
      go_wp2_with fail
      refine (isBetween_any (l.length : Int) 1 4 _).mono ?_
      rintro e w1 ⟨he, rfl⟩
      rw [C1.out] at he
      subst he
      go_wp2_with fail
      refine XH.out.mono ?_
      rintro e w1 ⟨he, d⟩
      rw [C2.out] at he
      subst he
      have B1 := Lib.hid (step B0.out d)
      clear d
      go_wp2
      go_ret
      exact ⟨rfl, B1.out⟩
  · have C1 := Lib.hid (show inB (l.length : Int) 1 4 = false by simpa using c1)
    have E := Lib.hid (show (inB (l.length : Int) 1 4 && headB hs l && atomsB s l) = false by rw [C1.out]; simp)
    rw [E.out]
    clear c1 E
    go_enter Try.func30, Try.ntmps30
    go_wp2_with fail
    refine (isBetween_any (l.length : Int) 1 4 _).mono ?_
    rintro e w1 ⟨he, rfl⟩
    rw [C1.out] at he
    subst he
    go_wp2
    go_ret
    exact ⟨rfl, B0.out⟩

set_option maxRecDepth 100000 in
set_option maxHeartbeats 1000000 in
theorem spec_IsQuery (S H A : Option Addr) (cs ch c : Nat) (s hs : List Int) (l : FL) (hls : s.length ≤ 1048576) (hh : hs.length ≤ 1048577) (hz : szF l ≤ 1048576) (w : World) (hS : RI w S s) (h : RI w H hs) (h' : RF w A l) :
    Calls Try.prog 25 #[.slice S s.length cs, .agg #[.slice H hs.length ch, .slice A l.length c]] w fun e w' => e = .returned (.bool (queryB s hs l)) ∧ Below w.heap.size w w' := by
  have hl := szF_len hz
  have hl' : (l.length : Int) ≤ 1048576 := by omega
  have hh' : (hs.length : Int) ≤ 1048577 := by omega
  have B0 := Lib.hid (below_alloc w (.cells #[.slice H hs.length ch, .slice A l.length c] 31))
  have X0 := Lib.hid (Box.new w #[.slice H hs.length ch, .slice A l.length c] 31)
  have HS := Lib.hid hS
  have HH := Lib.hid h
  have HF := Lib.hid h'
  have HV := Lib.hid (wl_len 10 17 (terms l))
  have CV := Lib.hid fun (W : World) (hW : RF W A l) => (spec_VarsOf H A ch c hs l hz W hW).mono fun _ _ h => h.toV
  clear hS h h'
  go_enter Try.func25, Try.ntmps25
  go_wp2
  go_loopw [5] (fun i wr => ∃ k : Nat, k ≤ l.length ∧ i = .int .i64 k ∧ Hid (atomsB s (l.take k) = true) ∧ Hid (Below w.heap.size w wr) ∧ Hid (Box wr w.heap.size #[.slice H hs.length ch, .slice A l.length c] 31)) (fun i _ => l.length - (intOf i).toNat)
  case atStart => exact ⟨0, by omega, rfl, Lib.hid rfl, B0, X0⟩
  case round =>
    obtain ⟨k, hk, rfl, ha, hB, hX⟩ := hrel
    have hk0 : (0 : Int) ≤ (k : Int) := by omega
    have g0 := hX.out.cell 0
    have g1 := hX.out.cell 1
    simp only [List.getElem?_toArray, List.getElem?_cons_zero, List.getElem?_cons_succ] at g0 g1
    by_cases hlt : k < l.length
    · generalize hf : l.getD k (0, []) = f
      obtain ⟨r, xs⟩ := f
      have hxl : xs.length ≤ 1048576 := by have := szF_elem hz hlt; rw [hf] at this; exact this
      have HT := Lib.hid (atomsB_take s l k hlt hf)
      have HN := Lib.hid fun (h : atom.factB s r xs = false) => atomsB_not s l k hlt hf h
      have hk1 : (k : Int) < (l.length : Int) := by omega
      obtain ⟨b, off, B, c3, rfl, hb, e0, e1, _, hcm, hJ⟩ := HF.out.at_ hlt hf
      have q0 := (hB.out.cell (p := ⟨b, off + k * 2, none⟩) hb).trans e0
      have q1 := (hB.out.cell (p := ⟨b, off + k * 2 + 1, none⟩) hb).trans e1
      have XA := Lib.hid (spec_IsAtom_r S cs s r xs B c3 (by omega) (by omega) _ (HS.out.step hB.out) (hJ.step hB.out))
      clear hf e0 e1 hJ g0
      by_cases c3 : atom.factB s r xs = true
      · have C3 := Lib.hid c3
        clear c3
        go_wp2_with fail
        refine XA.out.mono ?_
        rintro e w2 ⟨he, d⟩
        rw [C3.out] at he
        subst he
        have HB3 := Lib.hid (step hB.out d)
        have HX3 := Lib.hid (hX.out.step d)
        clear d g1 q0 q1
        go_wp2
        go_roundw
        case rel => exact ⟨k + 1, by omega, by go_num, Lib.hid (by rw [HT.out, ha.out, C3.out]; rfl), HB3, HX3⟩
        case measure => simp [intOf]; omega
      · have C3 := Lib.hid (show atom.factB s r xs = false by simpa using c3)
        clear c3
        go_wp2_with fail
        refine XA.out.mono ?_
        rintro e w2 ⟨he, d⟩
        rw [C3.out] at he
        subst he
        have HB3 := Lib.hid (step hB.out d)
        clear d g1 q0 q1
        go_wp2
        go_ret
        exact ⟨ret_bool (by unfold queryB; rw [HN.out C3.out]; rfl), HB3.out⟩
    · obtain rfl : k = l.length := by omega
      have HA := Lib.hid (show atomsB s l = true by have := ha.out; rwa [take_all] at this)
      have hv : (wl 10 17 (terms l)).length ≤ 1048576 := by have := HV.out; omega
      have EQ := Lib.hid (show queryB s hs l = (inAll (wl 10 17 (terms l)) hs && schB s && inB (l.length : Int) 1 4 && decide (hs.length ≤ 3)) by unfold queryB; rw [HA.out]; simp)
      generalize wl 10 17 (terms l) = vs at CV hv EQ
      clear ha HV
      go_wp2_with fail
      refine (CV.out _ (HF.out.step hB.out)).mono ?_
      rintro e w2 ⟨A2, c2, rfl, hi2, d⟩
      have HV2 := Lib.hid hi2.ri
      have HB2 := Lib.hid (step hB.out d)
      have HX2 := Lib.hid (hX.out.step d)
      have HH2 := Lib.hid (HH.out.step (step hB.out d))
      clear g0 g1
      have g0 := HX2.out.cell 0
      have g1 := HX2.out.cell 1
      simp only [List.getElem?_toArray, List.getElem?_cons_zero, List.getElem?_cons_succ] at g0 g1
      clear hi2 d
      go_wp2
      go_loop [7] (fun i => ∃ j : Nat, j ≤ hs.length ∧ i = .int .i64 j ∧ Hid (inAll vs (hs.take j) = true)) (fun i => hs.length - (intOf i).toNat)
      case atStart => exact ⟨0, by omega, rfl, Lib.hid rfl⟩
      case round =>
        obtain ⟨j, hj, rfl, ha⟩ := hrel
        have hj0 : (0 : Int) ≤ (j : Int) := by omega
        by_cases hlt : j < hs.length
        · obtain ⟨b, off, rfl, _, hc⟩ := HH2.out.at_ hlt
          have hj1 : (j : Int) < (hs.length : Int) := by omega
          generalize hx : hs.getD j 0 = x at hc
          have HX := Lib.hid hx
          have XC := Lib.hid (l2Has_any 0 _ A2 c2 vs x hv w2 HV2.out)
          clear hx
          by_cases hm : decide (x ∈ vs) = true
          · have HM := Lib.hid hm
            clear hm
            go_wp2_with fail
            refine XC.out.mono ?_
            rintro e w3 ⟨he, rfl⟩
            rw [HM.out] at he
            subst he
            go_wp2
            go_round
            case rel => exact ⟨j + 1, by omega, by go_num, Lib.hid (by rw [inAll_take _ _ _ hlt, ha.out, HX.out, HM.out]; rfl)⟩
            case measure => simp [intOf]; omega
          · have HM := Lib.hid (show decide (x ∈ vs) = false by simpa using hm)
            clear hm
            go_wp2_with fail
            refine XC.out.mono ?_
            rintro e w3 ⟨he, rfl⟩
            rw [HM.out] at he
            subst he
            go_wp2
            go_ret
            exact ⟨ret_bool (by rw [EQ.out, inAll_not _ _ j hlt (by rw [HX.out]; exact HM.out)]; rfl), HB2.out⟩
        · obtain rfl : j = hs.length := by omega
          have HI := Lib.hid (show inAll vs hs = true by have := ha.out; rwa [take_all] at this)
          have XS := Lib.hid (spec_IsSchema 0 _ S cs s (by omega) w2 (show Ints w2 0 _ S s from HS.out.step HB2.out))
          clear ha
          by_cases c1 : schB s = true
          · have C1 := Lib.hid c1
            by_cases c2 : inB (l.length : Int) 1 4 = true
            · have C2 := Lib.hid c2
              by_cases c3 : hs.length ≤ 3
              · have c3' : (hs.length : Int) ≤ 3 := by omega
                have E := Lib.hid (show queryB s hs l = true by rw [EQ.out, HI.out]; rw [c1, c2]; simp [c3])
                clear c1 c2
                go_wp2_with fail
                refine XS.out.mono ?_
                rintro e w3 ⟨he, rfl⟩
                rw [C1.out] at he
                subst he
                go_wp2_with fail
                refine (l1In_any (l.length : Int) 1 4 _).mono ?_
                rintro e w3 ⟨he, rfl⟩
                rw [C2.out] at he
                subst he
                go_wp2
                go_ret
                exact ⟨ret_bool E.out.symm, HB2.out⟩
              · have c3' : ¬ (hs.length : Int) ≤ 3 := by omega
                have E := Lib.hid (show queryB s hs l = false by rw [EQ.out, HI.out]; rw [c1, c2]; simp [c3])
                clear c1 c2
                go_wp2_with fail
                refine XS.out.mono ?_
                rintro e w3 ⟨he, rfl⟩
                rw [C1.out] at he
                subst he
                go_wp2_with fail
                refine (l1In_any (l.length : Int) 1 4 _).mono ?_
                rintro e w3 ⟨he, rfl⟩
                rw [C2.out] at he
                subst he
                go_wp2
                go_ret
                exact ⟨ret_bool ((decide_eq_false (show ¬ (hs.length : Int) ≤ 3 by omega)).trans E.out.symm), HB2.out⟩
            · have C2 := Lib.hid (show inB (l.length : Int) 1 4 = false by simpa using c2)
              have E := Lib.hid (show queryB s hs l = false by rw [EQ.out, HI.out]; rw [C2.out]; simp)
              clear c1 c2
              go_wp2_with fail
              refine XS.out.mono ?_
              rintro e w3 ⟨he, rfl⟩
              rw [C1.out] at he
              subst he
              go_wp2_with fail
              refine (l1In_any (l.length : Int) 1 4 _).mono ?_
              rintro e w3 ⟨he, rfl⟩
              rw [C2.out] at he
              subst he
              go_wp2
              go_ret
              exact ⟨ret_bool E.out.symm, HB2.out⟩
          · have C1 := Lib.hid (show schB s = false by simpa using c1)
            have E := Lib.hid (show queryB s hs l = false by rw [EQ.out, HI.out]; rw [C1.out]; simp)
            clear c1
            go_wp2_with fail
            refine XS.out.mono ?_
            rintro e w3 ⟨he, rfl⟩
            rw [C1.out] at he
            subst he
            go_wp2
            go_ret
            exact ⟨ret_bool E.out.symm, HB2.out⟩
end Go.Proofs.Ytimlpdcambmcjaa
