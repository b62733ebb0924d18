/- What the two functions IsQuery answer. Conditions: none beyond each theorem's own. What a query and facts that are valid give: few answers of few digits. Conditions: none beyond each theorem's own. The search for matchings with a list of choices: what holds between its rounds. Conditions: none beyond each theorem's own. The search from a known binding on: what the choices hold. Conditions: none beyond each theorem's own. -/
import Derived.Test.YtimlpdcambmcjaaM18
import Derived.Test.YtimlpdcambmcjaaM6
import Derived.Test.YtimlpdcambmcjaaM2
import Derived.Test.YtimlpdcambmcjaaM8
import Derived.Deep.LoopGhost

namespace Go.Proofs.Ytimlpdcambmcjaa
open Go.ChangeShapes Go.WideShapes Go.ChangeAt Go.RowKit Go.Sort
open Go.Proofs.Ytimlpdcambmcjaa.atom
set_option linter.unusedVariables false
set_option linter.unusedSimpArgs false

/-- Are all of l atoms of the schema s? -/
def atomsB (s : List Int) (l : FL) : Bool := l.all fun f => atom.factB s f.1 f.2
theorem atomsB_take (s : List Int) (l : FL) (k : Nat) (hk : k < l.length) {r : Int} {xs : List Int} (hf : l.getD k (0, []) = (r, xs)) : atomsB s (l.take (k + 1)) = (atomsB s (l.take k) && atom.factB s r xs) := by
  unfold atomsB
  rw [List.take_succ_eq_append_getElem hk, List.all_append]
  have : l[k] = l.getD k (0, []) := by simp [List.getD_eq_getElem?_getD, hk]
  rw [this, hf]
  simp
theorem atomsB_not (s : List Int) (l : FL) (k : Nat) (hk : k < l.length) {r : Int} {xs : List Int} (hf : l.getD k (0, []) = (r, xs)) (h : atom.factB s r xs = false) : atomsB s l = false := by
  unfold atomsB
  rw [List.all_eq_false]
  refine ⟨l[k], List.getElem_mem _, ?_⟩
  have : l.getD k (0, []) = l[k] := by simp [List.getD_eq_getElem?_getD, hk]
  rw [← this, hf]
  simp [h]
/-- Is (hs, l) a query of the schema s? -/
def queryB (s hs : List Int) (l : FL) : Bool := atomsB s l && inAll (wl 10 17 (terms l)) hs && schB s && inB (l.length : Int) 1 4 && decide (hs.length ≤ 3)
theorem atomsB_sch {s : List Int} {l : FL} (h : atomsB s l = true) (hl : 0 < l.length) : schB s = true := by
  unfold atomsB at h
  rw [List.all_eq_true] at h
  have := h l[0] (List.getElem_mem _)
  unfold atom.factB at this
  simp only [Bool.and_eq_true] at this
  exact this.1.1.1
theorem queryB_i (s hs : List Int) (l : FL) : queryB s hs l = (inB (l.length : Int) 1 4 && headB hs l && atomsB s l) := by
  unfold queryB headB
  by_cases h1 : inB (l.length : Int) 1 4 = true
  · by_cases h2 : atomsB s l = true
    · have h3 : 1 ≤ (l.length : Int) ∧ (l.length : Int) ≤ 4 := by simpa [inB] using h1
      rw [h1, h2, atomsB_sch h2 (by omega)]
      simp [Bool.and_comm]
    · have h2' : atomsB s l = false := by simpa using h2
      simp [h2']
  · have h1' : inB (l.length : Int) 1 4 = false := by simpa using h1
    simp [h1']

set_option maxRecDepth 100000 in
set_option maxHeartbeats 1000000 in
theorem impl_IsQuery (S H A : Option Addr) (cs ch c : Nat) (s hs : List Int) (l : FL) (hls : s.length ≤ 1048576) (hh : hs.length ≤ 1048577) (hz : szF l ≤ 1048576) (w : World) (hS : RI w S s) (h : RI w H hs) (h' : RF w A l) :
    Calls Try.prog 30 #[.slice S s.length cs, .agg #[.slice H hs.length ch, .slice A l.length c]] w fun e w' => e = .returned (.bool (queryB s hs l)) ∧ Below w.heap.size w w' := by
  have hl := szF_len hz
  have hl' : (l.length : Int) ≤ 1048576 := by omega
  have B0 := Lib.hid (below_alloc w (.cells #[.slice H hs.length ch, .slice A l.length c] 31))
  have X0 := Lib.hid (Box.new w #[.slice H hs.length ch, .slice A l.length c] 31)
  have XH := Lib.hid (isHead_any H A ch c hs l hh hz _ (h.step B0.out) (h'.step B0.out))
  have HS := Lib.hid hS
  have HF := Lib.hid h'
  clear hS h h'
  rw [queryB_i]
  by_cases c1 : inB (l.length : Int) 1 4 = true
  · have C1 := Lib.hid c1
    by_cases c2 : headB hs l = true
    · have C2 := Lib.hid c2
      have E := Lib.hid (show (inB (l.length : Int) 1 4 && headB hs l && atomsB s l) = atomsB s l by rw [c1, c2]; simp)
      rw [E.out]
      clear c1 c2 E
      go_enter Try.func30, Try.ntmps30
      go_wp2_with fail
      refine (isBetween_any (l.length : Int) 1 4 _).mono ?_
      rintro e w1 ⟨he, rfl⟩
      rw [C1.out] at he
      subst he
      go_wp2_with fail
      refine XH.out.mono ?_
      rintro e w1 ⟨he, d⟩
      rw [C2.out] at he
      subst he
      have X1 := X0.out.step d
      have x1 := X1.cell 1
      simp only [List.getElem?_toArray, List.getElem?_cons_zero, List.getElem?_cons_succ] at x1
      have B1 := Lib.hid (step B0.out d)
      clear d X1
      go_wp2
      go_loopw [6, 20] (fun _ i wr => ∃ k : Nat, k ≤ l.length ∧ i = .int .i64 k ∧ Hid (atomsB s (l.take k) = true) ∧ Hid (Below w.heap.size w wr)) (fun _ i _ => l.length - (intOf i).toNat)
      case atStart => exact ⟨0, by omega, rfl, Lib.hid rfl, B1⟩
      case round =>
        obtain ⟨k, hk, rfl, ha, hB⟩ := hrel
        have hk0 : (0 : Int) ≤ (k : Int) := by omega
        by_cases hlt : k < l.length
        · generalize hf : l.getD k (0, []) = f
          obtain ⟨r, xs⟩ := f
          have hxl : xs.length ≤ 1048576 := by have := szF_elem hz hlt; rw [hf] at this; exact this
          have HT := Lib.hid (atomsB_take s l k hlt hf)
          have HN := Lib.hid fun (h : atom.factB s r xs = false) => atomsB_not s l k hlt hf h
          have hk1 : (k : Int) < (l.length : Int) := by omega
          obtain ⟨b, off, B, c3, rfl, hb, e0, e1, _, hcm, hJ⟩ := HF.out.at_ hlt hf
          have q0 := (hB.out.cell (p := ⟨b, off + k * 2, none⟩) hb).trans e0
          have q1 := (hB.out.cell (p := ⟨b, off + k * 2 + 1, none⟩) hb).trans e1
          have BA := below_alloc wr (.cells #[.int .i64 r, .slice B xs.length c3] 68)
          have B2 := step hB.out BA
          have XA := Lib.hid (impl_IsAtom_r S cs s r xs B c3 (by omega) (by omega) _ (HS.out.step B2) (hJ.step B2))
          have HB2 := Lib.hid B2
          clear hf e0 e1 hJ BA B2
          by_cases c3 : atom.factB s r xs = true
          · have C3 := Lib.hid c3
            clear c3
            go_wp2_with fail
            refine XA.out.mono ?_
            rintro e w2 ⟨he, d⟩
            rw [C3.out] at he
            subst he
            have HB3 := Lib.hid (step HB2.out d)
            clear d
            go_wp2
            go_roundw
            case rel => exact ⟨k + 1, by omega, by go_num, Lib.hid (by rw [HT.out, ha.out, C3.out]; rfl), HB3⟩
            case measure => simp [intOf]; omega
          · have C3 := Lib.hid (show atom.factB s r xs = false by simpa using c3)
            clear c3
            go_wp2_with fail
            refine XA.out.mono ?_
            rintro e w2 ⟨he, d⟩
            rw [C3.out] at he
            subst he
            have HB3 := Lib.hid (step HB2.out d)
            clear d
            go_wp2
            go_ret
            exact ⟨ret_bool (HN.out C3.out).symm, HB3.out⟩
        · obtain rfl : k = l.length := by omega
          go_wp2
          go_ret
          exact ⟨ret_bool (by have := ha.out; rw [take_all] at this; rw [this]), hB.out⟩
    · have C2 := Lib.hid (show headB hs l = false by simpa using c2)
      have E := Lib.hid (show (inB (l.length : Int) 1 4 && headB hs l && atomsB s l) = false by rw [C2.out]; simp)
      rw [E.out]
      clear c1 c2 E
      go_enter Try.func30, Try.ntmps30
      go_wp2_with fail
      refine (isBetween_any (l.length : Int) 1 4 _).mono ?_
      rintro e w1 ⟨he, rfl⟩
      rw [C1.out] at he
      subst he
      go_wp2_with fail
      refine XH.out.mono ?_
      rintro e w1 ⟨he, d⟩
      rw [C2.out] at he
      subst he
      have B1 := Lib.hid (step B0.out d)
      clear d
      go_wp2
      go_ret
      exact ⟨rfl, B1.out⟩
  · have C1 := Lib.hid (show inB (l.length : Int) 1 4 = false by simpa using c1)
    have E := Lib.hid (show (inB (l.length : Int) 1 4 && headB hs l && atomsB s l) = false by rw [C1.out]; simp)
    rw [E.out]
    clear c1 E
    go_enter Try.func30, Try.ntmps30
    go_wp2_with fail
    refine (isBetween_any (l.length : Int) 1 4 _).mono ?_
    rintro e w1 ⟨he, rfl⟩
    rw [C1.out] at he
    subst he
    go_wp2
    go_ret
    exact ⟨rfl, B0.out⟩

set_option maxRecDepth 100000 in
set_option maxHeartbeats 1000000 in
theorem spec_IsQuery (S H A : Option Addr) (cs ch c : Nat) (s hs : List Int) (l : FL) (hls : s.length ≤ 1048576) (hh : hs.length ≤ 1048577) (hz : szF l ≤ 1048576) (w : World) (hS : RI w S s) (h : RI w H hs) (h' : RF w A l) :
    Calls Try.prog 25 #[.slice S s.length cs, .agg #[.slice H hs.length ch, .slice A l.length c]] w fun e w' => e = .returned (.bool (queryB s hs l)) ∧ Below w.heap.size w w' := by
  have hl := szF_len hz
  have hl' : (l.length : Int) ≤ 1048576 := by omega
  have hh' : (hs.length : Int) ≤ 1048577 := by omega
  have B0 := Lib.hid (below_alloc w (.cells #[.slice H hs.length ch, .slice A l.length c] 31))
  have X0 := Lib.hid (Box.new w #[.slice H hs.length ch, .slice A l.length c] 31)
  have HS := Lib.hid hS
  have HH := Lib.hid h
  have HF := Lib.hid h'
  have HV := Lib.hid (wl_len 10 17 (terms l))
  have CV := Lib.hid fun (W : World) (hW : RF W A l) => (spec_VarsOf H A ch c hs l hz W hW).mono fun _ _ h => h.toV
  clear hS h h'
  go_enter Try.func25, Try.ntmps25
  go_wp2
  go_loopw [5] (fun i wr => ∃ k : Nat, k ≤ l.length ∧ i = .int .i64 k ∧ Hid (atomsB s (l.take k) = true) ∧ Hid (Below w.heap.size w wr) ∧ Hid (Box wr w.heap.size #[.slice H hs.length ch, .slice A l.length c] 31)) (fun i _ => l.length - (intOf i).toNat)
  case atStart => exact ⟨0, by omega, rfl, Lib.hid rfl, B0, X0⟩
  case round =>
    obtain ⟨k, hk, rfl, ha, hB, hX⟩ := hrel
    have hk0 : (0 : Int) ≤ (k : Int) := by omega
    have g0 := hX.out.cell 0
    have g1 := hX.out.cell 1
    simp only [List.getElem?_toArray, List.getElem?_cons_zero, List.getElem?_cons_succ] at g0 g1
    by_cases hlt : k < l.length
    · generalize hf : l.getD k (0, []) = f
      obtain ⟨r, xs⟩ := f
      have hxl : xs.length ≤ 1048576 := by have := szF_elem hz hlt; rw [hf] at this; exact this
      have HT := Lib.hid (atomsB_take s l k hlt hf)
      have HN := Lib.hid fun (h : atom.factB s r xs = false) => atomsB_not s l k hlt hf h
      have hk1 : (k : Int) < (l.length : Int) := by omega
      obtain ⟨b, off, B, c3, rfl, hb, e0, e1, _, hcm, hJ⟩ := HF.out.at_ hlt hf
      have q0 := (hB.out.cell (p := ⟨b, off + k * 2, none⟩) hb).trans e0
      have q1 := (hB.out.cell (p := ⟨b, off + k * 2 + 1, none⟩) hb).trans e1
      have XA := Lib.hid (spec_IsAtom_r S cs s r xs B c3 (by omega) (by omega) _ (HS.out.step hB.out) (hJ.step hB.out))
      clear hf e0 e1 hJ g0
      by_cases c3 : atom.factB s r xs = true
      · have C3 := Lib.hid c3
        clear c3
        go_wp2_with fail
        refine XA.out.mono ?_
        rintro e w2 ⟨he, d⟩
        rw [C3.out] at he
        subst he
        have HB3 := Lib.hid (step hB.out d)
        have HX3 := Lib.hid (hX.out.step d)
        clear d g1 q0 q1
        go_wp2
        go_roundw
        case rel => exact ⟨k + 1, by omega, by go_num, Lib.hid (by rw [HT.out, ha.out, C3.out]; rfl), HB3, HX3⟩
        case measure => simp [intOf]; omega
      · have C3 := Lib.hid (show atom.factB s r xs = false by simpa using c3)
        clear c3
        go_wp2_with fail
        refine XA.out.mono ?_
        rintro e w2 ⟨he, d⟩
        rw [C3.out] at he
        subst he
        have HB3 := Lib.hid (step hB.out d)
        clear d g1 q0 q1
        go_wp2
        go_ret
        exact ⟨ret_bool (by unfold queryB; rw [HN.out C3.out]; rfl), HB3.out⟩
    · obtain rfl : k = l.length := by omega
      have HA := Lib.hid (show atomsB s l = true by have := ha.out; rwa [take_all] at this)
      have hv : (wl 10 17 (terms l)).length ≤ 1048576 := by have := HV.out; omega
      have EQ := Lib.hid (show queryB s hs l = (inAll (wl 10 17 (terms l)) hs && schB s && inB (l.length : Int) 1 4 && decide (hs.length ≤ 3)) by unfold queryB; rw [HA.out]; simp)
      generalize wl 10 17 (terms l) = vs at CV hv EQ
      clear ha HV
      go_wp2_with fail
      refine (CV.out _ (HF.out.step hB.out)).mono ?_
      rintro e w2 ⟨A2, c2, rfl, hi2, d⟩
      have HV2 := Lib.hid hi2.ri
      have HB2 := Lib.hid (step hB.out d)
      have HX2 := Lib.hid (hX.out.step d)
      have HH2 := Lib.hid (HH.out.step (step hB.out d))
      clear g0 g1
      have g0 := HX2.out.cell 0
      have g1 := HX2.out.cell 1
      simp only [List.getElem?_toArray, List.getElem?_cons_zero, List.getElem?_cons_succ] at g0 g1
      clear hi2 d
      go_wp2
      go_loop [7] (fun i => ∃ j : Nat, j ≤ hs.length ∧ i = .int .i64 j ∧ Hid (inAll vs (hs.take j) = true)) (fun i => hs.length - (intOf i).toNat)
      case atStart => exact ⟨0, by omega, rfl, Lib.hid rfl⟩
      case round =>
        obtain ⟨j, hj, rfl, ha⟩ := hrel
        have hj0 : (0 : Int) ≤ (j : Int) := by omega
        by_cases hlt : j < hs.length
        · obtain ⟨b, off, rfl, _, hc⟩ := HH2.out.at_ hlt
          have hj1 : (j : Int) < (hs.length : Int) := by omega
          generalize hx : hs.getD j 0 = x at hc
          have HX := Lib.hid hx
          have XC := Lib.hid (l2Has_any 0 _ A2 c2 vs x hv w2 HV2.out)
          clear hx
          by_cases hm : decide (x ∈ vs) = true
          · have HM := Lib.hid hm
            clear hm
            go_wp2_with fail
            refine XC.out.mono ?_
            rintro e w3 ⟨he, rfl⟩
            rw [HM.out] at he
            subst he
            go_wp2
            go_round
            case rel => exact ⟨j + 1, by omega, by go_num, Lib.hid (by rw [inAll_take _ _ _ hlt, ha.out, HX.out, HM.out]; rfl)⟩
            case measure => simp [intOf]; omega
          · have HM := Lib.hid (show decide (x ∈ vs) = false by simpa using hm)
            clear hm
            go_wp2_with fail
            refine XC.out.mono ?_
            rintro e w3 ⟨he, rfl⟩
            rw [HM.out] at he
            subst he
            go_wp2
            go_ret
            exact ⟨ret_bool (by rw [EQ.out, inAll_not _ _ j hlt (by rw [HX.out]; exact HM.out)]; rfl), HB2.out⟩
        · obtain rfl : j = hs.length := by omega
          have HI := Lib.hid (show inAll vs hs = true by have := ha.out; rwa [take_all] at this)
          have XS := Lib.hid (spec_IsSchema 0 _ S cs s (by omega) w2 (show Ints w2 0 _ S s from HS.out.step HB2.out))
          clear ha
          by_cases c1 : schB s = true
          · have C1 := Lib.hid c1
            by_cases c2 : inB (l.length : Int) 1 4 = true
            · have C2 := Lib.hid c2
              by_cases c3 : hs.length ≤ 3
              · have c3' : (hs.length : Int) ≤ 3 := by omega
                have E := Lib.hid (show queryB s hs l = true by rw [EQ.out, HI.out]; rw [c1, c2]; simp [c3])
                clear c1 c2
                go_wp2_with fail
                refine XS.out.mono ?_
                rintro e w3 ⟨he, rfl⟩
                rw [C1.out] at he
                subst he
                go_wp2_with fail
                refine (l1In_any (l.length : Int) 1 4 _).mono ?_
                rintro e w3 ⟨he, rfl⟩
                rw [C2.out] at he
                subst he
                go_wp2
                go_ret
                exact ⟨ret_bool E.out.symm, HB2.out⟩
              · have c3' : ¬ (hs.length : Int) ≤ 3 := by omega
                have E := Lib.hid (show queryB s hs l = false by rw [EQ.out, HI.out]; rw [c1, c2]; simp [c3])
                clear c1 c2
                go_wp2_with fail
                refine XS.out.mono ?_
                rintro e w3 ⟨he, rfl⟩
                rw [C1.out] at he
                subst he
                go_wp2_with fail
                refine (l1In_any (l.length : Int) 1 4 _).mono ?_
                rintro e w3 ⟨he, rfl⟩
                rw [C2.out] at he
                subst he
                go_wp2
                go_ret
                exact ⟨ret_bool ((decide_eq_false (show ¬ (hs.length : Int) ≤ 3 by omega)).trans E.out.symm), HB2.out⟩
            · have C2 := Lib.hid (show inB (l.length : Int) 1 4 = false by simpa using c2)
              have E := Lib.hid (show queryB s hs l = false by rw [EQ.out, HI.out]; rw [C2.out]; simp)
              clear c1 c2
              go_wp2_with fail
              refine XS.out.mono ?_
              rintro e w3 ⟨he, rfl⟩
              rw [C1.out] at he
              subst he
              go_wp2_with fail
              refine (l1In_any (l.length : Int) 1 4 _).mono ?_
              rintro e w3 ⟨he, rfl⟩
              rw [C2.out] at he
              subst he
              go_wp2
              go_ret
              exact ⟨ret_bool E.out.symm, HB2.out⟩
          · have C1 := Lib.hid (show schB s = false by simpa using c1)
            have E := Lib.hid (show queryB s hs l = false by rw [EQ.out, HI.out]; rw [C1.out]; simp)
            clear c1
            go_wp2_with fail
            refine XS.out.mono ?_
            rintro e w3 ⟨he, rfl⟩
            rw [C1.out] at he
            subst he
            go_wp2
            go_ret
            exact ⟨ret_bool E.out.symm, HB2.out⟩
end Go.Proofs.Ytimlpdcambmcjaa

namespace Go.Proofs.Ytimlpdcambmcjaa
open Go.ChangeShapes Go.WideShapes Go.ChangeAt Go.RowKit Go.Sort
set_option linter.unusedVariables false
set_option linter.unusedSimpArgs false

theorem allB_mem {a b : Int} {xs : List Int} (h : allB a b xs = true) {x : Int} (hx : x ∈ xs) : a ≤ x ∧ x ≤ b := by
  unfold allB at h
  rw [List.all_eq_true] at h
  simpa [inB] using h x hx
theorem allB_of {a b : Int} {xs : List Int} (h : ∀ x ∈ xs, a ≤ x ∧ x ≤ b) : allB a b xs = true := by
  unfold allB
  rw [List.all_eq_true]
  intro x hx
  simpa [inB] using h x hx
theorem areB_few {s : List Int} {l : FL} (h : areB s l = true) : l.length ≤ 24 ∧ ∀ f ∈ l, allB 0 9 f.2 = true ∧ f.2.length ≤ 3 := by
  unfold areB at h
  simp only [Bool.and_eq_true, decide_eq_true_eq] at h
  obtain ⟨⟨h1, h2⟩, h3⟩ := h
  refine ⟨h3, fun f hf => ?_⟩
  obtain ⟨k, hk, rfl⟩ := List.getElem_of_mem hf
  unfold allOk at h1
  rw [List.all_eq_true] at h1
  have h4 := h1 k (by simpa using hk)
  unfold okAt at h4
  rw [Bool.and_eq_true] at h4
  have e : l.getD k (0, []) = l[k] := by simp [List.getD_eq_getElem?_getD, hk]
  rw [e] at h4
  have h5 := h4.1
  unfold factB at h5
  simp only [Bool.and_eq_true, decide_eq_true_eq] at h5
  refine ⟨h5.2, ?_⟩
  have h6 := h5.1.1.2
  have h7 := h5.1.2
  unfold schB at h2
  rw [Bool.and_eq_true] at h2
  simp only [inB, Bool.and_eq_true, decide_eq_true_eq] at h6
  have h8 : (l[k]).1.toNat < s.length := by omega
  have h9 : s.getD (l[k]).1.toNat 0 ∈ s := by
    rw [List.getD_eq_getElem?_getD, List.getElem?_eq_getElem h8]
    exact List.getElem_mem _
  have h10 := allB_mem h2.1 h9
  omega
/-- A query that is valid, in these words. -/
structure QOk (hs : List Int) (l : FL) : Prop where
  few : 1 ≤ l.length ∧ l.length ≤ 4
  head : hs.length ≤ 3
  short : ∀ a ∈ l, a.2.length ≤ 3
  term : ∀ a ∈ l, allB 0 17 a.2 = true
  var : ∀ h ∈ hs, inB h 10 17 = true ∧ ∃ a ∈ l, h ∈ a.2
theorem QOk.of {s hs : List Int} {l : FL} (h : queryB s hs l = true) : QOk hs l := by
  unfold queryB at h
  simp only [Bool.and_eq_true, decide_eq_true_eq] at h
  obtain ⟨⟨⟨⟨h1, h2⟩, h3⟩, h4⟩, h5⟩ := h
  have h4 : 1 ≤ (l.length : Int) ∧ (l.length : Int) ≤ 4 := by simpa [inB] using h4
  have hA : ∀ a ∈ l, atom.factB s a.1 a.2 = true := by
    intro a ha
    unfold atomsB at h1
    rw [List.all_eq_true] at h1
    exact h1 a ha
  unfold schB at h3
  rw [Bool.and_eq_true] at h3
  refine ⟨by omega, h5, fun a ha => ?_, fun a ha => ?_, fun x hx => ?_⟩
  · have := hA a ha
    unfold atom.factB at this
    simp only [Bool.and_eq_true, decide_eq_true_eq] at this
    have h6 := this.1.1.2
    have h7 := this.1.2
    simp only [inB, Bool.and_eq_true, decide_eq_true_eq] at h6
    have h8 : a.1.toNat < s.length := by omega
    have h9 : s.getD a.1.toNat 0 ∈ s := by
      rw [List.getD_eq_getElem?_getD, List.getElem?_eq_getElem h8]
      exact List.getElem_mem _
    have h10 := allB_mem h3.1 h9
    omega
  · have := hA a ha
    unfold atom.factB at this
    simp only [Bool.and_eq_true] at this
    exact this.2
  · unfold inAll at h2
    rw [List.all_eq_true] at h2
    have := h2 x hx
    rw [decide_eq_true_eq, wl_mem] at this
    unfold terms at this
    rw [List.mem_flatMap] at this
    exact ⟨this.2, this.1⟩
theorem enum_gd (fs : FL) (hf : ∀ f ∈ fs, allB 0 9 f.2 = true) : ∀ (ats : FL) (p q : PL), Gd p → q ∈ enum fs ats p → Gd q
  | [], p, q, hp, h => by
    have : q = p := by simpa [enum] using h
    rw [this]; exact hp
  | a :: ats, p, q, hp, h => by
    unfold enum at h
    rw [List.mem_flatMap] at h
    obtain ⟨r, hr, hq⟩ := h
    unfold extA at hr
    rw [List.mem_filterMap] at hr
    obtain ⟨f, hfm, hr⟩ := hr
    exact enum_gd fs hf ats r q (mtF_gd hr hp (hf f hfm)) hq
/-- What holds of each binding of a valid query over valid facts. -/
theorem bnds_ok {hs : List Int} {ats fs : FL} (hq : QOk hs ats) (hf : ∀ f ∈ fs, allB 0 9 f.2 = true) {p : PL} (hp : p ∈ bnds fs ats) : Gd p ∧ ∀ h ∈ hs, inB h 10 17 = true ∧ h ∈ p.1 := by
  rw [bnds_enum] at hp
  refine ⟨enum_gd fs hf ats _ p gd_nil hp, fun h hh => ?_⟩
  obtain ⟨h1, a, ha, h2⟩ := hq.var h hh
  exact ⟨h1, (enum_pre fs ats _ p hp).2 a ha h h2 h1⟩
theorem pval_rng {p : PL} (hg : Gd p) {t : Int} (ht : t ∈ p.1) : 0 ≤ pval p t ∧ pval p t ≤ 9 := by
  have h1 := List.idxOf_lt_length_iff.2 ht
  unfold pval
  have h2 : p.1.idxOf t < p.2.length := by rw [← hg.1]; exact h1
  refine allB_mem hg.2.2.2 ?_
  rw [List.getD_eq_getElem?_getD, List.getElem?_eq_getElem h2]
  exact List.getElem_mem _
theorem headT_ok {hs : List Int} {p : PL} (hg : Gd p) (hv : ∀ h ∈ hs, inB h 10 17 = true ∧ h ∈ p.1) : (headT hs p).length = hs.length ∧ allB 0 9 (headT hs p) = true := by
  refine ⟨by simp [headT], allB_of fun x hx => ?_⟩
  unfold headT at hx
  rw [List.mem_map] at hx
  obtain ⟨h, hh, rfl⟩ := hx
  rw [bval_mem hg.1 (hv h hh).1 (hv h hh).2]
  exact pval_rng hg (hv h hh).2

/-! Few lists of few digits. -/
theorem nodup_nat : ∀ (n : Nat) (l : List Nat), l.Nodup → (∀ x ∈ l, x < n) → l.length ≤ n
  | 0, l, _, h => by
    cases l with
    | nil => simp
    | cons x r => exact absurd (h x (by simp)) (by omega)
  | n + 1, l, hd, h => by
    have ih := nodup_nat n (l.filter fun x => x != n) (hd.filter _) fun x hx => by
      have h1 := List.mem_filter.1 hx
      have h2 := h x h1.1
      have h3 : x ≠ n := by simpa using h1.2
      omega
    have hc : l.countP (fun x => x == n) ≤ 1 := by
      have := List.nodup_iff_count.1 hd n
      exact this
    have hs : l.length = (l.filter fun x => x != n).length + l.countP (fun x => x == n) := by
      have := List.length_eq_countP_add_countP (fun x : Nat => x != n) (l := l)
      rw [List.countP_eq_length_filter] at this
      have e : l.countP (fun a => decide ¬(a != n) = true) = l.countP (fun x => x == n) := by
        refine List.countP_congr fun x _ => ?_
        simp
      rw [e] at this
      omega
    omega
def code3 (t : List Int) : Nat := (t.getD 0 0).toNat * 100 + (t.getD 1 0).toNat * 10 + (t.getD 2 0).toNat
theorem dig_at {t : List Int} (h : allB 0 9 t = true) (k : Nat) : 0 ≤ t.getD k 0 ∧ t.getD k 0 ≤ 9 := by
  by_cases hk : k < t.length
  · refine allB_mem h ?_
    rw [List.getD_eq_getElem?_getD, List.getElem?_eq_getElem hk]
    exact List.getElem_mem _
  · rw [List.getD_eq_getElem?_getD, List.getElem?_eq_none (by omega)]
    simp
theorem code3_inj {n : Nat} (hn : n ≤ 3) {t u : List Int} (ht : t.length = n ∧ allB 0 9 t = true) (hu : u.length = n ∧ allB 0 9 u = true) (h : code3 t = code3 u) : t = u := by
  have a0 := dig_at ht.2 0; have a1 := dig_at ht.2 1; have a2 := dig_at ht.2 2
  have b0 := dig_at hu.2 0; have b1 := dig_at hu.2 1; have b2 := dig_at hu.2 2
  unfold code3 at h
  have e0 : t.getD 0 0 = u.getD 0 0 := by omega
  have e1 : t.getD 1 0 = u.getD 1 0 := by omega
  have e2 : t.getD 2 0 = u.getD 2 0 := by omega
  refine List.ext_getElem (by omega) fun k h1 h2 => ?_
  have g1 : t[k] = t.getD k 0 := by simp [List.getD_eq_getElem?_getD, h1]
  have g2 : u[k] = u.getD k 0 := by simp [List.getD_eq_getElem?_getD, h2]
  rw [g1, g2]
  obtain rfl | rfl | rfl : k = 0 ∨ k = 1 ∨ k = 2 := by omega
  · exact e0
  · exact e1
  · exact e2
theorem tup_few {n : Nat} (hn : n ≤ 3) (l : TL) (hd : l.Nodup) (hl : ∀ t ∈ l, t.length = n ∧ allB 0 9 t = true) : l.length ≤ 1000 := by
  have h1 : (l.map code3).Nodup := by
    refine List.pairwise_map.2 (List.Pairwise.imp_of_mem ?_ hd)
    intro a b ha hb hab e
    exact hab (code3_inj hn (hl a ha) (hl b hb) e)
  have h2 := nodup_nat 1000 (l.map code3) h1 fun x hx => by
    rw [List.mem_map] at hx
    obtain ⟨t, ht, rfl⟩ := hx
    have a0 := dig_at (hl t ht).2 0; have a1 := dig_at (hl t ht).2 1; have a2 := dig_at (hl t ht).2 2
    unfold code3
    omega
  simpa using h2
theorem sumT_le3 : ∀ (l : TL), (∀ t ∈ l, t.length ≤ 3) → sumT l ≤ 3 * l.length
  | [], _ => by simp [sumT]
  | t :: l, h => by
    have h1 := sumT_le3 l fun u hu => h u (List.mem_cons_of_mem _ hu)
    have h2 := h t (List.mem_cons_self)
    have e : sumT (t :: l) = t.length + sumT l := by simp [sumT]
    rw [e, List.length_cons]
    omega
/-- The heads of good bindings: few and small. -/
theorem tupA_small {hs : List Int} (hh : hs.length ≤ 3) {ps : List PL} (hp : ∀ p ∈ ps, Gd p ∧ ∀ h ∈ hs, inB h 10 17 = true ∧ h ∈ p.1) : (tupA hs ps).length ≤ 1000 ∧ szT (tupA hs ps) ≤ 4000 ∧ ∀ t ∈ tupA hs ps, t.length = hs.length ∧ allB 0 9 t = true := by
  have h := tupA_ok hs ps
  have hl : ∀ t ∈ tupA hs ps, t.length = hs.length ∧ allB 0 9 t = true := fun t ht => by
    obtain ⟨p, hpm, rfl⟩ := (h.2 t).1 ht
    exact headT_ok (hp p hpm).1 (hp p hpm).2
  have h1 := tup_few hh _ h.1.nodup hl
  have h2 := sumT_le3 (tupA hs ps) fun t ht => by have := (hl t ht).1; omega
  exact ⟨h1, by unfold szT; omega, hl⟩
end Go.Proofs.Ytimlpdcambmcjaa

namespace Go.Proofs.Ytimlpdcambmcjaa
open Go.ChangeShapes Go.WideShapes Go.ChangeAt Go.RowKit Go.Sort
set_option linter.unusedVariables false
set_option linter.unusedSimpArgs false

/-- The choices as they lie in memory. -/
def stL (st : CL) : List (Int × Int) := st.reverse.map fun x => ((x.1 : Int), (x.2.1.length : Int))
theorem stL_len (st : CL) : (stL st).length = st.length := by simp [stL]
theorem stL_cons (n : Nat) (p : PL) (r : CL) : stL ((n, p) :: r) = stL r ++ [((n : Int), (p.1.length : Int))] := by simp [stL]
theorem stL_top (n : Nat) (p : PL) (r : CL) : (stL ((n, p) :: r)).getD r.length (0, 0) = ((n : Int), (p.1.length : Int)) := by
  rw [stL_cons, List.getD_eq_getElem?_getD, List.getElem?_append_right (by rw [stL_len]; exact Nat.le_refl _), stL_len]
  simp
theorem stL_pop (n : Nat) (p : PL) (r : CL) : (stL ((n, p) :: r)).take r.length = stL r := by
  rw [stL_cons, List.take_append_of_le_length (by rw [stL_len]; exact Nat.le_refl _), List.take_of_length_le (by rw [stL_len]; exact Nat.le_refl _)]
theorem stL_set (n : Nat) (p : PL) (r : CL) : (stL ((n, p) :: r)).set r.length ((n : Int) + 1, (p.1.length : Int)) = stL ((n + 1, p) :: r) := by
  rw [stL_cons, stL_cons, List.set_append_right _ _ (by rw [stL_len]; exact Nat.le_refl _), stL_len]
  simp
/-- The choices fit the matching q: each grows out of the one before. -/
def WfC (fs ats : FL) : CL → PL → Prop
  | [], _ => True
  | (n, p) :: r, q => Pre p q ∧ Gd p ∧ n ≤ fs.length ∧ r.length ≤ ats.length ∧ WfC fs ats r p
theorem Pre.cut {p q : PL} (h : Pre p q) (hp : p.1.length = p.2.length) : cutP p.1.length q = p := by
  obtain ⟨u, v, rfl, _⟩ := h
  unfold cutP
  have e1 : (p.1 ++ u).take p.1.length = p.1 := by simp
  have e2 : (p.2 ++ v).take p.1.length = p.2 := by rw [hp]; simp
  simp only [e1, e2]
theorem Pre.len {p q : PL} (h : Pre p q) : p.1.length ≤ q.1.length := by
  obtain ⟨u, v, rfl, _⟩ := h
  simp
theorem gd_wf {q : PL} (h : Gd q) : ∀ x ∈ q.1, wf x := fun x hx => by
  have := allB_mem h.2.2.1 hx
  exact WalkArith.wf_i64 ⟨by omega, by omega⟩
theorem MS.lo {w : World} {base base' g : Nat} {p0 q : PL} {ads : List Int} (h : MS w base g p0 q ads) (hb : base' ≤ base) : MS w base' g p0 q ads := by
  obtain ⟨h1, mb, n, v, D, hB, hM, hR, hL, hn, hmb, hgb⟩ := h
  exact ⟨h1, mb, n, v, D, hB, hM, ownsRow_low hR hb, hL, hn, by omega, by omega⟩
theorem MS.kept {w w' : World} {base g mb' : Nat} {p0 q : PL} {ads : List Int} (h : MS w base g p0 q ads) (hg : w.grownBy w' (some mb')) (hb : mb' < base) : MS w' base g p0 q ads := by
  obtain ⟨h1, mb, n, v, D, hB, hM, hR, hL, hn, hmb, hgb⟩ := h
  refine ⟨h1, mb, n, v, D, (hg.block g hB.lt (fun e => by injection e; omega)).trans hB, World.ownsMap.kept hM hg (fun e => by injection e; omega), ?_, hL, hn, hmb, hgb⟩
  exact World.ownsRow.kept hR hg (by
    cases e : v.ownBlock with
    | none => exact .inl rfl
    | some k =>
      refine .inr fun e2 => ?_
      have := (World.ownsRow.lt hR k e).1
      injection e2 with e2
      omega)
/-- What may have turned since w: the block mb. -/
theorem fr_trn {w a b : World} {mb : Nat} (h : w.grownBy a (some mb)) (d : Trn w.heap.size a b) : w.grownBy b (some mb) :=
  ⟨d.os.trans h.os, d.tape.trans h.tape, d.output.trans h.output, Nat.le_trans h.size d.size, fun i hi hn => (d.block i (Nat.lt_of_lt_of_le hi h.size) (.inl hi)).trans (h.block i hi hn)⟩
theorem fr_grown {w a b : World} {mb : Nat} {row : Option Nat} (h : w.grownBy a (some mb)) (d : a.grownBy b row) (hr : ∀ j, row = some j → j = mb ∨ w.heap.size ≤ j) : w.grownBy b (some mb) :=
  ⟨d.os.trans h.os, d.tape.trans h.tape, d.output.trans h.output, Nat.le_trans h.size d.size, fun i hi hn => (d.block i (Nat.lt_of_lt_of_le hi h.size) (fun e => by
    rcases hr i e.symm with h1 | h1
    · exact hn (by rw [h1])
    · omega)).trans (h.block i hi hn)⟩
theorem fr_below {w a b : World} {mb : Nat} (h : w.grownBy a (some mb)) (d : Below a.heap.size a b) : w.grownBy b (some mb) :=
  ⟨d.os.trans h.os, d.tape.trans h.tape, d.output.trans h.output, Nat.le_trans h.size d.size, fun i hi hn => (d.block i (Nat.lt_of_lt_of_le hi h.size)).trans (h.block i hi hn)⟩
theorem fr_set {w a : World} {mb : Nat} {p : Addr} {v : Value} (h : w.grownBy a (some mb)) (hp : w.heap.size ≤ p.block) : w.grownBy (a.setCell p v) (some mb) :=
  ⟨h.os, h.tape, h.output, by rw [set_size]; exact h.size, fun i hi hn => (Below.heap_setCell _ _ _ _ (by omega)).trans (h.block i hi hn)⟩
theorem Ints.fr {w a : World} {mb B0 : Nat} {A : Option Addr} {xs : List Int} (h : Ints w 0 B0 A xs) (d : w.grownBy a (some mb)) (h1 : B0 ≤ mb) (h2 : B0 ≤ w.heap.size) : Ints a 0 B0 A xs :=
  h.keep fun b _ hb => d.block b (by omega) (fun e => by injection e; omega)
theorem Facts.fr {w a : World} {mb B0 : Nat} {A : Option Addr} {fs : FL} (h : Facts w 0 B0 A fs) (d : w.grownBy a (some mb)) (h1 : B0 ≤ mb) (h2 : B0 ≤ w.heap.size) : Facts a 0 B0 A fs :=
  h.keep fun b _ hb => d.block b (by omega) (fun e => by injection e; omega)
theorem mgo_part {p q : PL} {ts vs : List Int} {k : Nat} (h : mgo p (ts.take k) (vs.take k) = some q) (hp : Gd p) (hv : allB 0 9 vs = true) : Pre p q ∧ Gd q :=
  ⟨(mgo_pre _ _ _ _ h).1, mgo_gd _ _ _ _ h hp (allB_of fun x hx => allB_mem hv (List.mem_of_mem_take hx))⟩
theorem matG_mtF {p : PL} (hp : p.1.length = p.2.length) (r : Int) (ts : List Int) (r' : Int) (vs : List Int) : matG p r ts r' vs = mtF p (r, ts) (r', vs) := by
  unfold matG mtF matB
  by_cases h : r = r' ∧ ts.length = vs.length
  · rw [if_pos h, if_pos ⟨h.1, h.2, hp⟩]
  · rw [if_neg h, if_neg fun k => h ⟨k.1, k.2.1⟩]
theorem remC_mem {fs ats : FL} {all done : List PL} {p : PL} {r : CL} {n : Nat} (h : done ++ remC fs ats ((n, p) :: r) = all) (hr : r.length = ats.length) : p ∈ all ∧ done ++ [p] ++ remC fs ats r = all := by
  rw [(remC_leaf fs ats n p r hr).1] at h
  rw [← h]
  exact ⟨by simp, by simp⟩
theorem small_gd {q : PL} (h : Gd q) : q.1.length ≤ 8 := by
  have h1 := nodup_nat 18 (q.1.map Int.toNat) (by
    refine List.pairwise_map.2 (List.Pairwise.imp_of_mem ?_ h.2.1)
    intro a b ha hb hab e
    have h2 := allB_mem h.2.2.1 ha
    have h3 := allB_mem h.2.2.1 hb
    exact hab (by omega)) (fun x hx => by
    rw [List.mem_map] at hx
    obtain ⟨a, ha, rfl⟩ := hx
    have h2 := allB_mem h.2.2.1 ha
    omega)
  have h2 := nodup_nat 8 (q.1.map fun x => x.toNat - 10) (by
    refine List.pairwise_map.2 (List.Pairwise.imp_of_mem ?_ h.2.1)
    intro a b ha hb hab e
    have h2 := allB_mem h.2.2.1 ha
    have h3 := allB_mem h.2.2.1 hb
    exact hab (by omega)) (fun x hx => by
    rw [List.mem_map] at hx
    obtain ⟨a, ha, rfl⟩ := hx
    have h2 := allB_mem h.2.2.1 ha
    omega)
  simpa using h2
theorem step_callP3 {P : Program} {ops : Array Oper} {o : Oper} {a : Act} {w : World} {K : Act → World → Prop} {Q : Exit → Act → World → Prop} {E : Prop}
    (hgd : o.guard = none) (g : FuncId) (x y z : Operand) (t t' t'' : TypeId) (ho : o.op = .call { callee := .value (.func g), args := #[x, y, z], argTypes := #[t, t', t''] })
    (vx vy vz : Value) (hx : a.eval x = vx) (hy : a.eval y = vy) (hz : a.eval z = vz) (hcf : (callFunc g #[vx, vy, vz]).run P w = .ok (.enter g #[vx, vy, vz]) w) {R : Value → World → Prop} (hc : Calls P g #[vx, vy, vz] w fun e w' => ∃ v, e = .returned v ∧ R v w') (hK : ∀ v w', R v w' → K (a.put o.dst v) w') :
    if Region.wanted o (yielded ops a.tmps) = true then Oper.wp P o a w K Q else E := by
  have hw : Region.wanted o (yielded ops a.tmps) = true := by simp [Region.wanted, hgd]
  rw [if_pos hw]
  unfold Oper.wp
  have hf : a.eval (.func g) = Value.func (.func g) #[] #[] := rfl
  have e : (execOp a.eval o).run P w = .ok (.enter g #[vx, vy, vz]) w := by
    rw [← hx, ← hy, ← hz] at hcf ⊢
    simpa [go_sem, execOp, ho, resolve, invoke] using hcf
  rw [e, Oper.upon_enter]
  refine hc.mono ?_
  rintro _ w' ⟨v, rfl, d⟩
  exact hK v w' d
theorem ZC.new (w : World) (lo : Nat) (h : lo ≤ w.heap.size) : ZC (w.alloc (.cells #[.int .i64 0, .int .i64 0] 109)) lo w.heap.size 1 [(0, 0)] :=
  ⟨#[.int .i64 0, .int .i64 0], h, heap_alloc_new w _, by simp, by unfold maxLen; omega, rfl, rfl⟩
theorem ZC.trn {base lo g cap : Nat} {w w' : World} {l : List (Int × Int)} (h : ZC w lo g cap l) (d : Trn base w w') : ZC w' lo g cap l := by
  obtain ⟨cs, fr, e⟩ := h.typed
  exact h.keep (d.block g h.lt (.inr ⟨cs, _, fr, e, by decide, by decide⟩))
theorem MS.setC {w : World} {base g k i : Nat} {p0 q : PL} {ads : List Int} {u : Value} {cs : Array Value} {fr : Nat × Nat} (h : MS w base g p0 q ads) (hk : w.heap[k]? = some (Obj.cells cs 109 fr)) : MS (w.setCell ⟨k, i, none⟩ u) base g p0 q ads := by
  obtain ⟨h1, mb, n, v, D, hB, hM, hR, hL, hn, hmb, hgb⟩ := h
  have e1 : g ≠ k := fun e => by
    unfold Box at hB
    rw [e, hk] at hB
    injection hB with hB
    injection hB with _ h2
    exact absurd h2 (by decide)
  have e2 : mb ≠ k := fun e => by
    obtain ⟨es, ck, h2⟩ := ownsMap_block hM
    rw [e, hk] at h2
    cases h2
  refine ⟨h1, mb, n, v, D, hB.set_other e1, ownsMap_trn hM (fun es ck e => Below.heap_setCell _ _ _ _ e2), ?_, hL, hn, hmb, hgb⟩
  refine ⟨hR.1, ?_⟩
  rcases hR.2 with hn | ⟨j, cap, cur, hv, hbk, hj, r⟩
  · exact .inl hn
  · refine .inr ⟨j, cap, cur, hv, hbk, ?_, r⟩
    rw [Below.heap_setCell _ _ _ _ (fun e => by
      have e' : j = k := e
      rw [e', hk] at hj
      injection hj with hj
      injection hj with _ h2
      exact absurd h2 (by decide))]
    exact hj
/-- A row of choices has grown. -/
theorem MS.grownC {w w' : World} {base g k : Nat} {p0 q : PL} {ads : List Int} (h : MS w base g p0 q ads) (hg : w.grownBy w' (some k)) (ht : ∃ cs fr, w.heap[k]? = some (Obj.cells cs 109 fr)) : MS w' base g p0 q ads := by
  obtain ⟨cs, fr, hk⟩ := ht
  obtain ⟨h1, mb, n, v, D, hB, hM, hR, hL, hn, hmb, hgb⟩ := h
  have e1 : g ≠ k := fun e => by
    unfold Box at hB
    rw [e, hk] at hB
    injection hB with hB
    injection hB with _ h2
    exact absurd h2 (by decide)
  have e2 : mb ≠ k := fun e => by
    obtain ⟨es, ck, h2⟩ := ownsMap_block hM
    rw [e, hk] at h2
    cases h2
  refine ⟨h1, mb, n, v, D, (hg.block g hB.lt (fun e => e1 (by injection e))).trans hB, World.ownsMap.kept hM hg (fun e => e2 (by injection e)), ?_, hL, hn, hmb, hgb⟩
  refine World.ownsRow.kept hR hg ?_
  rcases hR.2 with ⟨hv, _⟩ | ⟨j, cap, cur, hv, hbk, hj, r⟩
  · exact .inl (by rw [hv]; rfl)
  · refine .inr fun e => ?_
    rw [hv] at e
    have e' : j = k := own_some e
    rw [e', hk] at hj
    injection hj with hj
    injection hj with _ h2
    exact absurd h2 (by decide)

/-- A row of choices of the call's own, or none. -/
def ZN (w : World) (base : Nat) (A : Option Addr) (cap : Nat) (l : List (Int × Int)) : Prop := (A = none ∧ cap = 0 ∧ l = []) ∨ ∃ g, A = some ⟨g, 0, none⟩ ∧ ZC w base g cap l
theorem ZN.own {w : World} {base cap : Nat} {A : Option Addr} {l : List (Int × Int)} (h : ZN w base A cap l) : w.ownsRow base 109 2 (.slice A l.length cap) l.length (flatC l) := by
  rcases h with ⟨rfl, rfl, rfl⟩ | ⟨g, rfl, h⟩
  · exact World.ownsRow_nil w base 109 2
  · exact h.own
theorem ZN.trn {base lo cap : Nat} {A : Option Addr} {w w' : World} {l : List (Int × Int)} (h : ZN w lo A cap l) (d : Trn base w w') : ZN w' lo A cap l := h.imp id fun ⟨g, e, h⟩ => ⟨g, e, h.trn d⟩
theorem ZN.take {w : World} {base cap : Nat} {A : Option Addr} {l : List (Int × Int)} (h : ZN w base A cap l) (n : Nat) : ZN w base A cap (l.take n) := h.imp (fun ⟨a, b, c⟩ => ⟨a, b, by rw [c]; simp⟩) fun ⟨g, e, h⟩ => ⟨g, e, h.take n⟩
theorem ZN.keep {w w' : World} {base cap : Nat} {A : Option Addr} {l : List (Int × Int)} (h : ZN w base A cap l) (e : ∀ b, base ≤ b → b < w.heap.size → w'.heap[b]? = w.heap[b]?) : ZN w' base A cap l :=
  h.imp id fun ⟨g, e', h⟩ => ⟨g, e', h.keep (e g (by obtain ⟨_, h1, _⟩ := h; exact h1) h.lt)⟩
theorem MS.keepB {w w' : World} {base g : Nat} {p0 q : PL} {ads : List Int} (h : MS w base g p0 q ads) (hk : ∀ b, base ≤ b → b < w.heap.size → w'.heap[b]? = w.heap[b]?) : MS w' base g p0 q ads := by
  obtain ⟨h1, mb, n, v, D, hB, hM, hR, hL, hn, hmb, hgb⟩ := h
  refine ⟨h1, mb, n, v, D, (hk g hgb hB.lt).trans hB, ownsMap_trn hM (fun es ck e => hk mb hmb (Array.getElem?_eq_some_iff.1 e).1), ⟨hR.1, ?_⟩, hL, hn, hmb, hgb⟩
  rcases hR.2 with hn | ⟨j, cap, cur, hv, hbk, hj, r⟩
  · exact .inl hn
  · exact .inr ⟨j, cap, cur, hv, hbk, (hk j hbk (Array.getElem?_eq_some_iff.1 hj).1).trans hj, r⟩
theorem ZN.ms {w w' : World} {base base' g cap : Nat} {A : Option Addr} {l : List (Int × Int)} {n : Nat} {p0 q : PL} {ads : List Int} (h : ZN w base A cap l) (hm : MS w base' g p0 q ads) (hg : w.grownBy w' ((Value.slice A n cap).ownBlock)) : MS w' base' g p0 q ads := by
  rcases h with ⟨rfl, _, _⟩ | ⟨k, rfl, h⟩
  · exact hm.keepB fun b _ hb => hg.block b hb (by simp [Value.ownBlock])
  · exact hm.grownC hg h.typed
theorem ZN.below {w w' : World} {base cap : Nat} {A : Option Addr} {l : List (Int × Int)} {n : Nat} (h : ZN w base A cap l) (hb : base ≤ w.heap.size) (hg : w.grownBy w' ((Value.slice A n cap).ownBlock)) : Below base w w' := by
  refine ⟨hg.os, hg.tape, hg.output, hg.size, fun b hb2 => hg.block b (by omega) fun e => ?_⟩
  rcases h with ⟨rfl, _, _⟩ | ⟨k, rfl, h⟩
  · simp [Value.ownBlock] at e
  · obtain ⟨_, h1, _⟩ := h
    simp [Value.ownBlock] at e
    omega
/-- append(v, y) of one choice, to a row or to none. -/
theorem wpList_pushN {P : Program} {W : World} {ops : Array Oper} {rest : List Oper} {o : Oper} {a : Act} {Q : Exit → Act → World → Prop} (hgd : o.guard = none) (s x : Operand) (t : TypeId)
    (ho : o.op = .call { callee := .builtin .append, args := #[s, x], argTypes := #[t, t] })
    (i : TypeInfo) (ht : P.underlying t = some (.slice 109)) (hi : P.info? 109 = some i) (hz : i.zero = some (.agg #[.int .i64 0, .int .i64 0])) (hz1 : i.size = 2) (hz2 : i.bytes = 16)
    {base cap : Nat} {A : Option Addr} {l : List (Int × Int)} {y1 y2 : Int} (hs : a.eval s = .slice A l.length cap) (hx : a.eval x = .slice (some ⟨W.heap.size, 0, none⟩) 1 1)
    (hown : ZN W base A cap l) (hbase : base ≤ W.heap.size) (hn : l.length + 1 ≤ 1048580)
    (h : ∀ g' cap' w', ZC w' base g' cap' (l ++ [(y1, y2)]) → (∀ b, b < W.heap.size → A ≠ some ⟨b, 0, none⟩ → w'.heap[b]? = W.heap[b]?) → W.grownBy w' ((Value.slice A l.length cap).ownBlock) → wpList P ops Q rest (a.put o.dst (.slice (some ⟨g', 0, none⟩) (l.length + 1) cap')) w') :
    wpList P ops Q (o :: rest) a (W.alloc (.cells #[.int .i64 y1, .int .i64 y2] 109)) := by
  refine wpList_append_own_at (P := P) _ hgd s x t ho base 109 i _ 2 16 ht hi hz hz1 hz2 rfl (by omega) _ l.length _ hs (hown.own.alloc _) ⟨W.heap.size, 0, none⟩ 1 1 [.int .i64 y1, .int .i64 y2] hx rfl
    (World.news_of_block (cs := #[.int .i64 y1, .int .i64 y2]) (t := 109) (fr := (0, 0)) (heap_alloc_new W _)) (by simp [Value.oneCell'])
    (by unfold maxLen; omega) (by omega) (by simp; omega) ?_
  intro v' w' hown' hg _ hloc
  have hg2 := (World.grownBy_alloc W (.cells #[.int .i64 y1, .int .i64 y2] 109) ((Value.slice A l.length cap).ownBlock)).trans hg
  rcases hown'.2 with ⟨_, h0⟩ | ⟨g', cap', cur, hv, _⟩
  · omega
  · subst hv
    refine h g' cap' w' (ZC.of_own (by rw [flatC_snoc, List.length_append]; exact hown')) (fun b hb hA => hg2.block b hb fun e => hA ?_) hg2
    rcases hown with ⟨rfl, _, _⟩ | ⟨g, rfl, _⟩
    · simp [Value.ownBlock] at e
    · simp [Value.ownBlock] at e
      rw [e]
end Go.Proofs.Ytimlpdcambmcjaa

namespace Go.Proofs.Ytimlpdcambmcjaa
open Go.ChangeShapes Go.WideShapes Go.ChangeAt Go.RowKit Go.Sort
set_option linter.unusedVariables false
set_option linter.unusedSimpArgs false

/-- The choices as they lie in memory: k0 variables were known before. -/
def stK (k0 : Nat) (st : CL) : List (Int × Int) := st.reverse.map fun x => ((x.1 : Int), ((x.2.1.length - k0 : Nat) : Int))
theorem stK_len (k0 : Nat) (st : CL) : (stK k0 st).length = st.length := by simp [stK]
theorem stK_cons (k0 n : Nat) (p : PL) (r : CL) : stK k0 ((n, p) :: r) = stK k0 r ++ [((n : Int), ((p.1.length - k0 : Nat) : Int))] := by simp [stK]
theorem stK_top (k0 n : Nat) (p : PL) (r : CL) : (stK k0 ((n, p) :: r)).getD r.length (0, 0) = ((n : Int), ((p.1.length - k0 : Nat) : Int)) := by
  rw [stK_cons, List.getD_eq_getElem?_getD, List.getElem?_append_right (by rw [stK_len]; exact Nat.le_refl _), stK_len]
  simp
theorem stK_pop (k0 n : Nat) (p : PL) (r : CL) : (stK k0 ((n, p) :: r)).take r.length = stK k0 r := by
  rw [stK_cons, List.take_append_of_le_length (by rw [stK_len]; exact Nat.le_refl _), List.take_of_length_le (by rw [stK_len]; exact Nat.le_refl _)]
theorem stK_set (k0 n : Nat) (p : PL) (r : CL) : (stK k0 ((n, p) :: r)).set r.length ((n : Int) + 1, ((p.1.length - k0 : Nat) : Int)) = stK k0 ((n + 1, p) :: r) := by
  rw [stK_cons, stK_cons, List.set_append_right _ _ (by rw [stK_len]; exact Nat.le_refl _), stK_len]
  simp
/-- The variables that are not known from the start. -/
def adq (p0 q : PL) : List Int := q.1.drop p0.1.length
theorem adq_len (p0 q : PL) : (adq p0 q).length = q.1.length - p0.1.length := by simp [adq]
theorem adq_of {p0 q : PL} {ads : List Int} (h : AD p0 q ads) : ads = adq p0 q := by
  unfold adq
  rw [h.1]
  simp
theorem adq_self (p0 : PL) : adq p0 p0 = [] := by simp [adq]
theorem adq_take {p0 p q : PL} (h : Pre p0 p) (k : Pre p q) : (adq p0 q).take (p.1.length - p0.1.length) = adq p0 p := by
  have hl := h.len
  obtain ⟨u, v, rfl, _⟩ := k
  unfold adq
  show ((p.1 ++ u).drop p0.1.length).take _ = _
  rw [List.drop_append_of_le_length hl, List.take_append_of_le_length (by rw [List.length_drop]; exact Nat.le_refl _), List.take_of_length_le (by rw [List.length_drop]; exact Nat.le_refl _)]
theorem remC_from (fs ats : FL) (p0 : PL) : remC fs ats [(0, p0)] = enum fs ats p0 := by
  show enumN fs (ats.drop 0) 0 p0 ++ [] = _
  rw [List.append_nil, enumN_zero]
  rfl
end Go.Proofs.Ytimlpdcambmcjaa
