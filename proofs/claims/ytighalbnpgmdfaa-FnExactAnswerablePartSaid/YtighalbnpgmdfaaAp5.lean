/- What the two functions IsOrder answer. Conditions: none beyond each theorem's own. -/
import Derived.Test.YtighalbnpgmdfaaAp4

namespace Go.Proofs.Ytighalbnpgmdfaa
open Go.ChangeShapes Go.WideShapes Go.ChangeAt Go.RowKit Go.Sort
set_option linter.unusedVariables false
set_option linter.unusedSimpArgs false

def fineB (s : List Int) (ms : ML) (hs : List Int) (l : FL) : Bool := aremB s ms && queryB s hs l
theorem few_of {s hs : List Int} {l : FL} (h : queryB s hs l = true) : FewA l ∧ 1 ≤ l.length := by
  unfold queryB at h
  simp only [Bool.and_eq_true, decide_eq_true_eq] at h
  obtain ⟨⟨⟨⟨h1, h2⟩, h3⟩, h4⟩, h5⟩ := h
  have h4' : 1 ≤ (l.length : Int) ∧ (l.length : Int) ≤ 4 := by simpa [inB] using h4
  refine ⟨⟨by omega, fun k hk => ?_⟩, by omega⟩
  unfold atomsB at h1
  rw [List.all_eq_true] at h1
  have h6 := h1 l[k] (List.getElem_mem _)
  have e : l.getD k noF = l[k] := by simp [List.getD_eq_getElem?_getD, hk]
  rw [e]
  unfold atom.factB at h6
  simp only [Bool.and_eq_true, decide_eq_true_eq, inB] at h6
  obtain ⟨⟨⟨h7, h8⟩, h9⟩, _⟩ := h6
  have h10 := schB_at h7 (k := l[k].1.toNat) (by omega)
  omega
theorem fine_of {s : List Int} {ms : ML} {hs : List Int} {l : FL} (h : fineB s ms hs l = true) : ms.length ≤ 5 ∧ FewA l ∧ 1 ≤ l.length := by
  unfold fineB at h
  rw [Bool.and_eq_true] at h
  obtain ⟨h1, h2⟩ := h
  unfold aremB at h1
  simp only [Bool.and_eq_true, decide_eq_true_eq] at h1
  exact ⟨h1.2, few_of h2⟩

set_option maxRecDepth 100000 in
set_option maxHeartbeats 1000000 in
theorem l6Fine_any (S : Option Addr) (cs : Nat) (s : List Int) (L : Option Addr) (cl : Nat) (ms : ML) (H A : Option Addr) (ch c : Nat) (hs : List Int) (l : FL) (hls : s.length ≤ 1048576) (hzm : szM ms ≤ 1048576) (hh : hs.length ≤ 1048576) (hz : szF l ≤ 1048576) (w : World) (h : RI w S s) (h1 : RM w L ms) (h2 : RI w H hs) (h3 : RF w A l) :
    Calls Try.prog 48 #[.slice S s.length cs, .slice L ms.length cl, .agg #[.slice H hs.length ch, .slice A l.length c]] w fun e w' => e = .returned (.bool (fineB s ms hs l)) ∧ Below w.heap.size w w' := by
  have XQ := Lib.hid (Box.new w #[.slice H hs.length ch, .slice A l.length c] 37)
  have B0 := Lib.hid (below_alloc w (.cells #[.slice H hs.length ch, .slice A l.length c] 37))
  have X1 := Lib.hid (spec_AreMethods S cs s L cl ms hls hzm _ (h.step B0.out) (h1.step B0.out))
  have X2 := Lib.hid fun (W : World) (hW : Below w.heap.size w W) => spec_IsQuery S H A cs ch c s hs l hls (by omega) hz W (h.step hW) (h2.step hW) (h3.step hW)
  have q0 := XQ.out.cell 0
  have q1 := XQ.out.cell 1
  simp only [List.getElem?_toArray, List.getElem?_cons_zero, List.getElem?_cons_succ] at q0 q1
  clear h h1 h2 h3
  by_cases ha : aremB s ms = true
  · have HA := Lib.hid ha
    have E := Lib.hid (show fineB s ms hs l = queryB s hs l by unfold fineB; rw [ha]; rfl)
    rw [E.out]
    generalize queryB s hs l = q at X2
    clear ha
    go_enter Try.func48, Try.ntmps48
    go_wp2_with fail
    refine X1.out.mono ?_
    rintro e u ⟨he, d⟩
    rw [HA.out] at he
    subst he
    have D := Lib.hid (step B0.out d)
    have XQ2 := XQ.out.step d
    have q0 := XQ2.cell 0
    have q1 := XQ2.cell 1
    simp only [List.getElem?_toArray, List.getElem?_cons_zero, List.getElem?_cons_succ] at q0 q1
    clear d XQ2
    go_wp2_with fail
    refine (X2.out _ D.out).mono ?_
    rintro e u2 ⟨rfl, d⟩
    have D2 := Lib.hid (step D.out d)
    clear d
    go_wp2
    go_ret
    exact ⟨rfl, D2.out⟩
  · have HA := Lib.hid (show aremB s ms = false by simpa using ha)
    have E := Lib.hid (show fineB s ms hs l = false by unfold fineB; rw [HA.out]; rfl)
    rw [E.out]
    clear ha
    go_enter Try.func48, Try.ntmps48
    go_wp2_with fail
    refine X1.out.mono ?_
    rintro e u ⟨he, d⟩
    rw [HA.out] at he
    subst he
    have D := Lib.hid (step B0.out d)
    clear d
    go_wp2
    go_ret
    exact ⟨rfl, D.out⟩

set_option maxRecDepth 100000 in
set_option maxHeartbeats 1000000 in
theorem fineI_any (S : Option Addr) (cs : Nat) (s : List Int) (L : Option Addr) (cl : Nat) (ms : ML) (H A : Option Addr) (ch c : Nat) (hs : List Int) (l : FL) (hls : s.length ≤ 1048576) (hzm : szM ms ≤ 1048576) (hh : hs.length ≤ 1048576) (hz : szF l ≤ 1048576) (w : World) (h : RI w S s) (h1 : RM w L ms) (h2 : RI w H hs) (h3 : RF w A l) :
    Calls Try.prog 56 #[.slice S s.length cs, .slice L ms.length cl, .agg #[.slice H hs.length ch, .slice A l.length c]] w fun e w' => e = .returned (.bool (fineB s ms hs l)) ∧ Below w.heap.size w w' := by
  have XQ := Lib.hid (Box.new w #[.slice H hs.length ch, .slice A l.length c] 37)
  have B0 := Lib.hid (below_alloc w (.cells #[.slice H hs.length ch, .slice A l.length c] 37))
  have X1 := Lib.hid (impl_AreMethods S cs s L cl ms hls hzm _ (h.step B0.out) (h1.step B0.out))
  have X2 := Lib.hid fun (W : World) (hW : Below w.heap.size w W) => impl_IsQuery S H A cs ch c s hs l hls (by omega) hz W (h.step hW) (h2.step hW) (h3.step hW)
  have q0 := XQ.out.cell 0
  have q1 := XQ.out.cell 1
  simp only [List.getElem?_toArray, List.getElem?_cons_zero, List.getElem?_cons_succ] at q0 q1
  clear h h1 h2 h3
  by_cases ha : aremB s ms = true
  · have HA := Lib.hid ha
    have E := Lib.hid (show fineB s ms hs l = queryB s hs l by unfold fineB; rw [ha]; rfl)
    rw [E.out]
    generalize queryB s hs l = q at X2
    clear ha
    go_enter Try.func56, Try.ntmps56
    go_wp2_with fail
    refine X1.out.mono ?_
    rintro e u ⟨he, d⟩
    rw [HA.out] at he
    subst he
    have D := Lib.hid (step B0.out d)
    have XQ2 := XQ.out.step d
    have q0 := XQ2.cell 0
    have q1 := XQ2.cell 1
    simp only [List.getElem?_toArray, List.getElem?_cons_zero, List.getElem?_cons_succ] at q0 q1
    clear d XQ2
    go_wp2_with fail
    refine (X2.out _ D.out).mono ?_
    rintro e u2 ⟨rfl, d⟩
    have D2 := Lib.hid (step D.out d)
    clear d
    go_wp2
    go_ret
    exact ⟨rfl, D2.out⟩
  · have HA := Lib.hid (show aremB s ms = false by simpa using ha)
    have E := Lib.hid (show fineB s ms hs l = false by unfold fineB; rw [HA.out]; rfl)
    rw [E.out]
    clear ha
    go_enter Try.func56, Try.ntmps56
    go_wp2_with fail
    refine X1.out.mono ?_
    rintro e u ⟨he, d⟩
    rw [HA.out] at he
    subst he
    have D := Lib.hid (step B0.out d)
    clear d
    go_wp2
    go_ret
    exact ⟨rfl, D.out⟩

set_option maxRecDepth 100000 in
set_option maxHeartbeats 1000000 in
theorem impl_IsOrder (S : Option Addr) (cs : Nat) (s : List Int) (L : Option Addr) (cl : Nat) (ms : ML) (H A : Option Addr) (ch c : Nat) (hs : List Int) (l : FL) (O : Option Addr) (co : Nat) (p : SL) (hls : s.length ≤ 1048576) (hzm : szM ms ≤ 1048576) (hh : hs.length ≤ 1048576) (hz : szF l ≤ 1048576) (hp : p.length ≤ 1048576) (hco : p.length ≤ co) (w : World) (h : RI w S s) (h1 : RM w L ms) (h2 : RI w H hs) (h3 : RF w A l) (h4 : RZ w O p) :
    Calls Try.prog 19 #[.slice S s.length cs, .slice L ms.length cl, .agg #[.slice H hs.length ch, .slice A l.length c], .slice O p.length co] w fun e w' => e = .returned (.bool (ordB s ms hs l p)) ∧ Below w.heap.size w w' := by
  have hp' : (p.length : Int) ≤ 1048576 := by omega
  have XQ := Lib.hid (Box.new w #[.slice H hs.length ch, .slice A l.length c] 37)
  have B0 := Lib.hid (below_alloc w (.cells #[.slice H hs.length ch, .slice A l.length c] 37))
  have X1 := Lib.hid (fineI_any S cs s L cl ms H A ch c hs l hls hzm hh hz _ (h.step B0.out) (h1.step B0.out) (h2.step B0.out) (h3.step B0.out))
  have q0 := XQ.out.cell 0
  have q1 := XQ.out.cell 1
  simp only [List.getElem?_toArray, List.getElem?_cons_zero, List.getElem?_cons_succ] at q0 q1
  have HM := Lib.hid h1
  have HF := Lib.hid h3
  have HZ := Lib.hid h4
  clear h h1 h2 h3 h4
  by_cases ha : fineB s ms hs l = true
  · have HA := Lib.hid ha
    obtain ⟨hm5, hfew, hl1⟩ := fine_of ha
    by_cases hn : p.length = l.length
    · have HN := Lib.hid hn
      have E := Lib.hid (show ordB s ms hs l p = ordN ms l p p.length by unfold ordB; rw [show (aremB s ms && queryB s hs l) = true from ha, decide_eq_true hn]; rfl)
      have hp4 : p.length ≤ 4 := by have := hfew.1; omega
      have d1 : ((p.length : Int) == (l.length : Int)) = true := by simp; omega
      have d2 : ((p.length : Int) != (l.length : Int)) = false := by simp; omega
      rw [E.out]
      clear ha hn
      go_enter Try.func19, Try.ntmps19
      go_wp2_with fail
      refine X1.out.mono ?_
      rintro e u ⟨he, d⟩
      rw [HA.out] at he
      subst he
      have D := Lib.hid (step B0.out d)
      have XQ2 := Lib.hid (XQ.out.step d)
      have q0 := XQ2.out.cell 0
      have q1 := XQ2.out.cell 1
      simp only [List.getElem?_toArray, List.getElem?_cons_zero, List.getElem?_cons_succ] at q0 q1
      have HFW := Lib.hid hfew
      clear d hfew
      go_wp2
      go_loopw [9, 10, 26] (fun _ _ i wr => ∃ k : Nat, k ≤ p.length ∧ i = .int .i64 k ∧ ordN ms l p k = true ∧ Hid (InP l ms (p.take k)) ∧ Hid (Below w.heap.size w wr) ∧ Hid (Box wr w.heap.size #[.slice H hs.length ch, .slice A l.length c] 37)) (fun _ _ i _ => p.length - (intOf i).toNat)
      case atStart => exact ⟨0, by omega, rfl, rfl, Lib.hid (InP.nil l ms), D, XQ2⟩
      case round =>
        obtain ⟨k, hk, rfl, hok, hin, hb, xq⟩ := hrel
        have HO := Lib.hid hok
        clear hok
        have hk0 : (0 : Int) ≤ (k : Int) := by omega
        by_cases hlt : k < p.length
        · have hk1 : (k : Int) < (p.length : Int) := by omega
          generalize hf : p.getD k (0, 0) = f
          obtain ⟨a, m⟩ := f
          have SN := Lib.hid (take_snoc p hlt hf)
          obtain ⟨b, off, rfl, n1, e0, e1⟩ := (HZ.out.step hb.out).at_ hlt hf
          have hkc : (k : Int) ≤ (co : Int) := by omega
          have hkc2 : k ≤ co := by omega
          have htl : (p.take k).length = k := by rw [List.length_take]; omega
          obtain ⟨W0, hW0⟩ : ∃ W0, W0 = wr.alloc (.cells #[.int .i64 a, .int .i64 m] 68) := ⟨_, rfl⟩
          have bW : Below wr.heap.size wr W0 := by rw [hW0]; exact below_alloc _ _
          have XS : Box W0 wr.heap.size #[.int .i64 a, .int .i64 m] 68 := by rw [hW0]; exact Box.new _ _ _
          have p0 := XS.cell 0
          have p1 := XS.cell 1
          have p2 := (xq.out.step bW).cell 0
          have p3 := (xq.out.step bW).cell 1
          simp only [List.getElem?_toArray, List.getElem?_cons_zero, List.getElem?_cons_succ] at p0 p1 p2 p3
          have BW := Lib.hid (step hb.out bW)
          have XN := Lib.hid fun (W : World) (hW : Below W0.heap.size W0 W) => (show Calls Try.prog 58 #[.slice (some ⟨b, off, none⟩) k co, .slice L ms.length cl, .agg #[.slice H hs.length ch, .slice A l.length c], .func (.func 59) #[] #[]] W (NxtO W (nextS ms l (p.take k))) by
            have := nextSteps_any (some ⟨b, off, none⟩) co (p.take k) L cl ms H A ch c hs l (by omega) HFW.out hin.out hzm hm5 W ((HZ.out.step (step BW.out hW)).take k) (HM.out.step (step BW.out hW)) (HF.out.step (step BW.out hW))
            rwa [htl] at this)
          have XK := Lib.hid (xq.out.step bW)
          have XSH := Lib.hid XS
          have OK := Lib.hid (show stepOk ms l (p.take k) (p.getD k (0, 0)) = decide ((a, m) ∈ nextS ms l (p.take k)) by rw [hf, Bool.eq_iff_iff, decide_eq_true_eq]; exact (nextS_mem ms l (p.take k) a m).symm)
          have NL : (nextS ms l (p.take k)).length ≤ 20 := by have := nextS_len ms l (p.take k); have h4 := HFW.out.1; have : l.length * ms.length ≤ 4 * 5 := Nat.mul_le_mul h4 hm5; omega
          have IN2 := Lib.hid fun (h : stepOk ms l (p.take k) (a, m) = true) => hin.out.snoc h
          have HFD := Lib.hid hf
          generalize nextS ms l (p.take k) = nx at XN OK NL
          have hWs : wr.heap.size < W0.heap.size := by rw [hW0]; simp
          have hws : w.heap.size < wr.heap.size := xq.out.lt
          clear hf bW XS
          go_wp2
          rw [← hW0]
          have hW1 := Lib.hid hW0
          clear hW0
          have tok1 : True := trivial
          have tok2 : True := trivial
          go_region_held3 (fun w' => w'.cell? ⟨w.heap.size, 0, none⟩ = some (.slice H hs.length ch) ∧ w'.cell? ⟨w.heap.size, 1, none⟩ = some (.slice A l.length c) ∧ w'.cell? ⟨wr.heap.size, 0, none⟩ = some (.int .i64 a) ∧ w'.cell? ⟨wr.heap.size, 1, none⟩ = some (.int .i64 m))
            (first
              | go_keep
              | (go_split_ands; refine ⟨?_, ?_, ?_, ?_⟩ <;> (rw [d1.cell (by (try simp) <;> omega)]; assumption))
              | (go_split_ands; refine ⟨?_, ?_, ?_, ?_⟩ <;> (rw [d2.cell (by (try simp) <;> omega)]; assumption)))
            (first
              | (go_at_call 58
                 clear tok1
                 refine (XN.out _ (by first | exact Below.refl _ _ | exact below_drew _)).mono ?_
                 rintro e u1 ⟨v1, rfl, hz1, d1⟩
                 obtain ⟨A1, c1, rfl⟩ := hz1.form
                 have b1 : Below W0.heap.size W0 u1 := by first | exact d1 | exact und d1 | exact undN d1
                 have R1 := Lib.hid hz1.rz
                 have sz1 := b1.size
                 clear hz1)
              | (go_at_call 57
                 clear tok2
                 refine (containsZ_any A1 c1 nx a m (by omega) _ (by first | exact R1.out | exact R1.out.step (below_drew _))).mono ?_
                 rintro e u2 ⟨he2, d2⟩
                 have b2 : Below u1.heap.size u1 u2 := by first | exact d2 | exact und d2 | exact undN d2
                 subst he2
                 have sz2 := b2.size))
          have T2 := Lib.hid (step BW.out (step b1 b2))
          have XK2 := Lib.hid (xq.out.step (show Below wr.heap.size wr u2 from step (by rw [hW1.out]; exact below_alloc _ _) (step b1 b2)))
          clear d1 d2 b1 b2 p0 p1 p2 p3 R1
          generalize hq : decide ((a, m) ∈ nx) = q at OK ⊢
          cases q
          · go_wp2
            go_ret
            exact ⟨ret_bool (ordN_not ms l p k _ hlt OK.out).symm, by first | exact T2.out | exact T2.out.drew⟩
          · have OK2 := Lib.hid (show InP l ms (p.take (k + 1)) by rw [SN.out]; exact IN2.out (by have := OK.out; rwa [HFD.out] at this))
            go_wp2
            go_roundw
            case rel => exact ⟨k + 1, by omega, by go_num, by rw [ordN_succ, HO.out, OK.out]; rfl, OK2, by first | exact T2 | exact Lib.hid T2.out.drew, by first | exact XK2 | exact Lib.hid (XK2.out.step (below_drew _))⟩
            case measure => simp [intOf]; omega
        · obtain rfl : k = p.length := by omega
          go_wp2
          go_ret
          exact ⟨ret_bool HO.out.symm, hb.out⟩
    · have E := Lib.hid (show ordB s ms hs l p = false by unfold ordB; rw [decide_eq_false hn]; simp)
      have d1 : ((p.length : Int) == (l.length : Int)) = false := by simp; omega
      have d2 : ((p.length : Int) != (l.length : Int)) = true := by simp; omega
      rw [E.out]
      clear ha hn
      go_enter Try.func19, Try.ntmps19
      go_wp2_with fail
      refine X1.out.mono ?_
      rintro e u ⟨he, d⟩
      rw [HA.out] at he
      subst he
      have D := Lib.hid (step B0.out d)
      have XQ2 := Lib.hid (XQ.out.step d)
      have q0 := XQ2.out.cell 0
      have q1 := XQ2.out.cell 1
      simp only [List.getElem?_toArray, List.getElem?_cons_zero, List.getElem?_cons_succ] at q0 q1
      clear d
      go_wp2
      go_ret
      exact ⟨rfl, D.out⟩
  · have HA := Lib.hid (show fineB s ms hs l = false by simpa using ha)
    have E := Lib.hid (show ordB s ms hs l p = false by unfold ordB; rw [show (aremB s ms && queryB s hs l) = false from HA.out]; simp)
    rw [E.out]
    clear ha
    go_enter Try.func19, Try.ntmps19
    go_wp2_with fail
    refine X1.out.mono ?_
    rintro e u ⟨he, d⟩
    rw [HA.out] at he
    subst he
    have D := Lib.hid (step B0.out d)
    clear d
    go_wp2
    go_ret
    exact ⟨rfl, D.out⟩
end Go.Proofs.Ytighalbnpgmdfaa
