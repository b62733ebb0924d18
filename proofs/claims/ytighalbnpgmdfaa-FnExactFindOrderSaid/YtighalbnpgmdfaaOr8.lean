/- What the functions FindOrder and BlockedAtoms answer. Conditions: none beyond each theorem's own. -/
import Derived.Test.YtighalbnpgmdfaaOr7
namespace Go.Proofs.Ytighalbnpgmdfaa
open Go.ChangeShapes Go.WideShapes Go.ChangeAt Go.RowKit Go.Sort
set_option linter.unusedVariables false
set_option linter.unusedSimpArgs false

def findB (s : List Int) (ms : ML) (hs : List Int) (l : FL) : Bool := fineB s ms hs l && decide (l.length ≤ (firstS ms l).length)
def findS (s : List Int) (ms : ML) (hs : List Int) (l : FL) : SL := if findB s ms hs l then firstS ms l else []
/-- Steps of the call's own, and whether. -/
def FndO (w : World) (x : SL) (b : Bool) (e : Ending) (w' : World) : Prop := ∃ A c, e = .returned (.tuple #[.slice A x.length c, .bool b]) ∧ ZS w' w.heap.size (.slice A x.length c) x ∧ Below w.heap.size w w'
theorem find_no {s : List Int} {ms : ML} {hs : List Int} {l : FL} (h : fineB s ms hs l = false) : findB s ms hs l = false ∧ findS s ms hs l = [] := by simp [findB, findS, h]
theorem find_yes {s : List Int} {ms : ML} {hs : List Int} {l : FL} (h : fineB s ms hs l = true) (h2 : ¬ (firstS ms l).length < l.length) : findB s ms hs l = true ∧ findS s ms hs l = firstS ms l := by
  have : findB s ms hs l = true := by unfold findB; rw [h, decide_eq_true (by omega)]; rfl
  exact ⟨this, by unfold findS; rw [if_pos this]⟩
theorem find_no2 {s : List Int} {ms : ML} {hs : List Int} {l : FL} (h2 : (firstS ms l).length < l.length) : findB s ms hs l = false ∧ findS s ms hs l = [] := by
  have : findB s ms hs l = false := by unfold findB; rw [decide_eq_false (by omega)]; simp
  exact ⟨this, by unfold findS; rw [if_neg (by rw [this]; decide)]⟩

set_option maxRecDepth 100000 in
set_option maxHeartbeats 1000000 in
theorem spec_FindOrder (S : Option Addr) (cs : Nat) (s : List Int) (L : Option Addr) (cl : Nat) (ms : ML) (H A : Option Addr) (ch c : Nat) (hs : List Int) (l : FL) (hls : s.length ≤ 1048576) (hzm : szM ms ≤ 1048576) (hh : hs.length ≤ 1048576) (hz : szF l ≤ 1048576) (w : World) (h : RI w S s) (h1 : RM w L ms) (h2 : RI w H hs) (h3 : RF w A l) :
    Calls Try.prog 24 #[.slice S s.length cs, .slice L ms.length cl, .agg #[.slice H hs.length ch, .slice A l.length c]] w (FndO w (findS s ms hs l) (findB s ms hs l)) := by
  have XQ := Lib.hid (Box.new w #[.slice H hs.length ch, .slice A l.length c] 37)
  have B0 := Lib.hid (below_alloc w (.cells #[.slice H hs.length ch, .slice A l.length c] 37))
  have X1 := Lib.hid (l6Fine_any S cs s L cl ms H A ch c hs l hls hzm hh hz _ (h.step B0.out) (h1.step B0.out) (h2.step B0.out) (h3.step B0.out))
  have q0 := XQ.out.cell 0
  have q1 := XQ.out.cell 1
  simp only [List.getElem?_toArray, List.getElem?_cons_zero, List.getElem?_cons_succ] at q0 q1
  have HM := Lib.hid h1
  have HF := Lib.hid h3
  clear h h1 h2 h3
  by_cases ha : fineB s ms hs l = true
  · have HA := Lib.hid ha
    obtain ⟨hm5, hfew, hl1⟩ := fine_of ha
    have hl4 := hfew.1
    have FSL : (firstS ms l).length ≤ 4 := by have := gr_len ms l l.length; unfold firstS; omega
    have XG := Lib.hid fun (W : World) (hW : Below w.heap.size w W) => l6Greedy_any L cl ms H A ch c hs l hfew hzm hm5 W (HM.out.step hW) (HF.out.step hW)
    have NO := Lib.hid (find_no2 (s := s) (ms := ms) (hs := hs) (l := l))
    have YES := Lib.hid (find_yes ha)
    generalize firstS ms l = fs at XG NO YES FSL
    clear ha hfew
    by_cases hlt : fs.length < l.length
    · obtain ⟨e1, e2⟩ := NO.out hlt
      rw [e1, e2]
      have d1 : decide ((fs.length : Int) < (l.length : Int)) = true := by simp; omega
      have d2 : (fs.length : Int) < (l.length : Int) := by omega
      clear e1 e2 YES NO
      go_enter Try.func24, Try.ntmps24
      go_wp2_with fail
      refine X1.out.mono ?_
      rintro e u ⟨he, d⟩
      rw [HA.out] at he
      subst he
      have D := Lib.hid (step B0.out d)
      have XQ2 := Lib.hid (XQ.out.step d)
      have q0 := XQ2.out.cell 0
      have q1 := XQ2.out.cell 1
      simp only [List.getElem?_toArray, List.getElem?_cons_zero, List.getElem?_cons_succ] at q0 q1
      clear d
      go_wp2_with fail
      refine (XG.out _ D.out).mono ?_
      rintro e u2 ⟨v, rfl, hzs, d⟩
      obtain ⟨A2, c2, rfl⟩ := hzs.form
      have D2 := Lib.hid (step D.out d)
      have XQ3 := Lib.hid (XQ2.out.step d)
      have q0 := XQ3.out.cell 0
      have q1 := XQ3.out.cell 1
      simp only [List.getElem?_toArray, List.getElem?_cons_zero, List.getElem?_cons_succ] at q0 q1
      clear d hzs
      go_wp2
      go_ret2
      exact ⟨_, 0, rfl, ZS.lit _ _ D2.out.size, step D2.out (below_alloc _ _)⟩
    · obtain ⟨e1, e2⟩ := YES.out hlt
      rw [e1, e2]
      have d1 : decide ((fs.length : Int) < (l.length : Int)) = false := by simp; omega
      have d2 : ¬ (fs.length : Int) < (l.length : Int) := by omega
      have d3 : ¬ fs.length < l.length := hlt
      clear e1 e2 YES NO
      go_enter Try.func24, Try.ntmps24
      go_wp2_with fail
      refine X1.out.mono ?_
      rintro e u ⟨he, d⟩
      rw [HA.out] at he
      subst he
      have D := Lib.hid (step B0.out d)
      have XQ2 := Lib.hid (XQ.out.step d)
      have q0 := XQ2.out.cell 0
      have q1 := XQ2.out.cell 1
      simp only [List.getElem?_toArray, List.getElem?_cons_zero, List.getElem?_cons_succ] at q0 q1
      clear d
      go_wp2_with fail
      refine (XG.out _ D.out).mono ?_
      rintro e u2 ⟨v, rfl, hzs, d⟩
      obtain ⟨A2, c2, rfl⟩ := hzs.form
      have D2 := Lib.hid (step D.out d)
      have XQ3 := Lib.hid (XQ2.out.step d)
      have Z2 := Lib.hid (hzs.lo D.out.size)
      have q0 := XQ3.out.cell 0
      have q1 := XQ3.out.cell 1
      simp only [List.getElem?_toArray, List.getElem?_cons_zero, List.getElem?_cons_succ] at q0 q1
      clear d hzs
      go_wp2
      go_ret2
      exact ⟨A2, c2, rfl, Z2.out, D2.out⟩
  · have HA := Lib.hid (show fineB s ms hs l = false by simpa using ha)
    obtain ⟨e1, e2⟩ := find_no HA.out
    rw [e1, e2]
    clear ha e1 e2
    go_enter Try.func24, Try.ntmps24
    go_wp2_with fail
    refine X1.out.mono ?_
    rintro e u ⟨he, d⟩
    rw [HA.out] at he
    subst he
    have D2 := Lib.hid (step B0.out d)
    clear d
    go_wp2
    go_ret2
    exact ⟨_, 0, rfl, ZS.lit _ _ D2.out.size, step D2.out (below_alloc _ _)⟩

set_option maxRecDepth 100000 in
set_option maxHeartbeats 1000000 in
theorem impl_FindOrder (S : Option Addr) (cs : Nat) (s : List Int) (L : Option Addr) (cl : Nat) (ms : ML) (H A : Option Addr) (ch c : Nat) (hs : List Int) (l : FL) (hls : s.length ≤ 1048576) (hzm : szM ms ≤ 1048576) (hh : hs.length ≤ 1048576) (hz : szF l ≤ 1048576) (w : World) (h : RI w S s) (h1 : RM w L ms) (h2 : RI w H hs) (h3 : RF w A l) :
    Calls Try.prog 25 #[.slice S s.length cs, .slice L ms.length cl, .agg #[.slice H hs.length ch, .slice A l.length c]] w (FndO w (findS s ms hs l) (findB s ms hs l)) := by
  have XQ := Lib.hid (Box.new w #[.slice H hs.length ch, .slice A l.length c] 37)
  have B0 := Lib.hid (below_alloc w (.cells #[.slice H hs.length ch, .slice A l.length c] 37))
  have X1 := Lib.hid (fineI_any S cs s L cl ms H A ch c hs l hls hzm hh hz _ (h.step B0.out) (h1.step B0.out) (h2.step B0.out) (h3.step B0.out))
  have q0 := XQ.out.cell 0
  have q1 := XQ.out.cell 1
  simp only [List.getElem?_toArray, List.getElem?_cons_zero, List.getElem?_cons_succ] at q0 q1
  have HM := Lib.hid h1
  have HF := Lib.hid h3
  clear h h1 h2 h3
  by_cases ha : fineB s ms hs l = true
  · have HA := Lib.hid ha
    obtain ⟨hm5, hfew, hl1⟩ := fine_of ha
    have hl4 := hfew.1
    have FSL : (firstS ms l).length ≤ 4 := by have := gr_len ms l l.length; unfold firstS; omega
    have XG := Lib.hid fun (W : World) (hW : Below w.heap.size w W) => firstSteps_any L cl ms H A ch c hs l hfew hzm hm5 W (HM.out.step hW) (HF.out.step hW)
    have NO := Lib.hid (find_no2 (s := s) (ms := ms) (hs := hs) (l := l))
    have YES := Lib.hid (find_yes ha)
    generalize firstS ms l = fs at XG NO YES FSL
    clear ha hfew
    by_cases hlt : fs.length < l.length
    · obtain ⟨e1, e2⟩ := NO.out hlt
      rw [e1, e2]
      have d1 : decide ((fs.length : Int) < (l.length : Int)) = true := by simp; omega
      have d2 : (fs.length : Int) < (l.length : Int) := by omega
      clear e1 e2 YES NO
      go_enter Try.func25, Try.ntmps25
      go_wp2_with fail
      refine X1.out.mono ?_
      rintro e u ⟨he, d⟩
      rw [HA.out] at he
      subst he
      have D := Lib.hid (step B0.out d)
      have XQ2 := Lib.hid (XQ.out.step d)
      have q0 := XQ2.out.cell 0
      have q1 := XQ2.out.cell 1
      simp only [List.getElem?_toArray, List.getElem?_cons_zero, List.getElem?_cons_succ] at q0 q1
      clear d
      go_wp2_with fail
      refine (XG.out _ D.out).mono ?_
      rintro e u2 ⟨v, rfl, hzs, d⟩
      obtain ⟨A2, c2, rfl⟩ := hzs.form
      have D2 := Lib.hid (step D.out d)
      have XQ3 := Lib.hid (XQ2.out.step d)
      have q0 := XQ3.out.cell 0
      have q1 := XQ3.out.cell 1
      simp only [List.getElem?_toArray, List.getElem?_cons_zero, List.getElem?_cons_succ] at q0 q1
      clear d hzs
      go_wp2
      go_ret2
      exact ⟨none, 0, rfl, ZS.nil _ _, D2.out⟩
    · obtain ⟨e1, e2⟩ := YES.out hlt
      rw [e1, e2]
      have d1 : decide ((fs.length : Int) < (l.length : Int)) = false := by simp; omega
      have d2 : ¬ (fs.length : Int) < (l.length : Int) := by omega
      have d3 : ¬ fs.length < l.length := hlt
      clear e1 e2 YES NO
      go_enter Try.func25, Try.ntmps25
      go_wp2_with fail
      refine X1.out.mono ?_
      rintro e u ⟨he, d⟩
      rw [HA.out] at he
      subst he
      have D := Lib.hid (step B0.out d)
      have XQ2 := Lib.hid (XQ.out.step d)
      have q0 := XQ2.out.cell 0
      have q1 := XQ2.out.cell 1
      simp only [List.getElem?_toArray, List.getElem?_cons_zero, List.getElem?_cons_succ] at q0 q1
      clear d
      go_wp2_with fail
      refine (XG.out _ D.out).mono ?_
      rintro e u2 ⟨v, rfl, hzs, d⟩
      obtain ⟨A2, c2, rfl⟩ := hzs.form
      have D2 := Lib.hid (step D.out d)
      have XQ3 := Lib.hid (XQ2.out.step d)
      have Z2 := Lib.hid (hzs.lo D.out.size)
      have q0 := XQ3.out.cell 0
      have q1 := XQ3.out.cell 1
      simp only [List.getElem?_toArray, List.getElem?_cons_zero, List.getElem?_cons_succ] at q0 q1
      clear d hzs
      go_wp2
      go_ret2
      exact ⟨A2, c2, rfl, Z2.out, D2.out⟩
  · have HA := Lib.hid (show fineB s ms hs l = false by simpa using ha)
    obtain ⟨e1, e2⟩ := find_no HA.out
    rw [e1, e2]
    clear ha e1 e2
    go_enter Try.func25, Try.ntmps25
    go_wp2_with fail
    refine X1.out.mono ?_
    rintro e u ⟨he, d⟩
    rw [HA.out] at he
    subst he
    have D2 := Lib.hid (step B0.out d)
    clear d
    go_wp2
    go_ret2
    exact ⟨none, 0, rfl, ZS.nil _ _, D2.out⟩

def blkI (s : List Int) (ms : ML) (hs : List Int) (l : FL) : List Int := if fineB s ms hs l then missI l.length (firstS ms l) else []
end Go.Proofs.Ytighalbnpgmdfaa
