/- What the two functions IsOrder answer. Conditions: none beyond each theorem's own. -/
import Derived.Test.YtcgmdleefaplfaaOr3
namespace Go.Proofs.Ytcgmdleefaplfaa
open Go.ChangeShapes Go.WideShapes Go.ChangeAt Go.RowKit Go.Sort
set_option linter.unusedVariables false
set_option linter.unusedSimpArgs false

def fineB (s : List Int) (ms : ML) (hs : List Int) (l : FL) : Bool := aremB s ms && queryB s hs l
theorem few_of {s hs : List Int} {l : FL} (h : queryB s hs l = true) : FewA l ∧ 1 ≤ l.length := by
  unfold queryB at h
  simp only [Bool.and_eq_true, decide_eq_true_eq] at h
  obtain ⟨⟨⟨⟨h1, h2⟩, h3⟩, h4⟩, h5⟩ := h
  have h4' : 1 ≤ (l.length : Int) ∧ (l.length : Int) ≤ 4 := by simpa [inB] using h4
  refine ⟨⟨by omega, fun k hk => ?_⟩, by omega⟩
  unfold atomsB at h1
  rw [List.all_eq_true] at h1
  have h6 := h1 l[k] (List.getElem_mem _)
  have e : l.getD k noF = l[k] := by simp [List.getD_eq_getElem?_getD, hk]
  rw [e]
  unfold atom.factB at h6
  simp only [Bool.and_eq_true, decide_eq_true_eq, inB] at h6
  obtain ⟨⟨⟨h7, h8⟩, h9⟩, _⟩ := h6
  have h10 := schB_at h7 (k := l[k].1.toNat) (by omega)
  omega
theorem fine_of {s : List Int} {ms : ML} {hs : List Int} {l : FL} (h : fineB s ms hs l = true) : ms.length ≤ 5 ∧ FewA l ∧ 1 ≤ l.length := by
  unfold fineB at h
  rw [Bool.and_eq_true] at h
  obtain ⟨h1, h2⟩ := h
  unfold aremB at h1
  simp only [Bool.and_eq_true, decide_eq_true_eq] at h1
  exact ⟨h1.2, few_of h2⟩

set_option maxRecDepth 100000 in
set_option maxHeartbeats 1000000 in
theorem l6Fine_any (S : Option Addr) (cs : Nat) (s : List Int) (L : Option Addr) (cl : Nat) (ms : ML) (H A : Option Addr) (ch c : Nat) (hs : List Int) (l : FL) (hls : s.length ≤ 1048576) (hzm : szM ms ≤ 1048576) (hh : hs.length ≤ 1048576) (hz : szF l ≤ 1048576) (w : World) (h : RI w S s) (h1 : RM w L ms) (h2 : RI w H hs) (h3 : RF w A l) :
    Calls Try.prog 73 #[.slice S s.length cs, .slice L ms.length cl, .agg #[.slice H hs.length ch, .slice A l.length c]] w fun e w' => e = .returned (.bool (fineB s ms hs l)) ∧ Below w.heap.size w w' := by
  have XQ := Lib.hid (Box.new w #[.slice H hs.length ch, .slice A l.length c] 55)
  have B0 := Lib.hid (below_alloc w (.cells #[.slice H hs.length ch, .slice A l.length c] 55))
  have X1 := Lib.hid (spec_AreMethods S cs s L cl ms hls hzm _ (h.step B0.out) (h1.step B0.out))
  have X2 := Lib.hid fun (W : World) (hW : Below w.heap.size w W) => spec_IsQuery S H A cs ch c s hs l hls (by omega) hz W (h.step hW) (h2.step hW) (h3.step hW)
  have q0 := XQ.out.cell 0
  have q1 := XQ.out.cell 1
  simp only [List.getElem?_toArray, List.getElem?_cons_zero, List.getElem?_cons_succ] at q0 q1
  clear h h1 h2 h3
  by_cases ha : aremB s ms = true
  · have HA := Lib.hid ha
    have E := Lib.hid (show fineB s ms hs l = queryB s hs l by unfold fineB; rw [ha]; rfl)
    rw [E.out]
    generalize queryB s hs l = q at X2
    clear ha
    go_enter Try.func73, Try.ntmps73
    go_wp2_with fail
    refine X1.out.mono ?_
    rintro e u ⟨he, d⟩
    rw [HA.out] at he
    subst he
    have D := Lib.hid (step B0.out d)
    have XQ2 := XQ.out.step d
    have q0 := XQ2.cell 0
    have q1 := XQ2.cell 1
    simp only [List.getElem?_toArray, List.getElem?_cons_zero, List.getElem?_cons_succ] at q0 q1
    clear d XQ2
    go_wp2_with fail
    refine (X2.out _ D.out).mono ?_
    rintro e u2 ⟨rfl, d⟩
    have D2 := Lib.hid (step D.out d)
    clear d
    go_wp2
    go_ret
    exact ⟨rfl, D2.out⟩
  · have HA := Lib.hid (show aremB s ms = false by simpa using ha)
    have E := Lib.hid (show fineB s ms hs l = false by unfold fineB; rw [HA.out]; rfl)
    rw [E.out]
    clear ha
    go_enter Try.func73, Try.ntmps73
    go_wp2_with fail
    refine X1.out.mono ?_
    rintro e u ⟨he, d⟩
    rw [HA.out] at he
    subst he
    have D := Lib.hid (step B0.out d)
    clear d
    go_wp2
    go_ret
    exact ⟨rfl, D.out⟩

set_option maxRecDepth 100000 in
set_option maxHeartbeats 1000000 in
theorem fineI_any (S : Option Addr) (cs : Nat) (s : List Int) (L : Option Addr) (cl : Nat) (ms : ML) (H A : Option Addr) (ch c : Nat) (hs : List Int) (l : FL) (hls : s.length ≤ 1048576) (hzm : szM ms ≤ 1048576) (hh : hs.length ≤ 1048576) (hz : szF l ≤ 1048576) (w : World) (h : RI w S s) (h1 : RM w L ms) (h2 : RI w H hs) (h3 : RF w A l) :
    Calls Try.prog 76 #[.slice S s.length cs, .slice L ms.length cl, .agg #[.slice H hs.length ch, .slice A l.length c]] w fun e w' => e = .returned (.bool (fineB s ms hs l)) ∧ Below w.heap.size w w' := by
  have XQ := Lib.hid (Box.new w #[.slice H hs.length ch, .slice A l.length c] 55)
  have B0 := Lib.hid (below_alloc w (.cells #[.slice H hs.length ch, .slice A l.length c] 55))
  have X1 := Lib.hid (impl_AreMethods S cs s L cl ms hls hzm _ (h.step B0.out) (h1.step B0.out))
  have X2 := Lib.hid fun (W : World) (hW : Below w.heap.size w W) => impl_IsQuery S H A cs ch c s hs l hls (by omega) hz W (h.step hW) (h2.step hW) (h3.step hW)
  have q0 := XQ.out.cell 0
  have q1 := XQ.out.cell 1
  simp only [List.getElem?_toArray, List.getElem?_cons_zero, List.getElem?_cons_succ] at q0 q1
  clear h h1 h2 h3
  by_cases ha : aremB s ms = true
  · have HA := Lib.hid ha
    have E := Lib.hid (show fineB s ms hs l = queryB s hs l by unfold fineB; rw [ha]; rfl)
    rw [E.out]
    generalize queryB s hs l = q at X2
    clear ha
    go_enter Try.func76, Try.ntmps76
    go_wp2_with fail
    refine X1.out.mono ?_
    rintro e u ⟨he, d⟩
    rw [HA.out] at he
    subst he
    have D := Lib.hid (step B0.out d)
    have XQ2 := XQ.out.step d
    have q0 := XQ2.cell 0
    have q1 := XQ2.cell 1
    simp only [List.getElem?_toArray, List.getElem?_cons_zero, List.getElem?_cons_succ] at q0 q1
    clear d XQ2
    go_wp2_with fail
    refine (X2.out _ D.out).mono ?_
    rintro e u2 ⟨rfl, d⟩
    have D2 := Lib.hid (step D.out d)
    clear d
    go_wp2
    go_ret
    exact ⟨rfl, D2.out⟩
  · have HA := Lib.hid (show aremB s ms = false by simpa using ha)
    have E := Lib.hid (show fineB s ms hs l = false by unfold fineB; rw [HA.out]; rfl)
    rw [E.out]
    clear ha
    go_enter Try.func76, Try.ntmps76
    go_wp2_with fail
    refine X1.out.mono ?_
    rintro e u ⟨he, d⟩
    rw [HA.out] at he
    subst he
    have D := Lib.hid (step B0.out d)
    clear d
    go_wp2
    go_ret
    exact ⟨rfl, D.out⟩

end Go.Proofs.Ytcgmdleefaplfaa
