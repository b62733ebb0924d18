/- What the functions FindOrder and BlockedAtoms answer. Conditions: none beyond each theorem's own. What the two functions BlockedAtoms answer. Conditions: none beyond each theorem's own. What the two functions IsExact answer. Conditions: none beyond each theorem's own. Orders by exact methods, and what they answer of a query, purely. Conditions: none beyond each theorem's own. Bindings in memory: their size, their copy, their comparison by the law. Conditions: none beyond each theorem's own. -/
import Derived.Test.YtighalbnpgmdfaaAp7
import Derived.Test.YtighalbnpgmdfaaAp3
import Derived.Test.YtighalbnpgmdfaaEqList

namespace Go.Proofs.Ytighalbnpgmdfaa
open Go.ChangeShapes Go.WideShapes Go.ChangeAt Go.RowKit Go.Sort
set_option linter.unusedVariables false
set_option linter.unusedSimpArgs false

def findB (s : List Int) (ms : ML) (hs : List Int) (l : FL) : Bool := fineB s ms hs l && decide (l.length ≤ (firstS ms l).length)
def findS (s : List Int) (ms : ML) (hs : List Int) (l : FL) : SL := if findB s ms hs l then firstS ms l else []
/-- Steps of the call's own, and whether. -/
def FndO (w : World) (x : SL) (b : Bool) (e : Ending) (w' : World) : Prop := ∃ A c, e = .returned (.tuple #[.slice A x.length c, .bool b]) ∧ ZS w' w.heap.size (.slice A x.length c) x ∧ Below w.heap.size w w'
theorem find_no {s : List Int} {ms : ML} {hs : List Int} {l : FL} (h : fineB s ms hs l = false) : findB s ms hs l = false ∧ findS s ms hs l = [] := by simp [findB, findS, h]
theorem find_yes {s : List Int} {ms : ML} {hs : List Int} {l : FL} (h : fineB s ms hs l = true) (h2 : ¬ (firstS ms l).length < l.length) : findB s ms hs l = true ∧ findS s ms hs l = firstS ms l := by
  have : findB s ms hs l = true := by unfold findB; rw [h, decide_eq_true (by omega)]; rfl
  exact ⟨this, by unfold findS; rw [if_pos this]⟩
theorem find_no2 {s : List Int} {ms : ML} {hs : List Int} {l : FL} (h2 : (firstS ms l).length < l.length) : findB s ms hs l = false ∧ findS s ms hs l = [] := by
  have : findB s ms hs l = false := by unfold findB; rw [decide_eq_false (by omega)]; simp
  exact ⟨this, by unfold findS; rw [if_neg (by rw [this]; decide)]⟩

set_option maxRecDepth 100000 in
set_option maxHeartbeats 1000000 in
theorem spec_FindOrder (S : Option Addr) (cs : Nat) (s : List Int) (L : Option Addr) (cl : Nat) (ms : ML) (H A : Option Addr) (ch c : Nat) (hs : List Int) (l : FL) (hls : s.length ≤ 1048576) (hzm : szM ms ≤ 1048576) (hh : hs.length ≤ 1048576) (hz : szF l ≤ 1048576) (w : World) (h : RI w S s) (h1 : RM w L ms) (h2 : RI w H hs) (h3 : RF w A l) :
    Calls Try.prog 24 #[.slice S s.length cs, .slice L ms.length cl, .agg #[.slice H hs.length ch, .slice A l.length c]] w (FndO w (findS s ms hs l) (findB s ms hs l)) := by
  have XQ := Lib.hid (Box.new w #[.slice H hs.length ch, .slice A l.length c] 37)
  have B0 := Lib.hid (below_alloc w (.cells #[.slice H hs.length ch, .slice A l.length c] 37))
  have X1 := Lib.hid (l6Fine_any S cs s L cl ms H A ch c hs l hls hzm hh hz _ (h.step B0.out) (h1.step B0.out) (h2.step B0.out) (h3.step B0.out))
  have q0 := XQ.out.cell 0
  have q1 := XQ.out.cell 1
  simp only [List.getElem?_toArray, List.getElem?_cons_zero, List.getElem?_cons_succ] at q0 q1
  have HM := Lib.hid h1
  have HF := Lib.hid h3
  clear h h1 h2 h3
  by_cases ha : fineB s ms hs l = true
  · have HA := Lib.hid ha
    obtain ⟨hm5, hfew, hl1⟩ := fine_of ha
    have hl4 := hfew.1
    have FSL : (firstS ms l).length ≤ 4 := by have := gr_len ms l l.length; unfold firstS; omega
    have XG := Lib.hid fun (W : World) (hW : Below w.heap.size w W) => l6Greedy_any L cl ms H A ch c hs l hfew hzm hm5 W (HM.out.step hW) (HF.out.step hW)
    have NO := Lib.hid (find_no2 (s := s) (ms := ms) (hs := hs) (l := l))
    have YES := Lib.hid (find_yes ha)
    generalize firstS ms l = fs at XG NO YES FSL
    clear ha hfew
    by_cases hlt : fs.length < l.length
    · obtain ⟨e1, e2⟩ := NO.out hlt
      rw [e1, e2]
      have d1 : decide ((fs.length : Int) < (l.length : Int)) = true := by simp; omega
      have d2 : (fs.length : Int) < (l.length : Int) := by omega
      clear e1 e2 YES NO
      go_enter Try.func24, Try.ntmps24
      go_wp2_with fail
      refine X1.out.mono ?_
      rintro e u ⟨he, d⟩
      rw [HA.out] at he
      subst he
      have D := Lib.hid (step B0.out d)
      have XQ2 := Lib.hid (XQ.out.step d)
      have q0 := XQ2.out.cell 0
      have q1 := XQ2.out.cell 1
      simp only [List.getElem?_toArray, List.getElem?_cons_zero, List.getElem?_cons_succ] at q0 q1
      clear d
      go_wp2_with fail
      refine (XG.out _ D.out).mono ?_
      rintro e u2 ⟨v, rfl, hzs, d⟩
      obtain ⟨A2, c2, rfl⟩ := hzs.form
      have D2 := Lib.hid (step D.out d)
      have XQ3 := Lib.hid (XQ2.out.step d)
      have q0 := XQ3.out.cell 0
      have q1 := XQ3.out.cell 1
      simp only [List.getElem?_toArray, List.getElem?_cons_zero, List.getElem?_cons_succ] at q0 q1
      clear d hzs
      go_wp2
      go_ret2
      exact ⟨_, 0, rfl, ZS.lit _ _ D2.out.size, step D2.out (below_alloc _ _)⟩
    · obtain ⟨e1, e2⟩ := YES.out hlt
      rw [e1, e2]
      have d1 : decide ((fs.length : Int) < (l.length : Int)) = false := by simp; omega
      have d2 : ¬ (fs.length : Int) < (l.length : Int) := by omega
      have d3 : ¬ fs.length < l.length := hlt
      clear e1 e2 YES NO
      go_enter Try.func24, Try.ntmps24
      go_wp2_with fail
      refine X1.out.mono ?_
      rintro e u ⟨he, d⟩
      rw [HA.out] at he
      subst he
      have D := Lib.hid (step B0.out d)
      have XQ2 := Lib.hid (XQ.out.step d)
      have q0 := XQ2.out.cell 0
      have q1 := XQ2.out.cell 1
      simp only [List.getElem?_toArray, List.getElem?_cons_zero, List.getElem?_cons_succ] at q0 q1
      clear d
      go_wp2_with fail
      refine (XG.out _ D.out).mono ?_
      rintro e u2 ⟨v, rfl, hzs, d⟩
      obtain ⟨A2, c2, rfl⟩ := hzs.form
      have D2 := Lib.hid (step D.out d)
      have XQ3 := Lib.hid (XQ2.out.step d)
      have Z2 := Lib.hid (hzs.lo D.out.size)
      have q0 := XQ3.out.cell 0
      have q1 := XQ3.out.cell 1
      simp only [List.getElem?_toArray, List.getElem?_cons_zero, List.getElem?_cons_succ] at q0 q1
      clear d hzs
      go_wp2
      go_ret2
      exact ⟨A2, c2, rfl, Z2.out, D2.out⟩
  · have HA := Lib.hid (show fineB s ms hs l = false by simpa using ha)
    obtain ⟨e1, e2⟩ := find_no HA.out
    rw [e1, e2]
    clear ha e1 e2
    go_enter Try.func24, Try.ntmps24
    go_wp2_with fail
    refine X1.out.mono ?_
    rintro e u ⟨he, d⟩
    rw [HA.out] at he
    subst he
    have D2 := Lib.hid (step B0.out d)
    clear d
    go_wp2
    go_ret2
    exact ⟨_, 0, rfl, ZS.lit _ _ D2.out.size, step D2.out (below_alloc _ _)⟩

set_option maxRecDepth 100000 in
set_option maxHeartbeats 1000000 in
theorem impl_FindOrder (S : Option Addr) (cs : Nat) (s : List Int) (L : Option Addr) (cl : Nat) (ms : ML) (H A : Option Addr) (ch c : Nat) (hs : List Int) (l : FL) (hls : s.length ≤ 1048576) (hzm : szM ms ≤ 1048576) (hh : hs.length ≤ 1048576) (hz : szF l ≤ 1048576) (w : World) (h : RI w S s) (h1 : RM w L ms) (h2 : RI w H hs) (h3 : RF w A l) :
    Calls Try.prog 25 #[.slice S s.length cs, .slice L ms.length cl, .agg #[.slice H hs.length ch, .slice A l.length c]] w (FndO w (findS s ms hs l) (findB s ms hs l)) := by
  have XQ := Lib.hid (Box.new w #[.slice H hs.length ch, .slice A l.length c] 37)
  have B0 := Lib.hid (below_alloc w (.cells #[.slice H hs.length ch, .slice A l.length c] 37))
  have X1 := Lib.hid (fineI_any S cs s L cl ms H A ch c hs l hls hzm hh hz _ (h.step B0.out) (h1.step B0.out) (h2.step B0.out) (h3.step B0.out))
  have q0 := XQ.out.cell 0
  have q1 := XQ.out.cell 1
  simp only [List.getElem?_toArray, List.getElem?_cons_zero, List.getElem?_cons_succ] at q0 q1
  have HM := Lib.hid h1
  have HF := Lib.hid h3
  clear h h1 h2 h3
  by_cases ha : fineB s ms hs l = true
  · have HA := Lib.hid ha
    obtain ⟨hm5, hfew, hl1⟩ := fine_of ha
    have hl4 := hfew.1
    have FSL : (firstS ms l).length ≤ 4 := by have := gr_len ms l l.length; unfold firstS; omega
    have XG := Lib.hid fun (W : World) (hW : Below w.heap.size w W) => firstSteps_any L cl ms H A ch c hs l hfew hzm hm5 W (HM.out.step hW) (HF.out.step hW)
    have NO := Lib.hid (find_no2 (s := s) (ms := ms) (hs := hs) (l := l))
    have YES := Lib.hid (find_yes ha)
    generalize firstS ms l = fs at XG NO YES FSL
    clear ha hfew
    by_cases hlt : fs.length < l.length
    · obtain ⟨e1, e2⟩ := NO.out hlt
      rw [e1, e2]
      have d1 : decide ((fs.length : Int) < (l.length : Int)) = true := by simp; omega
      have d2 : (fs.length : Int) < (l.length : Int) := by omega
      clear e1 e2 YES NO
      go_enter Try.func25, Try.ntmps25
      go_wp2_with fail
      refine X1.out.mono ?_
      rintro e u ⟨he, d⟩
      rw [HA.out] at he
      subst he
      have D := Lib.hid (step B0.out d)
      have XQ2 := Lib.hid (XQ.out.step d)
      have q0 := XQ2.out.cell 0
      have q1 := XQ2.out.cell 1
      simp only [List.getElem?_toArray, List.getElem?_cons_zero, List.getElem?_cons_succ] at q0 q1
      clear d
      go_wp2_with fail
      refine (XG.out _ D.out).mono ?_
      rintro e u2 ⟨v, rfl, hzs, d⟩
      obtain ⟨A2, c2, rfl⟩ := hzs.form
      have D2 := Lib.hid (step D.out d)
      have XQ3 := Lib.hid (XQ2.out.step d)
      have q0 := XQ3.out.cell 0
      have q1 := XQ3.out.cell 1
      simp only [List.getElem?_toArray, List.getElem?_cons_zero, List.getElem?_cons_succ] at q0 q1
      clear d hzs
      go_wp2
      go_ret2
      exact ⟨none, 0, rfl, ZS.nil _ _, D2.out⟩
    · obtain ⟨e1, e2⟩ := YES.out hlt
      rw [e1, e2]
      have d1 : decide ((fs.length : Int) < (l.length : Int)) = false := by simp; omega
      have d2 : ¬ (fs.length : Int) < (l.length : Int) := by omega
      have d3 : ¬ fs.length < l.length := hlt
      clear e1 e2 YES NO
      go_enter Try.func25, Try.ntmps25
      go_wp2_with fail
      refine X1.out.mono ?_
      rintro e u ⟨he, d⟩
      rw [HA.out] at he
      subst he
      have D := Lib.hid (step B0.out d)
      have XQ2 := Lib.hid (XQ.out.step d)
      have q0 := XQ2.out.cell 0
      have q1 := XQ2.out.cell 1
      simp only [List.getElem?_toArray, List.getElem?_cons_zero, List.getElem?_cons_succ] at q0 q1
      clear d
      go_wp2_with fail
      refine (XG.out _ D.out).mono ?_
      rintro e u2 ⟨v, rfl, hzs, d⟩
      obtain ⟨A2, c2, rfl⟩ := hzs.form
      have D2 := Lib.hid (step D.out d)
      have XQ3 := Lib.hid (XQ2.out.step d)
      have Z2 := Lib.hid (hzs.lo D.out.size)
      have q0 := XQ3.out.cell 0
      have q1 := XQ3.out.cell 1
      simp only [List.getElem?_toArray, List.getElem?_cons_zero, List.getElem?_cons_succ] at q0 q1
      clear d hzs
      go_wp2
      go_ret2
      exact ⟨A2, c2, rfl, Z2.out, D2.out⟩
  · have HA := Lib.hid (show fineB s ms hs l = false by simpa using ha)
    obtain ⟨e1, e2⟩ := find_no HA.out
    rw [e1, e2]
    clear ha e1 e2
    go_enter Try.func25, Try.ntmps25
    go_wp2_with fail
    refine X1.out.mono ?_
    rintro e u ⟨he, d⟩
    rw [HA.out] at he
    subst he
    have D2 := Lib.hid (step B0.out d)
    clear d
    go_wp2
    go_ret2
    exact ⟨none, 0, rfl, ZS.nil _ _, D2.out⟩

def blkI (s : List Int) (ms : ML) (hs : List Int) (l : FL) : List Int := if fineB s ms hs l then missI l.length (firstS ms l) else []
end Go.Proofs.Ytighalbnpgmdfaa

namespace Go.Proofs.Ytighalbnpgmdfaa
open Go.ChangeShapes Go.WideShapes Go.ChangeAt Go.RowKit Go.Sort
set_option linter.unusedVariables false
set_option linter.unusedSimpArgs false

theorem usedB_step {p : SL} {k : Nat} (hk : k < p.length) {a m : Int} (hf : p.getD k (0, 0) = (a, m)) (i : Int) : usedB (p.take (k + 1)) i = (usedB (p.take k) i || decide (i = a)) := by
  rw [take_snoc p hk hf, usedB_snoc]

set_option maxRecDepth 100000 in
set_option maxHeartbeats 1000000 in
theorem impl_BlockedAtoms (S : Option Addr) (cs : Nat) (s : List Int) (L : Option Addr) (cl : Nat) (ms : ML) (H A : Option Addr) (ch c : Nat) (hs : List Int) (l : FL) (hls : s.length ≤ 1048576) (hzm : szM ms ≤ 1048576) (hh : hs.length ≤ 1048576) (hz : szF l ≤ 1048576) (w : World) (h : RI w S s) (h1 : RM w L ms) (h2 : RI w H hs) (h3 : RF w A l) :
    Calls Try.prog 32 #[.slice S s.length cs, .slice L ms.length cl, .agg #[.slice H hs.length ch, .slice A l.length c]] w (ListT w (blkI s ms hs l)) := by
  have XQ := Lib.hid (Box.new w #[.slice H hs.length ch, .slice A l.length c] 37)
  have B0 := Lib.hid (below_alloc w (.cells #[.slice H hs.length ch, .slice A l.length c] 37))
  have X1 := Lib.hid (fineI_any S cs s L cl ms H A ch c hs l hls hzm hh hz _ (h.step B0.out) (h1.step B0.out) (h2.step B0.out) (h3.step B0.out))
  have q0 := XQ.out.cell 0
  have q1 := XQ.out.cell 1
  simp only [List.getElem?_toArray, List.getElem?_cons_zero, List.getElem?_cons_succ] at q0 q1
  have HM := Lib.hid h1
  have HF := Lib.hid h3
  clear h h1 h2 h3
  by_cases ha : fineB s ms hs l = true
  · have HA := Lib.hid ha
    obtain ⟨hm5, hfew, hl1⟩ := fine_of ha
    have hl4 := hfew.1
    have FSL : (firstS ms l).length ≤ 4 := by have := gr_len ms l l.length; unfold firstS; omega
    have E := Lib.hid (show blkI s ms hs l = missI l.length (firstS ms l) by unfold blkI; rw [if_pos ha])
    rw [E.out]
    have XG := Lib.hid fun (W : World) (hW : Below w.heap.size w W) => firstSteps_any L cl ms H A ch c hs l hfew hzm hm5 W (HM.out.step hW) (HF.out.step hW)
    generalize firstS ms l = fs at XG E FSL ⊢
    clear ha hfew
    go_enter Try.func32, Try.ntmps32
    go_wp2_with fail
    refine X1.out.mono ?_
    rintro e u ⟨he, d⟩
    rw [HA.out] at he
    subst he
    have D := Lib.hid (step B0.out d)
    have XQ2 := Lib.hid (XQ.out.step d)
    have q0 := XQ2.out.cell 0
    have q1 := XQ2.out.cell 1
    simp only [List.getElem?_toArray, List.getElem?_cons_zero, List.getElem?_cons_succ] at q0 q1
    have hwu : w.heap.size < u.heap.size := XQ2.out.lt
    clear d
    go_wp2
    have tok1 : True := trivial
    have tok2 : True := trivial
    go_region_held3 (fun w' => w'.cell? ⟨w.heap.size, 0, none⟩ = some (.slice H hs.length ch) ∧ w'.cell? ⟨w.heap.size, 1, none⟩ = some (.slice A l.length c))
      (first
        | go_keep
        | (go_split_ands; refine ⟨?_, ?_⟩ <;> (rw [d1.cell (by (try simp) <;> omega)]; assumption))
        | (go_split_ands; refine ⟨?_, ?_⟩ <;> (rw [d2.cell (by (try simp) <;> omega)]; assumption)))
      (first
        | (go_at_call 64
           clear tok1
           refine (XG.out _ (by first | exact D.out | exact step D.out (below_drew _))).mono ?_
           rintro e u1 ⟨v1, rfl, hz1, d1⟩
           obtain ⟨A1, c1, rfl⟩ := hz1.form
           have b1 : Below u.heap.size u u1 := by first | exact d1 | exact und d1 | exact undN d1
           have R1 := Lib.hid hz1.rz
           have sz1 := b1.size
           clear hz1)
        | (go_at_call 66
           clear tok2
           refine (missingAtoms_any A1 c1 fs H A ch c hs l (by omega) (by omega) _ (by first | exact R1.out | exact R1.out.step (below_drew _))).mono ?_
           rintro e u2 ⟨v2, rfl, hown2, d2⟩
           have b2 : Below u1.heap.size u1 u2 := by first | exact d2 | exact und d2 | exact undN d2
           have sz2 := b2.size
           have O2 := Lib.hid (show u2.ownsRow u1.heap.size 3 1 v2 (missI l.length fs).length ((missI l.length fs).map (Value.int .i64)) from hown2)
           clear hown2))
    have T2 := Lib.hid (step D.out (step b1 b2))
    have O3 := Lib.hid (ownsRow_lo O2.out (show w.heap.size ≤ u1.heap.size by omega))
    clear d1 d2 b1 b2 R1 q0 q1
    go_wp2
    go_ret
    exact ⟨v2, rfl, by first | exact O3.out | exact O3.out.drew, by first | exact T2.out | exact T2.out.drew⟩
  · have HA := Lib.hid (show fineB s ms hs l = false by simpa using ha)
    have E := Lib.hid (show blkI s ms hs l = [] by unfold blkI; rw [if_neg (by rw [HA.out]; decide)])
    rw [E.out]
    clear ha
    go_enter Try.func32, Try.ntmps32
    go_wp2_with fail
    refine X1.out.mono ?_
    rintro e u ⟨he, d⟩
    rw [HA.out] at he
    subst he
    have D2 := Lib.hid (step B0.out d)
    clear d
    go_wp2
    go_ret
    exact ⟨_, rfl, World.ownsRow_nil _ _ _ _, D2.out⟩

set_option maxRecDepth 100000 in
set_option maxHeartbeats 1000000 in
theorem spec_BlockedAtoms (S : Option Addr) (cs : Nat) (s : List Int) (L : Option Addr) (cl : Nat) (ms : ML) (H A : Option Addr) (ch c : Nat) (hs : List Int) (l : FL) (hls : s.length ≤ 1048576) (hzm : szM ms ≤ 1048576) (hh : hs.length ≤ 1048576) (hz : szF l ≤ 1048576) (w : World) (h : RI w S s) (h1 : RM w L ms) (h2 : RI w H hs) (h3 : RF w A l) :
    Calls Try.prog 31 #[.slice S s.length cs, .slice L ms.length cl, .agg #[.slice H hs.length ch, .slice A l.length c]] w (ListT w (blkI s ms hs l)) := by
  obtain ⟨i0, hi, hz0, hz1, hz2⟩ := info_parts int_info
  have b1 := below_alloc w (.cells #[.slice H hs.length ch, .slice A l.length c] 37)
  have b2 := below_alloc (w.alloc (.cells #[.slice H hs.length ch, .slice A l.length c] 37)) (.cells #[] 3)
  have XQ := Lib.hid ((Box.new w #[.slice H hs.length ch, .slice A l.length c] 37).step b2)
  have B0 := Lib.hid (step b1 b2)
  have OU0 := World.ownsRow_lit (base := w.heap.size + 1) (e := 3) (size := 1) (w.alloc (.cells #[.slice H hs.length ch, .slice A l.length c] 37)) #[] 0 (by simp) (by unfold maxLen; omega) rfl
  rw [al_size] at OU0
  have OU := Lib.hid OU0
  have X1 := Lib.hid (l6Fine_any S cs s L cl ms H A ch c hs l hls hzm hh hz _ (h.step B0.out) (h1.step B0.out) (h2.step B0.out) (h3.step B0.out))
  have q0 := XQ.out.cell 0
  have q1 := XQ.out.cell 1
  simp only [List.getElem?_toArray, List.getElem?_cons_zero, List.getElem?_cons_succ] at q0 q1
  have HM := Lib.hid h1
  have HF := Lib.hid h3
  clear h h1 h2 h3 b1 b2 OU0
  by_cases ha : fineB s ms hs l = true
  · have HA := Lib.hid ha
    obtain ⟨hm5, hfew, hl1⟩ := fine_of ha
    have hl4 := hfew.1
    have hl4' : (l.length : Int) ≤ 4 := by omega
    have FSL : (firstS ms l).length ≤ 4 := by have := gr_len ms l l.length; unfold firstS; omega
    have E := Lib.hid (show blkI s ms hs l = missI l.length (firstS ms l) by unfold blkI; rw [if_pos ha])
    rw [E.out]
    have XG := Lib.hid fun (W : World) (hW : Below w.heap.size w W) => l6Greedy_any L cl ms H A ch c hs l hfew hzm hm5 W (HM.out.step hW) (HF.out.step hW)
    generalize firstS ms l = fs at XG E FSL ⊢
    have FSL' : (fs.length : Int) ≤ 4 := by omega
    clear ha hfew
    go_enter Try.func31, Try.ntmps31
    go_wp2_with fail
    refine X1.out.mono ?_
    rintro e u ⟨he, d⟩
    rw [HA.out] at he
    subst he
    have D := Lib.hid (step B0.out d)
    have XQ2 := Lib.hid (XQ.out.step d)
    have OU2 := Lib.hid (ownsRow_step OU.out d)
    have q0 := XQ2.out.cell 0
    have q1 := XQ2.out.cell 1
    simp only [List.getElem?_toArray, List.getElem?_cons_zero, List.getElem?_cons_succ] at q0 q1
    clear d
    go_wp2_with fail
    refine (XG.out _ D.out).mono ?_
    rintro e u2 ⟨v, rfl, hzs, d⟩
    obtain ⟨A2, c2, rfl⟩ := hzs.form
    have D2 := Lib.hid (step D.out d)
    have XQ3 := Lib.hid (XQ2.out.step d)
    have OU3 := Lib.hid (ownsRow_step OU2.out d)
    have Z3 := Lib.hid (show ZS u2 0 (.slice A2 fs.length c2) fs from hzs.lo (Nat.zero_le _))
    clear d hzs q0 q1
    go_wp2
    go_loopw [7, 9, 10, 11] (fun o i _ _ wr => ∃ (k : Nat) (Ao : Option Addr) (co : Nat) (out : List Int), k ≤ l.length ∧ i = .int .i64 k ∧ o = .slice Ao out.length co ∧ Hid (out = missI k fs) ∧ Hid (wr.ownsRow (w.heap.size + 1) 3 1 (.slice Ao out.length co) out.length (out.map (Value.int .i64))) ∧ Hid (ZS wr 0 (.slice A2 fs.length c2) fs) ∧ Hid (Below w.heap.size w wr) ∧ Hid (Box wr w.heap.size #[.slice H hs.length ch, .slice A l.length c] 37)) (fun _ i _ _ _ => l.length - (intOf i).toNat)
    case atStart => exact ⟨0, _, 0, [], by omega, rfl, rfl, Lib.hid rfl, OU3, Z3, D2, XQ3⟩
    case round =>
      obtain ⟨k, Ao, co, out, hk, rfl, rfl, hO, hown, hzs, hb, xq⟩ := hrel
      have q1 := xq.out.cell 1
      simp only [List.getElem?_toArray, List.getElem?_cons_zero, List.getElem?_cons_succ] at q1
      have hk0 : (0 : Int) ≤ (k : Int) := by omega
      by_cases hlt : k < l.length
      · have hk1 : (k : Int) < (l.length : Int) := by omega
        go_wp2
        go_loopw [10, 11] (fun f i wx => ∃ j : Nat, j ≤ fs.length ∧ i = .int .i64 j ∧ f = .bool (usedB (fs.take j) (k : Int)) ∧ wx = wr) (fun _ i _ => fs.length - (intOf i).toNat)
        case atStart => exact ⟨0, by omega, rfl, rfl, rfl⟩
        case round =>
          obtain ⟨j, hj, rfl, rfl, rfl⟩ := hrel
          have hj0 : (0 : Int) ≤ (j : Int) := by omega
          by_cases hjt : j < fs.length
          · have hj1 : (j : Int) < (fs.length : Int) := by omega
            generalize hf : fs.getD j (0, 0) = f
            obtain ⟨a, m⟩ := f
            have US := Lib.hid (usedB_step hjt hf (k : Int))
            obtain ⟨b, off, rfl, n1, e0, e1⟩ := hzs.out.rz.at_ hjt hf
            generalize usedB (fs.take j) (k : Int) = q at US ⊢
            clear hf
            cases q
            · by_cases he : a = (k : Int)
              · have d1 : (a == (k : Int)) = true := by simpa using he
                have UT := Lib.hid (show usedB (fs.take (j + 1)) (k : Int) = true by rw [US.out, he]; simp)
                clear he
                go_wp2
                go_roundw
                case rel => exact ⟨j + 1, by omega, by go_num, by rw [UT.out], by first | rfl | trivial⟩
                case measure => simp [intOf]; omega
              · have d1 : (a == (k : Int)) = false := by simpa using he
                have UT := Lib.hid (show usedB (fs.take (j + 1)) (k : Int) = false by rw [US.out, decide_eq_false fun e => he e.symm]; rfl)
                clear he
                go_wp2
                go_roundw
                case rel => exact ⟨j + 1, by omega, by go_num, by rw [UT.out], by first | rfl | trivial⟩
                case measure => simp [intOf]; omega
            · have UT := Lib.hid (show usedB (fs.take (j + 1)) (k : Int) = true by rw [US.out]; rfl)
              go_wp2
              go_roundw
              case rel => exact ⟨j + 1, by omega, by go_num, by rw [UT.out], by first | rfl | trivial⟩
              case measure => simp [intOf]; omega
          · obtain rfl : j = fs.length := by omega
            have TA := Lib.hid (show usedB (fs.take fs.length) (k : Int) = usedB fs (k : Int) by rw [take_all])
            generalize usedB (fs.take fs.length) (k : Int) = q at TA ⊢
            have OL2 : out.length ≤ k := by rw [hO.out]; exact missI_len k fs
            cases q
            · have UF := Lib.hid TA.out.symm
              obtain ⟨out2, ho2⟩ : ∃ o, o = out ++ [(k : Int)] := ⟨_, rfl⟩
              have E2 := Lib.hid (show out2 = missI (k + 1) fs by rw [missI_yes UF.out, ← hO.out, ho2])
              have EL := Lib.hid (show out2.length = out.length + 1 by rw [ho2]; simp)
              have EM := Lib.hid (show out2.map (Value.int .i64) = out.map (Value.int .i64) ++ [.int .i64 (k : Int)] by rw [ho2]; simp)
              have SZ : w.heap.size + 1 ≤ wr.heap.size := xq.out.lt
              clear ho2
              go_wp2_with (at_builtin; refine wpList_pushI rfl _ _ _ 3 rfl i0 Try.underlying22 hi hz0 hz1 hz2 rfl rfl rfl hown.out SZ (by omega) ?_; intro v' w' hown' hg'; obtain ⟨A', c', rfl⟩ := ownsRow_form hown'
                           have ZN := Lib.hid (show ZS w' 0 (.slice A2 fs.length c2) fs from World.ownsRow.kept hzs.out hg' (own_sep' hzs.out hown.out))
                           have BN := Lib.hid (show Below w.heap.size w w' from hb.out.grown hg' (by omega) (fun q hq => by have := (hown.out.lt q hq).1; omega))
                           have XN := Lib.hid (show Box w' w.heap.size #[.slice H hs.length ch, .slice A l.length c] 37 from (hg'.block w.heap.size (by omega) (by intro e; have := (hown.out.lt _ e.symm).1; omega)).trans xq.out)
                           have ON := Lib.hid hown'
                           clear hown' hg')
              go_roundw
              case rel =>
                refine ⟨k + 1, A', c', out2, by omega, by go_num, by rw [EL.out], E2, Lib.hid ?_, ZN, BN, XN⟩
                rw [EL.out, EM.out]
                exact ON.out
              case measure => simp [intOf]; omega
            · have UF := Lib.hid TA.out.symm
              have E2 := Lib.hid (show out = missI (k + 1) fs by rw [missI_no UF.out, ← hO.out])
              go_wp2
              go_roundw
              case rel => exact ⟨k + 1, Ao, co, out, by omega, by go_num, rfl, E2, hown, hzs, hb, xq⟩
              case measure => simp [intOf]; omega
      · obtain rfl : k = l.length := by omega
        go_wp2
        go_ret
        exact ⟨_, rfl, by rw [← hO.out]; exact ownsRow_lo hown.out (by omega), hb.out⟩
  · have HA := Lib.hid (show fineB s ms hs l = false by simpa using ha)
    have E := Lib.hid (show blkI s ms hs l = [] by unfold blkI; rw [if_neg (by rw [HA.out]; decide)])
    rw [E.out]
    clear ha
    go_enter Try.func31, Try.ntmps31
    go_wp2_with fail
    refine X1.out.mono ?_
    rintro e u ⟨he, d⟩
    rw [HA.out] at he
    subst he
    have D2 := Lib.hid (step B0.out d)
    have OU2 := Lib.hid (ownsRow_step OU.out d)
    clear d
    go_wp2
    go_ret
    exact ⟨_, rfl, ownsRow_lo OU2.out (by omega), D2.out⟩
end Go.Proofs.Ytighalbnpgmdfaa

namespace Go.Proofs.Ytighalbnpgmdfaa
open Go.ChangeShapes Go.WideShapes Go.ChangeAt Go.RowKit Go.Sort
set_option linter.unusedVariables false
set_option linter.unusedSimpArgs false

/-- Has the step a method without a limit? -/
def exaA (ms : ML) (x : Int) : Bool := inB x 0 ((ms.length : Int) - 1) && decide ((ms.getD x.toNat noM).2.2.1 = 0)
def exaN (ms : ML) (p : SL) (n : Nat) : Bool := (List.range n).all fun k => exaA ms (p.getD k (0, 0)).2
theorem exaN_succ (ms : ML) (p : SL) (k : Nat) : exaN ms p (k + 1) = (exaN ms p k && exaA ms (p.getD k (0, 0)).2) := by
  unfold exaN
  rw [List.range_succ, List.all_append]
  simp
theorem exaN_not (ms : ML) (p : SL) (k n : Nat) (hk : k < n) (h : exaA ms (p.getD k (0, 0)).2 = false) : exaN ms p n = false := by
  unfold exaN
  rw [List.all_eq_false]
  exact ⟨k, by simpa using hk, by rw [h]; simp⟩

set_option maxRecDepth 100000 in
set_option maxHeartbeats 1000000 in
theorem isExact1_any (g : Nat) (A : Option Addr) (c : Nat) (ms : ML) (r x : Int) (hz : szM ms ≤ 1048576) (w : World) (h : RM w A ms) (hb : Box w g #[.slice A ms.length c] 33) :
    Calls Try.prog 171 #[.agg #[.int .i64 r, .int .i64 x], .pointer (some ⟨g, 0, none⟩)] w fun e w' => e = .returned (.bool (exaA ms x)) ∧ Below w.heap.size w w' := by
  have hl1 := szM_len hz
  have hl1' : (ms.length : Int) ≤ 1048576 := by omega
  have b0 := below_alloc w (.cells #[.int .i64 r, .int .i64 x] 68)
  have B0 := Lib.hid b0
  have X1 := (hb.step b0).cell 0
  have gn := hb.lt
  simp only [List.getElem?_toArray, List.getElem?_cons_zero, List.getElem?_cons_succ] at X1
  have HI := Lib.hid (h.step b0)
  clear h hb b0
  by_cases hin : inB x 0 ((ms.length : Int) - 1) = true
  · have HN := Lib.hid hin
    obtain ⟨m, rfl, hm⟩ := inB_nat hin
    generalize hg : ms.getD m noM = g2
    obtain ⟨r2, xs, li, co, qu⟩ := g2
    have HG := Lib.hid hg
    obtain ⟨b2, off2, B, c2, rfl, nb, g0, g1, g2, g3, g4, _, _, _⟩ := HI.out.at_ hm hg
    have hm0 : (0 : Int) ≤ (m : Int) := by omega
    have hm1 : (m : Int) < (ms.length : Int) := by omega
    have E := Lib.hid (show exaA ms (m : Int) = (li == 0) by unfold exaA; rw [Int.toNat_natCast, HG.out, HN.out, Bool.eq_iff_iff]; simp)
    rw [E.out]
    clear hin hg
    go_enter Try.func171, Try.ntmps171
    go_wp2_with fail
    refine (hasMethod_any _ c ms.length (m : Int) hl1 _).mono ?_
    rintro e w' ⟨he, rfl⟩
    rw [HN.out] at he
    subst he
    go_wp2
    go_ret
    exact ⟨rfl, B0.out⟩
  · have HN := Lib.hid (show inB x 0 ((ms.length : Int) - 1) = false by simpa using hin)
    rw [show exaA ms x = false by unfold exaA; rw [HN.out]; rfl]
    clear hin
    go_enter Try.func171, Try.ntmps171
    go_wp2_with fail
    refine (hasMethod_any _ c ms.length x hl1 _).mono ?_
    rintro e w' ⟨he, rfl⟩
    rw [HN.out] at he
    subst he
    go_wp2
    go_ret
    exact ⟨rfl, B0.out⟩

set_option maxRecDepth 100000 in
set_option maxHeartbeats 1000000 in
theorem areAllX_any (g : Nat) (A' : Option Addr) (c' : Nat) (ms : ML) (A : Option Addr) (c : Nat) (l : SL) (hz : szM ms ≤ 1048576) (hl : l.length ≤ 1048576) (w : World) (h' : RM w A' ms) (h : RZ w A l) (hg : Box w g #[.slice A' ms.length c'] 33) :
    Calls Try.prog 172 #[.slice A l.length c, .func (.func 171) #[] #[.pointer (some ⟨g, 0, none⟩)]] w fun e w' => e = .returned (.bool (exaN ms l l.length)) ∧ Below w.heap.size w w' := by
  have hl' : (l.length : Int) ≤ 1048576 := by omega
  have HI := Lib.hid h
  have HM := Lib.hid h'
  have HG := Lib.hid hg
  clear h h' hg
  go_enter Try.func172, Try.ntmps172
  go_wp2
  go_loopw [6, 9] (fun _ i wr => ∃ k : Nat, k ≤ l.length ∧ i = .int .i64 k ∧ exaN ms l k = true ∧ Hid (Below w.heap.size w wr)) (fun _ i _ => l.length - (intOf i).toNat)
  case atStart => exact ⟨0, by omega, rfl, rfl, Lib.hid (Below.refl _ _)⟩
  case round =>
    obtain ⟨k, hk, rfl, ha, hb⟩ := hrel
    have HA := Lib.hid ha
    clear ha
    by_cases hlt : k < l.length
    · generalize hf : l.getD k (0, 0) = f
      obtain ⟨r, x⟩ := f
      obtain ⟨b, off, rfl, n1, e0, e1⟩ := (HI.out.step hb.out).at_ hlt hf
      have hk0 : (0 : Int) ≤ (k : Int) := by omega
      have hk1 : (k : Int) < (l.length : Int) := by omega
      have ba := below_alloc wr (.cells #[.int .i64 r, .int .i64 x] 68)
      have B2 := Lib.hid (step hb.out ba)
      have XC := Lib.hid (isExact1_any g A' c' ms r x hz _ (HM.out.step B2.out) (HG.out.step B2.out))
      generalize hq : exaA ms x = q at XC
      have HF := Lib.hid (show exaA ms (l.getD k (0, 0)).2 = q by rw [hf, hq])
      clear hf hq ba
      go_wp2_with fail
      refine XC.out.mono ?_
      rintro e u ⟨rfl, d⟩
      have hb2 := step B2.out d
      clear d
      cases q
      · go_wp2
        go_ret
        exact ⟨ret_bool (exaN_not ms l k _ hlt HF.out).symm, hb2⟩
      · go_wp2
        go_roundw
        case rel => exact ⟨k + 1, by omega, by go_num, by rw [exaN_succ, HA.out, HF.out]; rfl, Lib.hid hb2⟩
        case measure => simp [intOf]; omega
    · obtain rfl : k = l.length := by omega
      go_wp2
      go_ret
      exact ⟨ret_bool HA.out.symm, hb.out⟩

set_option maxRecDepth 100000 in
set_option maxHeartbeats 1000000 in
theorem impl_IsExact (A : Option Addr) (c : Nat) (ms : ML) (A' : Option Addr) (c' : Nat) (l : SL) (hz : szM ms ≤ 1048576) (hl : l.length ≤ 1048576) (w : World) (h : RM w A ms) (h' : RZ w A' l) :
    Calls Try.prog 153 #[.slice A ms.length c, .slice A' l.length c'] w fun e w' => e = .returned (.bool (exaN ms l l.length)) ∧ Below w.heap.size w w' := by
  have B0 := Lib.hid (below_alloc w (.cells #[.slice A ms.length c] 33))
  have X0 := Lib.hid (Box.new w #[.slice A ms.length c] 33)
  have XA := Lib.hid (areAllX_any w.heap.size A c ms A' c' l hz hl _ (h.step B0.out) (h'.step B0.out) X0.out)
  clear h h'
  go_enter Try.func153, Try.ntmps153
  go_wp2_with fail
  refine XA.out.mono ?_
  rintro e u ⟨rfl, d⟩
  have D := Lib.hid (step B0.out d)
  clear d
  go_wp2
  go_ret
  exact ⟨rfl, D.out⟩
end Go.Proofs.Ytighalbnpgmdfaa

namespace Go.Proofs.Ytighalbnpgmdfaa
open Go.ChangeShapes Go.WideShapes Go.ChangeAt Go.RowKit Go.Sort
set_option linter.unusedVariables false
set_option linter.unusedSimpArgs false

/-- The methods, of which those with a limit are for no relation. -/
def exO (m : Met) : Met := if m.2.2.1 = 0 then m else (-1, m.2)
def exM (ms : ML) : ML := ms.map exO
theorem exM_len (ms : ML) : (exM ms).length = ms.length := by simp [exM]
theorem exM_at (ms : ML) {k : Nat} (hk : k < ms.length) : (exM ms).getD k noM = exO (ms.getD k noM) := by
  unfold exM
  simp [List.getD_eq_getElem?_getD, hk]
theorem exM_snoc (ms : ML) {k : Nat} (hk : k < ms.length) {m : Met} (hf : ms.getD k noM = m) : exM (ms.take (k + 1)) = exM (ms.take k) ++ [exO m] := by
  unfold exM
  rw [List.take_succ_eq_append_getElem hk, List.map_append]
  have : ms[k] = m := by rw [← hf]; simp [List.getD_eq_getElem?_getD, hk]
  rw [this]
  rfl
theorem exO_inp (m : Met) : (exO m).2 = m.2 := by unfold exO; split <;> rfl
theorem szM_ex (ms : ML) : szM (exM ms) = szM ms := by
  unfold szM
  rw [exM_len]
  congr 2
  induction ms with
  | nil => rfl
  | cons m ms ih =>
    show sumM (exO m :: exM ms) = _
    simp only [sumM, List.map_cons, List.sum_cons] at ih ⊢
    rw [ih, exO_inp]
/-- No atom has the relation -1. -/
def PosA (l : FL) : Prop := ∀ k, k < l.length → 0 ≤ (l.getD k noF).1
theorem posA_of {s hs : List Int} {l : FL} (h : queryB s hs l = true) : PosA l := fun k hk => by
  unfold queryB at h
  simp only [Bool.and_eq_true] at h
  have h1 := h.1.1.1.1
  unfold atomsB at h1
  rw [List.all_eq_true] at h1
  have h6 := h1 l[k] (List.getElem_mem _)
  have e : l.getD k noF = l[k] := by simp [List.getD_eq_getElem?_getD, hk]
  rw [e]
  unfold atom.factB at h6
  simp only [Bool.and_eq_true, decide_eq_true_eq, inB] at h6
  omega
theorem posA_fine {s : List Int} {ms : ML} {hs : List Int} {l : FL} (h : fineB s ms hs l = true) : PosA l := by
  unfold fineB at h
  rw [Bool.and_eq_true] at h
  exact posA_of h.2
theorem exa_at {ms : ML} {k : Nat} (hk : k < ms.length) {r li co qu : Int} {inp : List Int} (hf : ms.getD k noM = (r, inp, li, co, qu)) : exaA ms (k : Int) = decide (li = 0) := by
  unfold exaA
  rw [Int.toNat_natCast, hf]
  have : inB (k : Int) 0 ((ms.length : Int) - 1) = true := by unfold inB; simp; omega
  rw [this]
  rfl
theorem canM_ex {ms : ML} {k : Nat} (hk : k < ms.length) {r li co qu ra : Int} {inp ts : List Int} (hf : ms.getD k noM = (r, inp, li, co, qu)) (ha : 0 ≤ ra) (bd : List Int) : canM ((exM ms).getD k noM) (ra, ts) bd = (exaA ms (k : Int) && canB r inp ra ts bd) := by
  rw [exM_at ms hk, exa_at hk hf, hf]
  unfold exO
  by_cases h : li = 0
  · rw [if_pos h, decide_eq_true h]
    rfl
  · rw [if_neg h, decide_eq_false h]
    show canB (-1) inp ra ts bd = false
    unfold canB
    rw [decide_eq_false (by omega)]
    rfl

/-- The steps of a greedy order have atoms of their own. -/
def OnceP (p : SL) : Prop := ∀ k, k < p.length → usedB (p.take k) (p.getD k (0, 0)).1 = false
theorem OnceP.nil : OnceP [] := fun k h => by simp at h
theorem OnceP.snoc {p : SL} (h : OnceP p) {st : Int × Int} (hu : usedB p st.1 = false) : OnceP (p ++ [st]) := fun k hk => by
  rw [List.length_append, List.length_singleton] at hk
  rcases Nat.lt_or_ge k p.length with h1 | h1
  · have e : (p ++ [st]).getD k (0, 0) = p.getD k (0, 0) := by simp [List.getD_eq_getElem?_getD, List.getElem?_append_left h1]
    rw [e, List.take_append_of_le_length (by omega)]
    exact h k h1
  · have hk2 : k = p.length := by omega
    subst hk2
    have e : (p ++ [st]).getD p.length (0, 0) = st := by simp [List.getD_eq_getElem?_getD]
    rw [e, List.take_append_of_le_length (Nat.le_refl _), List.take_length]
    exact hu
theorem gr_once (ms : ML) (l : FL) : ∀ k, OnceP (gr ms l k)
  | 0 => OnceP.nil
  | k + 1 => by
    have ih := gr_once ms l k
    show OnceP (stepG ms l (gr ms l k))
    rcases h : nextS ms l (gr ms l k) with _ | ⟨⟨a, m⟩, r⟩
    · rw [stepG_stuck h]; exact ih
    · rw [stepG_cons h]
      have h2 := (nextS_mem ms l _ a m).1 (by rw [h]; simp)
      unfold stepOk at h2
      simp only [Bool.and_eq_true, Bool.not_eq_true'] at h2
      exact ih.snoc h2.1.1.2

/-- The atoms that have a step. -/
def keepN (l : FL) (p : SL) (n : Nat) : FL := ((List.range n).filter fun i : Nat => usedB p (i : Int)).map fun i => l.getD i noF
theorem keepN_yes {l : FL} {p : SL} {n : Nat} (h : usedB p (n : Int) = true) : keepN l p (n + 1) = keepN l p n ++ [l.getD n noF] := by
  unfold keepN
  rw [List.range_succ, List.filter_append, List.map_append]
  simp [h]
theorem keepN_no {l : FL} {p : SL} {n : Nat} (h : usedB p (n : Int) = false) : keepN l p (n + 1) = keepN l p n := by
  unfold keepN
  rw [List.range_succ, List.filter_append, List.map_append]
  simp [h]
theorem keepN_len (l : FL) (p : SL) (n : Nat) : (keepN l p n).length ≤ n := by
  unfold keepN
  have := List.length_filter_le (fun i : Nat => usedB p (i : Int)) (List.range n)
  simpa using this
theorem keepN_few {l : FL} (h : FewA l) (p : SL) {n : Nat} (hn : n ≤ l.length) : ∀ f ∈ keepN l p n, f.2.length ≤ 3 := by
  intro f hf
  unfold keepN at hf
  simp only [List.mem_map, List.mem_filter, List.mem_range] at hf
  obtain ⟨i, ⟨hi, _⟩, rfl⟩ := hf
  exact h.2 i (by omega)
theorem keepN_sz {l : FL} (h : FewA l) (p : SL) {n : Nat} (hn : n ≤ l.length) : szF (keepN l p n) ≤ 16 := by
  have h1 := sumN_few _ (keepN_few h p hn)
  have h2 := keepN_len l p n
  have h3 := h.1
  unfold szF
  omega
def partL (ms : ML) (l : FL) : FL := keepN l (firstS (exM ms) l) l.length
def partB (s : List Int) (ms : ML) (hs : List Int) (l : FL) : Bool := fineB s ms hs l && queryB s hs (partL ms l)
def partH (s : List Int) (ms : ML) (hs : List Int) (l : FL) : List Int := if partB s ms hs l then hs else []
def partF (s : List Int) (ms : ML) (hs : List Int) (l : FL) : FL := if partB s ms hs l then partL ms l else []
theorem miss_has (n : Nat) (p : SL) {i : Nat} (hi : i < n) : decide ((i : Int) ∈ missI n p) = !usedB p (i : Int) := by
  rw [Bool.eq_iff_iff, decide_eq_true_eq]
  unfold missI
  rw [List.mem_map]
  constructor
  · rintro ⟨j, hj, e⟩
    have : j = i := by omega
    subst this
    rw [(miss_mem.1 hj).2]
    rfl
  · intro h
    exact ⟨i, miss_mem.2 ⟨hi, by simpa using h⟩, rfl⟩
theorem partF_sz {s : List Int} {ms : ML} {hs : List Int} {l : FL} : szF (partF s ms hs l) ≤ 16 := by
  unfold partF
  split
  · rename_i h
    unfold partB at h
    rw [Bool.and_eq_true] at h
    exact keepN_sz (fine_of h.1).2.1 _ (Nat.le_refl _)
  · show szF [] ≤ 16
    decide
theorem partH_len {s : List Int} {ms : ML} {hs : List Int} {l : FL} : (partH s ms hs l).length ≤ hs.length := by
  unfold partH
  split
  · exact Nat.le_refl _
  · simp
end Go.Proofs.Ytighalbnpgmdfaa

namespace Go.Proofs.Ytighalbnpgmdfaa
open Go.ChangeShapes Go.WideShapes Go.ChangeAt Go.RowKit
set_option linter.unusedVariables false
set_option linter.unusedSimpArgs false

section
variable {H : Type} {enc : TypeId × Value → H} {w : World}
end

/-- How many values a binding holds. -/
def szB (hs l : List Int) : Int := (hs.length : Int) + (l.length : Int)

/-- A binding of the call's own: its variables in block g, its values in block g + 1. -/
def BX (w : World) (g : Nat) (hs l : List Int) : Prop := Row w g hs ∧ Row w (g + 1) l
theorem BX.step {w w' : World} {g : Nat} {hs l : List Int} (h : BX w g hs l) (b : Below w.heap.size w w') : BX w' g hs l :=
  ⟨h.1.of_block (b.block _ (World.rowIs.lt h.1)), h.2.of_block (b.block _ (World.rowIs.lt h.2))⟩
theorem BX.ri {w : World} {g : Nat} {hs l : List Int} (h : BX w g hs l) : RI w (some ⟨g, 0, none⟩) hs := h.1.ri
theorem BX.rv {w : World} {g : Nat} {hs l : List Int} (h : BX w g hs l) : RI w (some ⟨g + 1, 0, none⟩) l := h.2.ri

end Go.Proofs.Ytighalbnpgmdfaa
