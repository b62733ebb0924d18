/- What the two functions IsExact answer. Conditions: none beyond each theorem's own. -/
import Derived.Test.YtcgmdleefaplfaaOC
namespace Go.Proofs.Ytcgmdleefaplfaa
open Go.ChangeShapes Go.WideShapes Go.ChangeAt Go.RowKit Go.Sort
set_option linter.unusedVariables false
set_option linter.unusedSimpArgs false

/-- Has the step a method without a limit? -/
def exaA (ms : ML) (x : Int) : Bool := inB x 0 ((ms.length : Int) - 1) && decide ((ms.getD x.toNat noM).2.2.1 = 0)
def exaN (ms : ML) (p : SL) (n : Nat) : Bool := (List.range n).all fun k => exaA ms (p.getD k (0, 0)).2
theorem exaN_succ (ms : ML) (p : SL) (k : Nat) : exaN ms p (k + 1) = (exaN ms p k && exaA ms (p.getD k (0, 0)).2) := by
  unfold exaN
  rw [List.range_succ, List.all_append]
  simp
theorem exaN_not (ms : ML) (p : SL) (k n : Nat) (hk : k < n) (h : exaA ms (p.getD k (0, 0)).2 = false) : exaN ms p n = false := by
  unfold exaN
  rw [List.all_eq_false]
  exact ⟨k, by simpa using hk, by rw [h]; simp⟩

set_option maxRecDepth 100000 in
set_option maxHeartbeats 1000000 in
theorem spec_IsExact (A : Option Addr) (c : Nat) (ms : ML) (A' : Option Addr) (c' : Nat) (l : SL) (hz : szM ms ≤ 1048576) (hl : l.length ≤ 1048576) (w : World) (h : RM w A ms) (h' : RZ w A' l) :
    Calls Try.prog 26 #[.slice A ms.length c, .slice A' l.length c'] w fun e w' => e = .returned (.bool (exaN ms l l.length)) ∧ Below w.heap.size w w' := by
  have hl1 := szM_len hz
  have hl1' : (ms.length : Int) ≤ 1048576 := by omega
  have hl' : (l.length : Int) ≤ 1048576 := by omega
  have HI := Lib.hid h
  have HJ := Lib.hid h'
  clear h h'
  go_enter Try.func26, Try.ntmps26
  go_wp2
  go_loopw [5] (fun i wr => ∃ (k : Nat), k ≤ l.length ∧ i = .int .i64 k ∧ Hid (exaN ms l k = true) ∧ Hid (Below w.heap.size w wr)) (fun i _ => l.length - (intOf i).toNat)
  case atStart => exact ⟨0, by omega, rfl, Lib.hid rfl, Lib.hid (Below.refl _ _)⟩
  case round =>
    obtain ⟨k, hk, rfl, ha, hb⟩ := hrel
    by_cases hlt : k < l.length
    · generalize hf : l.getD k (0, 0) = f
      obtain ⟨r, x⟩ := f
      have HF := Lib.hid (show (l.getD k (0, 0)).2 = x by rw [hf])
      obtain ⟨b, off, rfl, hb1, e0, e1⟩ := (HJ.out.step hb.out).at_ hlt hf
      clear hf
      have hk0 : (0 : Int) ≤ (k : Int) := by omega
      have hk1 : (k : Int) < (l.length : Int) := by omega
      by_cases hin : inB x 0 ((ms.length : Int) - 1) = true
      · have HN := Lib.hid hin
        obtain ⟨m, rfl, hm⟩ := inB_nat hin
        generalize hg : ms.getD m noM = g
        obtain ⟨r2, xs, li, co, qu⟩ := g
        have HG := Lib.hid hg
        obtain ⟨b2, off2, B, c2, rfl, nb, g0, g1, g2, g3, g4, _, _, _⟩ := (HI.out.step hb.out).at_ hm hg
        have hm0 : (0 : Int) ≤ (m : Int) := by omega
        have hm1 : (m : Int) < (ms.length : Int) := by omega
        clear hin hg
        by_cases hc : li = 0
        · subst hc
          have HC := Lib.hid (show exaA ms (l.getD k (0, 0)).2 = true by rw [HF.out]; unfold exaA; rw [Int.toNat_natCast, HG.out, HN.out]; rfl)
          go_wp2_with fail
          refine (l1In_any (m : Int) 0 ((ms.length : Int) - 1) _).mono ?_
          rintro e w' ⟨he, rfl⟩
          rw [HN.out] at he
          subst he
          go_wp2
          go_roundw
          case rel => exact ⟨k + 1, by omega, by go_num, Lib.hid (by rw [exaN_succ, ha.out, HC.out]; rfl), hb⟩
          case measure => simp [intOf]; omega
        · have O := Lib.hid (exaN_not ms l k _ hlt (show exaA ms (l.getD k (0, 0)).2 = false by rw [HF.out]; unfold exaA; rw [Int.toNat_natCast, HG.out]; simp [hc]))
          have d1 : (li == 0) = false := by simpa using hc
          have d2 : (li != 0) = true := by simpa using hc
          go_wp2_with fail
          refine (l1In_any (m : Int) 0 ((ms.length : Int) - 1) _).mono ?_
          rintro e w' ⟨he, rfl⟩
          rw [HN.out] at he
          subst he
          go_wp2
          go_ret
          exact ⟨ret_bool O.out.symm, hb.out⟩
      · have HN := Lib.hid (show inB x 0 ((ms.length : Int) - 1) = false by simpa using hin)
        have O := Lib.hid (exaN_not ms l k _ hlt (show exaA ms (l.getD k (0, 0)).2 = false by rw [HF.out]; unfold exaA; rw [HN.out]; rfl))
        clear hin
        go_wp2_with fail
        refine (l1In_any x 0 ((ms.length : Int) - 1) _).mono ?_
        rintro e w' ⟨he, rfl⟩
        rw [HN.out] at he
        subst he
        go_wp2
        go_ret
        exact ⟨ret_bool O.out.symm, hb.out⟩
    · obtain rfl : k = l.length := by omega
      go_wp2
      go_ret
      exact ⟨ret_bool ha.out.symm, hb.out⟩

set_option maxRecDepth 100000 in
set_option maxHeartbeats 1000000 in
theorem isExact1_any (g : Nat) (A : Option Addr) (c : Nat) (ms : ML) (r x : Int) (hz : szM ms ≤ 1048576) (w : World) (h : RM w A ms) (hb : Box w g #[.slice A ms.length c] 32) :
    Calls Try.prog 68 #[.agg #[.int .i64 r, .int .i64 x], .pointer (some ⟨g, 0, none⟩)] w fun e w' => e = .returned (.bool (exaA ms x)) ∧ Below w.heap.size w w' := by
  have hl1 := szM_len hz
  have hl1' : (ms.length : Int) ≤ 1048576 := by omega
  have b0 := below_alloc w (.cells #[.int .i64 r, .int .i64 x] 94)
  have B0 := Lib.hid b0
  have X1 := (hb.step b0).cell 0
  have gn := hb.lt
  simp only [List.getElem?_toArray, List.getElem?_cons_zero, List.getElem?_cons_succ] at X1
  have HI := Lib.hid (h.step b0)
  clear h hb b0
  by_cases hin : inB x 0 ((ms.length : Int) - 1) = true
  · have HN := Lib.hid hin
    obtain ⟨m, rfl, hm⟩ := inB_nat hin
    generalize hg : ms.getD m noM = g2
    obtain ⟨r2, xs, li, co, qu⟩ := g2
    have HG := Lib.hid hg
    obtain ⟨b2, off2, B, c2, rfl, nb, g0, g1, g2, g3, g4, _, _, _⟩ := HI.out.at_ hm hg
    have hm0 : (0 : Int) ≤ (m : Int) := by omega
    have hm1 : (m : Int) < (ms.length : Int) := by omega
    have E := Lib.hid (show exaA ms (m : Int) = (li == 0) by unfold exaA; rw [Int.toNat_natCast, HG.out, HN.out, Bool.eq_iff_iff]; simp)
    rw [E.out]
    clear hin hg
    go_enter Try.func68, Try.ntmps68
    go_wp2_with fail
    refine (hasMethod_any _ c ms.length (m : Int) hl1 _).mono ?_
    rintro e w' ⟨he, rfl⟩
    rw [HN.out] at he
    subst he
    go_wp2
    go_ret
    exact ⟨rfl, B0.out⟩
  · have HN := Lib.hid (show inB x 0 ((ms.length : Int) - 1) = false by simpa using hin)
    rw [show exaA ms x = false by unfold exaA; rw [HN.out]; rfl]
    clear hin
    go_enter Try.func68, Try.ntmps68
    go_wp2_with fail
    refine (hasMethod_any _ c ms.length x hl1 _).mono ?_
    rintro e w' ⟨he, rfl⟩
    rw [HN.out] at he
    subst he
    go_wp2
    go_ret
    exact ⟨rfl, B0.out⟩

set_option maxRecDepth 100000 in
set_option maxHeartbeats 1000000 in
theorem areAllX_any (g : Nat) (A' : Option Addr) (c' : Nat) (ms : ML) (A : Option Addr) (c : Nat) (l : SL) (hz : szM ms ≤ 1048576) (hl : l.length ≤ 1048576) (w : World) (h' : RM w A' ms) (h : RZ w A l) (hg : Box w g #[.slice A' ms.length c'] 32) :
    Calls Try.prog 69 #[.slice A l.length c, .func (.func 68) #[] #[.pointer (some ⟨g, 0, none⟩)]] w fun e w' => e = .returned (.bool (exaN ms l l.length)) ∧ Below w.heap.size w w' := by
  have hl' : (l.length : Int) ≤ 1048576 := by omega
  have HI := Lib.hid h
  have HM := Lib.hid h'
  have HG := Lib.hid hg
  clear h h' hg
  go_enter Try.func69, Try.ntmps69
  go_wp2
  go_loopw [6, 9] (fun _ i wr => ∃ k : Nat, k ≤ l.length ∧ i = .int .i64 k ∧ exaN ms l k = true ∧ Hid (Below w.heap.size w wr)) (fun _ i _ => l.length - (intOf i).toNat)
  case atStart => exact ⟨0, by omega, rfl, rfl, Lib.hid (Below.refl _ _)⟩
  case round =>
    obtain ⟨k, hk, rfl, ha, hb⟩ := hrel
    have HA := Lib.hid ha
    clear ha
    by_cases hlt : k < l.length
    · generalize hf : l.getD k (0, 0) = f
      obtain ⟨r, x⟩ := f
      obtain ⟨b, off, rfl, n1, e0, e1⟩ := (HI.out.step hb.out).at_ hlt hf
      have hk0 : (0 : Int) ≤ (k : Int) := by omega
      have hk1 : (k : Int) < (l.length : Int) := by omega
      have ba := below_alloc wr (.cells #[.int .i64 r, .int .i64 x] 94)
      have B2 := Lib.hid (step hb.out ba)
      have XC := Lib.hid (isExact1_any g A' c' ms r x hz _ (HM.out.step B2.out) (HG.out.step B2.out))
      generalize hq : exaA ms x = q at XC
      have HF := Lib.hid (show exaA ms (l.getD k (0, 0)).2 = q by rw [hf, hq])
      clear hf hq ba
      go_wp2_with fail
      refine XC.out.mono ?_
      rintro e u ⟨rfl, d⟩
      have hb2 := step B2.out d
      clear d
      cases q
      · go_wp2
        go_ret
        exact ⟨ret_bool (exaN_not ms l k _ hlt HF.out).symm, hb2⟩
      · go_wp2
        go_roundw
        case rel => exact ⟨k + 1, by omega, by go_num, by rw [exaN_succ, HA.out, HF.out]; rfl, Lib.hid hb2⟩
        case measure => simp [intOf]; omega
    · obtain rfl : k = l.length := by omega
      go_wp2
      go_ret
      exact ⟨ret_bool HA.out.symm, hb.out⟩

set_option maxRecDepth 100000 in
set_option maxHeartbeats 1000000 in
theorem impl_IsExact (A : Option Addr) (c : Nat) (ms : ML) (A' : Option Addr) (c' : Nat) (l : SL) (hz : szM ms ≤ 1048576) (hl : l.length ≤ 1048576) (w : World) (h : RM w A ms) (h' : RZ w A' l) :
    Calls Try.prog 28 #[.slice A ms.length c, .slice A' l.length c'] w fun e w' => e = .returned (.bool (exaN ms l l.length)) ∧ Below w.heap.size w w' := by
  have B0 := Lib.hid (below_alloc w (.cells #[.slice A ms.length c] 32))
  have X0 := Lib.hid (Box.new w #[.slice A ms.length c] 32)
  have XA := Lib.hid (areAllX_any w.heap.size A c ms A' c' l hz hl _ (h.step B0.out) (h'.step B0.out) X0.out)
  clear h h'
  go_enter Try.func28, Try.ntmps28
  go_wp2_with fail
  refine XA.out.mono ?_
  rintro e u ⟨rfl, d⟩
  have D := Lib.hid (step B0.out d)
  clear d
  go_wp2
  go_ret
  exact ⟨rfl, D.out⟩
end Go.Proofs.Ytcgmdleefaplfaa
