/- What the two functions AreMethods answer. Conditions: none beyond each theorem's own. -/
import Derived.Test.YtighalbnpgmdfaaMthI
namespace Go.Proofs.Ytighalbnpgmdfaa
open Go.ChangeShapes Go.WideShapes Go.ChangeAt Go.RowKit Go.Sort
set_option linter.unusedVariables false
set_option linter.unusedSimpArgs false

def metB (s : List Int) (m : Met) : Bool := methB s m.1 m.2.1 m.2.2.1 m.2.2.2.1 m.2.2.2.2
/-- Are the first n of the list methods of the schema? -/
def allM (s : List Int) (l : ML) (n : Nat) : Bool := (List.range n).all fun k => metB s (l.getD k noM)
theorem allM_succ (s : List Int) (l : ML) (k : Nat) : allM s l (k + 1) = (allM s l k && metB s (l.getD k noM)) := by
  unfold allM
  rw [List.range_succ, List.all_append]
  simp
theorem allM_not (s : List Int) (l : ML) (k n : Nat) (hk : k < n) (h : metB s (l.getD k noM) = false) : allM s l n = false := by
  unfold allM
  rw [List.all_eq_false]
  exact ⟨k, by simpa using hk, by rw [h]; simp⟩
def aremB (s : List Int) (l : ML) : Bool := allM s l l.length && schB s && decide (l.length ≤ 5)

set_option maxHeartbeats 1000000 in
set_option maxRecDepth 100000 in
theorem spec_AreMethods (S : Option Addr) (cs : Nat) (s : List Int) (A : Option Addr) (c : Nat) (l : ML) (hls : s.length ≤ 1048576) (hz : szM l ≤ 1048576) (w : World) (h : RI w S s) (h' : RM w A l) :
    Calls Try.prog 90 #[.slice S s.length cs, .slice A l.length c] w fun e w' => e = .returned (.bool (aremB s l)) ∧ Below w.heap.size w w' := by
  have hl := szM_len hz
  have hl' : (l.length : Int) ≤ 1048576 := by omega
  have hs' : (s.length : Int) ≤ 1048576 := by omega
  have HI := Lib.hid h
  have HJ := Lib.hid h'
  clear h h'
  go_enter Try.func90, Try.ntmps90
  go_wp2
  go_loopw [5] (fun i wr => ∃ k : Nat, k ≤ l.length ∧ i = .int .i64 k ∧ allM s l k = true ∧ Hid (Below w.heap.size w wr)) (fun i _ => l.length - (intOf i).toNat)
  case atStart => exact ⟨0, by omega, rfl, rfl, Lib.hid (Below.refl _ _)⟩
  case round =>
    obtain ⟨k, hk, rfl, ha, hb⟩ := hrel
    have HA := Lib.hid ha
    clear ha
    by_cases hlt : k < l.length
    · generalize hf : l.getD k noM = f
      obtain ⟨r, xs, li, co, qu⟩ := f
      have HF := Lib.hid (show metB s (l.getD k noM) = methB s r xs li co qu by rw [hf]; rfl)
      have hxl : xs.length ≤ 1048576 := by have := szM_elem hz hlt; rw [hf] at this; exact this
      obtain ⟨b, off, B, c2, rfl, n1, e0, e1, e2, e3, e4, _, _, hI⟩ := (HJ.out.step hb.out).at_ hlt hf
      have XC := Lib.hid (spec_IsMethod S cs s r xs li co qu B c2 hls hxl wr (HI.out.step hb.out) hI)
      generalize methB s r xs li co qu = res at XC HF
      clear hf hI
      have hk0 : (0 : Int) ≤ (k : Int) := by omega
      have hk1 : (k : Int) < (l.length : Int) := by omega
      go_wp2_with fail
      refine XC.out.mono ?_
      rintro e u ⟨rfl, d⟩
      have hb2 := step hb.out d
      clear d
      cases res
      · go_wp2
        go_ret
        exact ⟨ret_bool (by unfold aremB; rw [allM_not s l k _ hlt HF.out]; rfl), hb2⟩
      · go_wp2
        go_roundw
        case rel => exact ⟨k + 1, by omega, by go_num, by rw [allM_succ, HA.out, HF.out]; rfl, Lib.hid hb2⟩
        case measure => simp [intOf]; omega
    · obtain rfl : k = l.length := by omega
      have XC := Lib.hid (spec_IsSchema _ _ S cs s (by omega) wr (HI.out.step hb.out))
      have EH := Lib.hid (show aremB s l = (schB s && decide (l.length ≤ 5)) by unfold aremB; rw [HA.out]; rfl)
      generalize schB s = res at XC EH
      go_wp2_with fail
      refine XC.out.mono ?_
      rintro e u ⟨rfl, rfl⟩
      cases res
      · go_wp2
        go_ret
        exact ⟨ret_bool (by rw [EH.out]; rfl), hb.out⟩
      · go_wp2
        go_ret
        exact ⟨ret_bool (by rw [EH.out, Bool.eq_iff_iff]; simp; omega), hb.out⟩

set_option maxHeartbeats 1000000 in
set_option maxRecDepth 100000 in
theorem areMethods1_any (g : Nat) (S : Option Addr) (cs : Nat) (s : List Int) (r : Int) (xs : List Int) (li co qu : Int) (A : Option Addr) (c : Nat) (hls : s.length ≤ 1048576) (hl : xs.length ≤ 1048576) (w : World) (h : RI w S s) (h' : RI w A xs) (hb : Box w g #[.slice S s.length cs] 22) :
    Calls Try.prog 128 #[.agg #[.int .i64 r, .slice A xs.length c, .int .i64 li, .int .i64 co, .int .i64 qu], .pointer (some ⟨g, 0, none⟩)] w fun e w' => e = .returned (.bool (methB s r xs li co qu)) ∧ Below w.heap.size w w' := by
  have B0 := Lib.hid (below_alloc w (.cells #[.int .i64 r, .slice A xs.length c, .int .i64 li, .int .i64 co, .int .i64 qu] 71))
  have XC := Lib.hid (impl_IsMethod S cs s r xs li co qu A c hls hl _ (h.step B0.out) (h'.step B0.out))
  have X1 := (hb.step B0.out).cell 0
  have gn := hb.lt
  simp only [List.getElem?_toArray, List.getElem?_cons_zero, List.getElem?_cons_succ] at X1
  clear h h' hb
  go_enter Try.func128, Try.ntmps128
  go_wp2_with fail
  refine XC.out.mono ?_
  rintro e u ⟨rfl, d⟩
  have D := Lib.hid (step B0.out d)
  clear d
  go_wp2
  go_ret
  exact ⟨rfl, D.out⟩

set_option maxHeartbeats 1000000 in
set_option maxRecDepth 100000 in
theorem areAllM_any (g : Nat) (S : Option Addr) (cs : Nat) (s : List Int) (A : Option Addr) (c : Nat) (l : ML) (hls : s.length ≤ 1048576) (hz : szM l ≤ 1048576) (w : World) (h : RI w S s) (h' : RM w A l) (hg : Box w g #[.slice S s.length cs] 22) :
    Calls Try.prog 131 #[.slice A l.length c, .func (.func 128) #[] #[.pointer (some ⟨g, 0, none⟩)]] w fun e w' => e = .returned (.bool (allM s l l.length)) ∧ Below w.heap.size w w' := by
  have hl := szM_len hz
  have hl' : (l.length : Int) ≤ 1048576 := by omega
  have HI := Lib.hid h
  have HJ := Lib.hid h'
  have HG := Lib.hid hg
  clear h h' hg
  go_enter Try.func131, Try.ntmps131
  go_wp2
  go_loopw [6, 9] (fun _ i wr => ∃ k : Nat, k ≤ l.length ∧ i = .int .i64 k ∧ allM s l k = true ∧ Hid (Below w.heap.size w wr)) (fun _ i _ => l.length - (intOf i).toNat)
  case atStart => exact ⟨0, by omega, rfl, rfl, Lib.hid (Below.refl _ _)⟩
  case round =>
    obtain ⟨k, hk, rfl, ha, hb⟩ := hrel
    have HA := Lib.hid ha
    clear ha
    by_cases hlt : k < l.length
    · generalize hf : l.getD k noM = f
      obtain ⟨r, xs, li, co, qu⟩ := f
      have HF := Lib.hid (show metB s (l.getD k noM) = methB s r xs li co qu by rw [hf]; rfl)
      have hxl : xs.length ≤ 1048576 := by have := szM_elem hz hlt; rw [hf] at this; exact this
      obtain ⟨b, off, B, c2, rfl, n1, e0, e1, e2, e3, e4, _, _, hI⟩ := (HJ.out.step hb.out).at_ hlt hf
      have bv := below_alloc wr (.cells #[.int .i64 r, .slice B xs.length c2, .int .i64 li, .int .i64 co, .int .i64 qu] 71)
      have XC := Lib.hid (areMethods1_any g S cs s r xs li co qu B c2 hls hxl _ ((HI.out.step hb.out).step bv) (hI.step bv) ((HG.out.step hb.out).step bv))
      generalize methB s r xs li co qu = res at XC HF
      clear hf hI bv
      have hk0 : (0 : Int) ≤ (k : Int) := by omega
      have hk1 : (k : Int) < (l.length : Int) := by omega
      go_wp2_with fail
      refine XC.out.mono ?_
      rintro e u ⟨rfl, d⟩
      have hb2 := step hb.out (below_new d)
      clear d
      cases res
      · go_wp2
        go_ret
        exact ⟨ret_bool (allM_not s l k _ hlt HF.out).symm, hb2⟩
      · go_wp2
        go_roundw
        case rel => exact ⟨k + 1, by omega, by go_num, by rw [allM_succ, HA.out, HF.out]; rfl, Lib.hid hb2⟩
        case measure => simp [intOf]; omega
    · obtain rfl : k = l.length := by omega
      go_wp2
      go_ret
      exact ⟨ret_bool HA.out.symm, hb.out⟩

set_option maxHeartbeats 1000000 in
set_option maxRecDepth 100000 in
theorem impl_AreMethods (S : Option Addr) (cs : Nat) (s : List Int) (A : Option Addr) (c : Nat) (l : ML) (hls : s.length ≤ 1048576) (hz : szM l ≤ 1048576) (w : World) (h : RI w S s) (h' : RM w A l) :
    Calls Try.prog 94 #[.slice S s.length cs, .slice A l.length c] w fun e w' => e = .returned (.bool (aremB s l)) ∧ Below w.heap.size w w' := by
  have hl := szM_len hz
  have hl' : (l.length : Int) ≤ 1048576 := by omega
  have B0 := Lib.hid (below_alloc w (.cells #[.slice S s.length cs] 22))
  have X0 := Lib.hid (Box.new w #[.slice S s.length cs] 22)
  have XS := Lib.hid (impl_IsSchema _ _ S cs s (by omega) _ (h.step B0.out))
  have XA := Lib.hid (areAllM_any w.heap.size S cs s A c l hls hz _ (h.step B0.out) (h'.step B0.out) X0.out)
  clear h h'
  by_cases c0 : schB s = true
  · have C0 := Lib.hid c0
    rw [c0] at XS
    clear c0
    by_cases c1 : l.length ≤ 5
    · have EH := Lib.hid (show aremB s l = allM s l l.length by simp [aremB, C0.out, c1])
      have d1 : decide (l.length ≤ 5) = true := by simpa using c1
      have d2 : (l.length : Int) ≤ 5 := by omega
      have d3 : decide ((l.length : Int) ≤ 5) = true := by simpa using d2
      generalize allM s l l.length = res at XA EH
      go_enter Try.func94, Try.ntmps94
      go_wp2_with fail
      refine XS.out.mono ?_
      rintro e u ⟨rfl, rfl⟩
      go_wp2_with fail
      refine XA.out.mono ?_
      rintro e u ⟨rfl, d⟩
      have D := Lib.hid (step B0.out d)
      clear d
      go_wp2
      go_ret
      exact ⟨ret_bool EH.out.symm, D.out⟩
    · have EH := Lib.hid (show aremB s l = false by simp [aremB, c1])
      have d1 : decide (l.length ≤ 5) = false := by simpa using c1
      have d2 : ¬ (l.length : Int) ≤ 5 := by omega
      have d3 : decide ((l.length : Int) ≤ 5) = false := by simpa using d2
      go_enter Try.func94, Try.ntmps94
      go_wp2_with fail
      refine XS.out.mono ?_
      rintro e u ⟨rfl, rfl⟩
      go_wp2
      go_ret
      exact ⟨ret_bool EH.out.symm, B0.out⟩
  · have c0' : schB s = false := by simpa using c0
    have EH := Lib.hid (show aremB s l = false by simp [aremB, c0'])
    rw [c0'] at XS
    clear c0 c0'
    go_enter Try.func94, Try.ntmps94
    go_wp2_with fail
    refine XS.out.mono ?_
    rintro e u ⟨rfl, rfl⟩
    go_wp2
    go_ret
    exact ⟨ret_bool EH.out.symm, B0.out⟩
end Go.Proofs.Ytighalbnpgmdfaa
