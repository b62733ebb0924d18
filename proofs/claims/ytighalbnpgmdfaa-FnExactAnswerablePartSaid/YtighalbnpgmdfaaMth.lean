/- What the model's IsMethod answers. Conditions: none beyond each theorem's own. -/
import Derived.Test.YtighalbnpgmdfaaMethL
namespace Go.Proofs.Ytighalbnpgmdfaa
open Go.ChangeShapes Go.WideShapes Go.ChangeAt Go.RowKit Go.Sort
set_option linter.unusedVariables false
set_option linter.unusedSimpArgs false

/-- Is number k of the list a position below a, and greater than the one before? -/
def inpAt (a : Int) (xs : List Int) (k : Nat) : Bool := inB (xs.getD k 0) 0 (a - 1) && (decide (k = 0) || decide (xs.getD (k - 1) 0 < xs.getD k 0))
def inpN (a : Int) (xs : List Int) (n : Nat) : Bool := (List.range n).all (inpAt a xs)
theorem inpN_succ (a : Int) (xs : List Int) (k : Nat) : inpN a xs (k + 1) = (inpN a xs k && inpAt a xs k) := by
  unfold inpN
  rw [List.range_succ, List.all_append]
  simp
theorem inpN_not (a : Int) (xs : List Int) (k n : Nat) (hk : k < n) (h : inpAt a xs k = false) : inpN a xs n = false := by
  unfold inpN
  rw [List.all_eq_false]
  exact ⟨k, by simpa using hk, by simp [h]⟩
def inpB (a : Int) (xs : List Int) : Bool := inpN a xs xs.length
/-- Are limit, cost and quota in range? -/
def numB (li co qu : Int) : Bool := inB li 0 9 && inB co 0 99 && inB qu 1 99
/-- Is it a method of the schema? -/
def methB (s : List Int) (r : Int) (xs : List Int) (li co qu : Int) : Bool := schB s && inB r 0 ((s.length : Int) - 1) && numB li co qu && inpB (s.getD r.toNat 0) xs

theorem schB_at {s : List Int} (h : schB s = true) {k : Nat} (hk : k < s.length) : 1 ≤ s.getD k 0 ∧ s.getD k 0 ≤ 3 := by
  unfold schB at h
  simp only [Bool.and_eq_true] at h
  have h1 := h.1
  unfold allB at h1
  rw [List.all_eq_true] at h1
  have h2 := h1 (s.getD k 0) (by
    rw [List.getD_eq_getElem?_getD, List.getElem?_eq_getElem hk]
    exact List.getElem_mem hk)
  simpa [inB] using h2

set_option maxHeartbeats 2000000 in
set_option maxRecDepth 100000 in
theorem spec_IsMethod_no (S : Option Addr) (cs : Nat) (s : List Int) (r : Int) (xs : List Int) (li co qu : Int) (A : Option Addr) (c : Nat) (hno : (schB s && inB r 0 ((s.length : Int) - 1) && inB li 0 9 && inB co 0 99 && inB qu 1 99) = false) (hls : s.length ≤ 1048576) (hl : xs.length ≤ 1048576) (w : World) (h : RI w S s) (h' : RI w A xs) :
    Calls Try.prog 127 #[.slice S s.length cs, .agg #[.int .i64 r, .slice A xs.length c, .int .i64 li, .int .i64 co, .int .i64 qu]] w fun e w' => e = .returned (.bool (methB s r xs li co qu)) ∧ Below w.heap.size w w' := by
  have hs' : (s.length : Int) ≤ 1048576 := by omega
  have hx' : (xs.length : Int) ≤ 1048576 := by omega
  have bb := below_alloc w (.cells #[.int .i64 r, .slice A xs.length c, .int .i64 li, .int .i64 co, .int .i64 qu] 71)
  have HI := Lib.hid (h.step bb)
  have HJ := Lib.hid (h'.step bb)
  have HB0 := Lib.hid bb
  clear h h' bb
  by_cases c0 : schB s = true
  rotate_left
  · have C0 := Lib.hid (show schB s = false by simpa using c0)
    have EH := Lib.hid (show methB s r xs li co qu = false by simp [methB, numB, C0.out])
    clear c0
    go_enter Try.func127, Try.ntmps127
    go_wp2_with fail
    refine (spec_IsSchema _ _ S cs s (by omega) _ HI.out).mono ?_
    rintro e w0 ⟨he, rfl⟩
    rw [C0.out] at he
    subst he
    go_wp2
    go_ret
    exact ⟨ret_bool EH.out.symm, HB0.out⟩
  have C0 := Lib.hid c0
  clear c0
  by_cases c1 : inB r 0 ((s.length : Int) - 1) = true
  rotate_left
  · have C1 := Lib.hid (show inB r 0 ((s.length : Int) - 1) = false by simpa using c1)
    have EH := Lib.hid (show methB s r xs li co qu = false by simp [methB, numB, C1.out])
    clear c1
    go_enter Try.func127, Try.ntmps127
    go_wp2_with fail
    refine (spec_IsSchema _ _ S cs s (by omega) _ HI.out).mono ?_
    rintro e w0 ⟨he, rfl⟩
    rw [C0.out] at he
    subst he
    go_wp2_with fail
    refine (l1In_any r 0 ((s.length : Int) - 1) _).mono ?_
    rintro e w1 ⟨he, rfl⟩
    rw [C1.out] at he
    subst he
    go_wp2
    go_ret
    exact ⟨ret_bool EH.out.symm, HB0.out⟩
  have C1 := Lib.hid c1
  have hr : 0 ≤ r ∧ r ≤ (s.length : Int) - 1 := by simpa [inB] using c1
  clear c1
  by_cases c2 : inB li 0 9 = true
  rotate_left
  · have C2 := Lib.hid (show inB li 0 9 = false by simpa using c2)
    have EH := Lib.hid (show methB s r xs li co qu = false by simp [methB, numB, C2.out])
    clear c2
    go_enter Try.func127, Try.ntmps127
    go_wp2_with fail
    refine (spec_IsSchema _ _ S cs s (by omega) _ HI.out).mono ?_
    rintro e w0 ⟨he, rfl⟩
    rw [C0.out] at he
    subst he
    go_wp2_with fail
    refine (l1In_any r 0 ((s.length : Int) - 1) _).mono ?_
    rintro e w1 ⟨he, rfl⟩
    rw [C1.out] at he
    subst he
    go_wp2_with fail
    refine (l1In_any li 0 9 _).mono ?_
    rintro e w2 ⟨he, rfl⟩
    rw [C2.out] at he
    subst he
    go_wp2
    go_ret
    exact ⟨ret_bool EH.out.symm, HB0.out⟩
  have C2 := Lib.hid c2
  clear c2
  by_cases c3 : inB co 0 99 = true
  rotate_left
  · have C3 := Lib.hid (show inB co 0 99 = false by simpa using c3)
    have EH := Lib.hid (show methB s r xs li co qu = false by simp [methB, numB, C3.out])
    clear c3
    go_enter Try.func127, Try.ntmps127
    go_wp2_with fail
    refine (spec_IsSchema _ _ S cs s (by omega) _ HI.out).mono ?_
    rintro e w0 ⟨he, rfl⟩
    rw [C0.out] at he
    subst he
    go_wp2_with fail
    refine (l1In_any r 0 ((s.length : Int) - 1) _).mono ?_
    rintro e w1 ⟨he, rfl⟩
    rw [C1.out] at he
    subst he
    go_wp2_with fail
    refine (l1In_any li 0 9 _).mono ?_
    rintro e w2 ⟨he, rfl⟩
    rw [C2.out] at he
    subst he
    go_wp2_with fail
    refine (l1In_any co 0 99 _).mono ?_
    rintro e w3 ⟨he, rfl⟩
    rw [C3.out] at he
    subst he
    go_wp2
    go_ret
    exact ⟨ret_bool EH.out.symm, HB0.out⟩
  have C3 := Lib.hid c3
  clear c3
  by_cases c4 : inB qu 1 99 = true
  rotate_left
  · have C4 := Lib.hid (show inB qu 1 99 = false by simpa using c4)
    have EH := Lib.hid (show methB s r xs li co qu = false by simp [methB, numB, C4.out])
    clear c4
    go_enter Try.func127, Try.ntmps127
    go_wp2_with fail
    refine (spec_IsSchema _ _ S cs s (by omega) _ HI.out).mono ?_
    rintro e w0 ⟨he, rfl⟩
    rw [C0.out] at he
    subst he
    go_wp2_with fail
    refine (l1In_any r 0 ((s.length : Int) - 1) _).mono ?_
    rintro e w1 ⟨he, rfl⟩
    rw [C1.out] at he
    subst he
    go_wp2_with fail
    refine (l1In_any li 0 9 _).mono ?_
    rintro e w2 ⟨he, rfl⟩
    rw [C2.out] at he
    subst he
    go_wp2_with fail
    refine (l1In_any co 0 99 _).mono ?_
    rintro e w3 ⟨he, rfl⟩
    rw [C3.out] at he
    subst he
    go_wp2_with fail
    refine (l1In_any qu 1 99 _).mono ?_
    rintro e w4 ⟨he, rfl⟩
    rw [C4.out] at he
    subst he
    go_wp2
    go_ret
    exact ⟨ret_bool EH.out.symm, HB0.out⟩
  have C4 := Lib.hid c4
  clear c4
  exfalso
  simp only [C0.out, C1.out, C2.out, C3.out, C4.out] at hno
  simp at hno

set_option maxHeartbeats 2000000 in
set_option maxRecDepth 100000 in
theorem spec_IsMethod_yes (S : Option Addr) (cs : Nat) (s : List Int) (r : Int) (xs : List Int) (li co qu : Int) (A : Option Addr) (c : Nat) (c0 : schB s = true) (c1 : inB r 0 ((s.length : Int) - 1) = true) (c2 : inB li 0 9 = true) (c3 : inB co 0 99 = true) (c4 : inB qu 1 99 = true) (hls : s.length ≤ 1048576) (hl : xs.length ≤ 1048576) (w : World) (h : RI w S s) (h' : RI w A xs) :
    Calls Try.prog 127 #[.slice S s.length cs, .agg #[.int .i64 r, .slice A xs.length c, .int .i64 li, .int .i64 co, .int .i64 qu]] w fun e w' => e = .returned (.bool (methB s r xs li co qu)) ∧ Below w.heap.size w w' := by
  have hs' : (s.length : Int) ≤ 1048576 := by omega
  have hx' : (xs.length : Int) ≤ 1048576 := by omega
  have bb := below_alloc w (.cells #[.int .i64 r, .slice A xs.length c, .int .i64 li, .int .i64 co, .int .i64 qu] 71)
  have HI := Lib.hid (h.step bb)
  have HJ := Lib.hid (h'.step bb)
  have HB0 := Lib.hid bb
  clear h h' bb
  have C0 := Lib.hid c0
  have C1 := Lib.hid c1
  have C2 := Lib.hid c2
  have C3 := Lib.hid c3
  have C4 := Lib.hid c4
  have hr : 0 ≤ r ∧ r ≤ (s.length : Int) - 1 := by simpa [inB] using c1
  clear c0 c1 c2 c3 c4
  obtain ⟨k, rfl⟩ := Int.eq_ofNat_of_zero_le hr.1
  have hk : k < s.length := by omega
  have hk0 : (0 : Int) ≤ (k : Int) := by omega
  have hk1 : (k : Int) < (s.length : Int) := by omega
  have hy := schB_at C0.out hk
  generalize ha : s.getD k 0 = a at hy
  have EH := Lib.hid (show methB s (k : Int) xs li co qu = inpB a xs by simp only [methB, numB, C0.out, C1.out, C2.out, C3.out, C4.out, Int.toNat_natCast, ha, Bool.true_and])
  obtain ⟨b, off, rfl, nb, hcell⟩ := HI.out.at_ hk
  have HW := Lib.hid (show IntKind.i64.wrap (a - 1) = a - 1 from IntWalk.i64_in _ ⟨by omega, by omega⟩)
  have HAA := Lib.hid ha
  have XG := Lib.hid (Box.new w #[.int .i64 (k : Int), .slice A xs.length c, .int .i64 li, .int .i64 co, .int .i64 qu] 71)
  clear ha hr hcell
  go_enter Try.func127, Try.ntmps127
  go_wp2_with fail
  refine (spec_IsSchema _ _ _ cs s (by omega) _ HI.out).mono ?_
  rintro e w0 ⟨he, rfl⟩
  rw [C0.out] at he
  subst he
  go_wp2_with fail
  refine (l1In_any (k : Int) 0 ((s.length : Int) - 1) _).mono ?_
  rintro e w1 ⟨he, rfl⟩
  rw [C1.out] at he
  subst he
  go_wp2_with fail
  refine (l1In_any li 0 9 _).mono ?_
  rintro e w2 ⟨he, rfl⟩
  rw [C2.out] at he
  subst he
  go_wp2_with fail
  refine (l1In_any co 0 99 _).mono ?_
  rintro e w3 ⟨he, rfl⟩
  rw [C3.out] at he
  subst he
  go_wp2_with fail
  refine (l1In_any qu 1 99 _).mono ?_
  rintro e w4 ⟨he, rfl⟩
  rw [C4.out] at he
  subst he
  go_wp2
  go_loopw [5] (fun i wr => ∃ j : Nat, j ≤ xs.length ∧ i = .int .i64 j ∧ inpN a xs j = true ∧ Hid (Below (w.alloc (.cells #[.int .i64 (k : Int), .slice A xs.length c, .int .i64 li, .int .i64 co, .int .i64 qu] 71)).heap.size (w.alloc (.cells #[.int .i64 (k : Int), .slice A xs.length c, .int .i64 li, .int .i64 co, .int .i64 qu] 71)) wr)) (fun i _ => xs.length - (intOf i).toNat)
  case atStart => exact ⟨0, by omega, rfl, rfl, Lib.hid (Below.refl _ _)⟩
  case round =>
    obtain ⟨j, hj, rfl, ha, hb⟩ := hrel
    have g0 := (XG.out.step hb.out).cell 0
    have g1 := (XG.out.step hb.out).cell 1
    simp only [List.getElem?_toArray, List.getElem?_cons_zero, List.getElem?_cons_succ] at g0 g1
    have gn := (XG.out.step hb.out).lt
    obtain ⟨b4, off4, hbb4, nb4, hcell⟩ := (HI.out.step hb.out).at_ hk
    injection hbb4 with hbb4
    injection hbb4 with hb41 hb42
    subst hb41 hb42
    rw [HAA.out] at hcell
    have HA := Lib.hid ha
    clear ha
    by_cases hlt : j < xs.length
    · obtain ⟨b2, off2, rfl, nb2, hc2⟩ := (HJ.out.step hb.out).at_ hlt
      generalize hx : xs.getD j 0 = x at hc2
      have HX := Lib.hid hx
      clear hx
      have hj0 : (0 : Int) ≤ (j : Int) := by omega
      have hj1 : (j : Int) < (xs.length : Int) := by omega
      have X1 := Lib.hid fun W => left_same (l1In_any x 0 (a - 1) W)
      by_cases hin : inB x 0 (a - 1) = true
      · have HN := Lib.hid hin
        rw [HN.out] at X1
        clear hin
        by_cases h0 : j = 0
        · have IA := Lib.hid (show inpAt a xs j = true by unfold inpAt; rw [HX.out, HN.out, decide_eq_true h0]; rfl)
          have d0 : decide ((0 : Int) < (j : Int)) = false := by simp; omega
          have d0' : ¬ ((0 : Int) < (j : Int)) := by omega
          have d0n : decide (0 < j) = false := by simp; omega
          have d0m : ¬ (0 < j) := by omega
          clear h0
          go_wp2
          go_quiet ((first | (go_at_call 49; with_reducible exact Calls.quiet_of_same (X1.out _))))
          go_wp2
          go_roundw
          case rel => exact ⟨j + 1, by omega, by go_num, by rw [inpN_succ, HA.out, IA.out]; rfl, Lib.hid (below_drewN hb.out _)⟩
          case measure => simp [intOf]; omega
        · have hp : j - 1 < xs.length := by omega
          obtain ⟨b3, off3, hbb, _, hc3⟩ := (HJ.out.step hb.out).at_ hp
          injection hbb with hbb
          injection hbb with hb1 hb2
          subst hb1 hb2
          generalize hx' : xs.getD (j - 1) 0 = x' at hc3
          have HX' := Lib.hid hx'
          clear hx'
          have J0 := Lib.hid h0
          have d0 : decide ((0 : Int) < (j : Int)) = true := by simp; omega
          have d0' : (0 : Int) < (j : Int) := by omega
          have d0n : decide (0 < j) = true := by simp; omega
          have q0 : IntKind.i64.wrap ((j : Int) - 1) = (j : Int) - 1 := IntWalk.i64_in _ ⟨by omega, by omega⟩
          have q1 : (0 : Int) ≤ (j : Int) - 1 := by omega
          have q1' : (1 : Int) ≤ (j : Int) := by omega
          have q2 : ((j : Int) - 1).toNat = j - 1 := by omega
          have q3 : (j : Int) - 1 < (xs.length : Int) := by omega
          have q5 : j ≤ xs.length := by omega
          clear h0
          by_cases hlt2 : x' < x
          · have d4 : decide (x ≤ x') = false := by simp; omega
            have d4' : ¬ (x ≤ x') := by omega
            have IA := Lib.hid (show inpAt a xs j = true by unfold inpAt; rw [HX.out, HX'.out, HN.out, decide_eq_true hlt2]; simp)
            clear hlt2
            go_wp2
            go_quiet ((first | (go_at_call 49; with_reducible exact Calls.quiet_of_same (X1.out _))))
            clear q0 q2
            go_wp2
            go_roundw
            case rel => exact ⟨j + 1, by omega, by go_num, by rw [inpN_succ, HA.out, IA.out]; rfl, Lib.hid (below_drewN hb.out _)⟩
            case measure => simp [intOf]; omega
          · have d4 : decide (x ≤ x') = true := by simp; omega
            have d4' : x ≤ x' := by omega
            have IA := Lib.hid (show inpAt a xs j = false by unfold inpAt; rw [HX.out, HX'.out, HN.out, decide_eq_false hlt2, decide_eq_false J0.out]; rfl)
            clear hlt2
            go_wp2
            go_quiet ((first | (go_at_call 49; with_reducible exact Calls.quiet_of_same (X1.out _))))
            go_wp2
            go_ret
            exact ⟨ret_bool (by rw [EH.out]; exact (inpN_not a xs j _ hlt IA.out).symm), step HB0.out (below_drewN hb.out _)⟩
      · have HN := Lib.hid (show inB x 0 (a - 1) = false by simpa using hin)
        rw [HN.out] at X1
        clear hin
        have IA := Lib.hid (show inpAt a xs j = false by unfold inpAt; rw [HX.out, HN.out]; rfl)
        go_wp2
        go_quiet ((first | (go_at_call 49; with_reducible exact Calls.quiet_of_same (X1.out _))))
        go_wp2
        go_ret
        exact ⟨ret_bool (by rw [EH.out]; exact (inpN_not a xs j _ hlt IA.out).symm), step HB0.out (below_drewN hb.out _)⟩
    · obtain rfl : j = xs.length := by omega
      go_wp2
      go_ret
      exact ⟨ret_bool (by rw [EH.out]; exact HA.out.symm), step HB0.out hb.out⟩

theorem spec_IsMethod (S : Option Addr) (cs : Nat) (s : List Int) (r : Int) (xs : List Int) (li co qu : Int) (A : Option Addr) (c : Nat) (hls : s.length ≤ 1048576) (hl : xs.length ≤ 1048576) (w : World) (h : RI w S s) (h' : RI w A xs) :
    Calls Try.prog 127 #[.slice S s.length cs, .agg #[.int .i64 r, .slice A xs.length c, .int .i64 li, .int .i64 co, .int .i64 qu]] w fun e w' => e = .returned (.bool (methB s r xs li co qu)) ∧ Below w.heap.size w w' := by
  cases hg : (schB s && inB r 0 ((s.length : Int) - 1) && inB li 0 9 && inB co 0 99 && inB qu 1 99)
  · exact spec_IsMethod_no S cs s r xs li co qu A c hg hls hl w h h'
  · simp only [Bool.and_eq_true] at hg
    exact spec_IsMethod_yes S cs s r xs li co qu A c hg.1.1.1.1 hg.1.1.1.2 hg.1.1.2 hg.1.2 hg.2 hls hl w h h'
end Go.Proofs.Ytighalbnpgmdfaa
