/- The text of a method; what the model's FormatMethod answers. Conditions: none beyond each theorem's own. -/
import Derived.Test.YtenondgjipmhnaaDoorFmtAc
import Derived.Test.YtenondgjipmhnaaDoorMthI
import Derived.Test.YtenondgjipmhnaaDoorFmt
namespace Go.Proofs.YtenondgjipmhnaaDoor
open Go.ChangeShapes Go.WideShapes Go.ChangeAt Go.RowKit Go.Sort
set_option linter.unusedVariables false
set_option linter.unusedSimpArgs false

theorem itoa_len {n : Int} (h0 : 0 ≤ n) (h1 : n ≤ 99) : (Lib.itoa n).length ≤ 2 := by
  obtain ⟨u, rfl⟩ := Int.eq_ofNat_of_zero_le h0
  by_cases hz : u = 0
  · subst hz
    rw [Lib.itoa, if_neg (by omega), Int.toNat_natCast, Lib.decDigits_one (by omega)]
    simp
  · rw [Lib.itoa, if_neg (by omega), Int.toNat_natCast, ← dd0_pos hz]
    exact dd0_len 2 u (by omega)
theorem inp_ge {a : Int} {xs : List Int} (h : inpB a xs = true) : ∀ k, k < xs.length → (k : Int) ≤ xs.getD k 0 := by
  unfold inpB inpN at h
  rw [List.all_eq_true] at h
  intro k
  induction k with
  | zero =>
    intro hk
    have h1 := h 0 (by simpa using hk)
    unfold inpAt inB at h1
    simp at h1
    have := h1.1
    simp
    omega
  | succ k ih =>
    intro hk
    have h2 := ih (by omega)
    have h1 := h (k + 1) (by simpa using hk)
    unfold inpAt at h1
    rw [Bool.and_eq_true, Bool.or_eq_true] at h1
    rcases h1.2 with h3 | h3
    · simp at h3
    · have h4 := of_decide_eq_true h3
      rw [Nat.add_sub_cancel] at h4
      omega
theorem inp_three {xs : List Int} (h : inpB 3 xs = true) : xs.length ≤ 3 ∧ allB 0 9 xs = true := by
  have hr : ∀ k, k < xs.length → 0 ≤ xs.getD k 0 ∧ xs.getD k 0 ≤ 2 := fun k hk => by
    unfold inpB inpN at h
    rw [List.all_eq_true] at h
    have h1 := h k (by simpa using hk)
    unfold inpAt at h1
    rw [Bool.and_eq_true] at h1
    simpa [inB] using h1.1
  constructor
  · rcases Nat.lt_or_ge 3 xs.length with h3 | h3
    · have h1 := inp_ge h 3 h3
      have h2 := hr 3 h3
      omega
    · exact h3
  · unfold allB
    rw [List.all_eq_true]
    intro x hx
    obtain ⟨k, hk, rfl⟩ := List.getElem_of_mem hx
    have h2 := hr k hk
    have e : xs.getD k 0 = xs[k] := by simp [List.getD_eq_getElem?_getD, hk]
    rw [e] at h2
    simp [inB]
    omega

/-- Has the method a text? -/
def fmOk (r : Int) (xs : List Int) (li co qu : Int) : Bool := inB r 0 2 && numB li co qu && inpB 3 xs
/-- The inputs' text. -/
def inpT (xs : List Int) : List UInt8 := if xs = [] then [102, 114, 101, 101] else commaL xs
/-- The text of a method out of its parts. -/
def catM (r t a b c : List UInt8) : List UInt8 := [114] ++ r ++ [32, 105, 110, 32] ++ t ++ [32, 108, 105, 109, 105, 116, 32] ++ a ++ [32, 99, 111, 115, 116, 32] ++ b ++ [32, 113, 117, 111, 116, 97, 32] ++ c
def fmtM (r : Int) (xs : List Int) (li co qu : Int) : ByteArray := if fmOk r xs li co qu = true then ⟨(catM (Lib.itoa r) (inpT xs) (Lib.itoa li) (Lib.itoa co) (Lib.itoa qu)).toArray⟩ else ⟨#[]⟩
theorem fmtM_yes {r : Int} {xs : List Int} {li co qu : Int} (h : fmOk r xs li co qu = true) : fmtM r xs li co qu = ⟨(catM (Lib.itoa r) (inpT xs) (Lib.itoa li) (Lib.itoa co) (Lib.itoa qu)).toArray⟩ := if_pos h
theorem fmtM_no {r : Int} {xs : List Int} {li co qu : Int} (h : fmOk r xs li co qu = false) : fmtM r xs li co qu = ⟨#[]⟩ := if_neg (by simp [h])
theorem fm_cat (r t a b c : List UInt8) : (⟨#[114]⟩ : ByteArray) ++ ⟨r.toArray⟩ ++ ⟨#[32, 105, 110, 32]⟩ ++ ⟨t.toArray⟩ ++ ⟨#[32, 108, 105, 109, 105, 116, 32]⟩ ++ ⟨a.toArray⟩ ++ ⟨#[32, 99, 111, 115, 116, 32]⟩ ++ ⟨b.toArray⟩ ++ ⟨#[32, 113, 117, 111, 116, 97, 32]⟩ ++ ⟨c.toArray⟩ = ⟨(catM r t a b c).toArray⟩ := by
  rw [show (⟨#[114]⟩ : ByteArray) = ⟨[114].toArray⟩ from rfl, show (⟨#[32, 105, 110, 32]⟩ : ByteArray) = ⟨[32, 105, 110, 32].toArray⟩ from rfl, show (⟨#[32, 108, 105, 109, 105, 116, 32]⟩ : ByteArray) = ⟨[32, 108, 105, 109, 105, 116, 32].toArray⟩ from rfl,
    show (⟨#[32, 99, 111, 115, 116, 32]⟩ : ByteArray) = ⟨[32, 99, 111, 115, 116, 32].toArray⟩ from rfl, show (⟨#[32, 113, 117, 111, 116, 97, 32]⟩ : ByteArray) = ⟨[32, 113, 117, 111, 116, 97, 32].toArray⟩ from rfl]
  simp only [ba_append]
  rfl

set_option maxHeartbeats 2000000 in
set_option maxRecDepth 100000 in
theorem spec_FormatMethod_no (r : Int) (xs : List Int) (li co qu : Int) (A : Option Addr) (c : Nat) (hno : (inB r 0 2 && inB li 0 9 && inB co 0 99 && inB qu 1 99) = false) (hl : xs.length ≤ 1048576) (w : World) (h : RI w A xs) :
    Calls Tryd.prog 6 #[.agg #[.int .i64 r, .slice A xs.length c, .int .i64 li, .int .i64 co, .int .i64 qu]] w fun e w' => e = .returned (.string (fmtM r xs li co qu)) ∧ Below w.heap.size w w' := by
  have hx' : (xs.length : Int) ≤ 1048576 := by omega
  have bb := below_alloc w (.cells #[.int .i64 r, .slice A xs.length c, .int .i64 li, .int .i64 co, .int .i64 qu] 27)
  have HJ := Lib.hid (h.step bb)
  have HB0 := Lib.hid bb
  clear h bb
  by_cases c0 : inB r 0 2 = true
  rotate_left
  · have C0 := Lib.hid (show inB r 0 2 = false by simpa using c0)
    have EH := Lib.hid (show fmtM r xs li co qu = ⟨#[]⟩ from fmtM_no (by simp [fmOk, numB, C0.out]))
    clear c0
    go_enter Tryd.func6, Tryd.ntmps6
    go_wp2_with fail
    refine (l1In_any r 0 2 _).mono ?_
    rintro e w0 ⟨he, rfl⟩
    rw [C0.out] at he
    subst he
    go_wp2
    go_ret
    exact ⟨ret_str EH.out.symm, HB0.out⟩
  have C0 := Lib.hid c0
  clear c0
  by_cases c1 : inB li 0 9 = true
  rotate_left
  · have C1 := Lib.hid (show inB li 0 9 = false by simpa using c1)
    have EH := Lib.hid (show fmtM r xs li co qu = ⟨#[]⟩ from fmtM_no (by simp [fmOk, numB, C1.out]))
    clear c1
    go_enter Tryd.func6, Tryd.ntmps6
    go_wp2_with fail
    refine (l1In_any r 0 2 _).mono ?_
    rintro e w0 ⟨he, rfl⟩
    rw [C0.out] at he
    subst he
    go_wp2_with fail
    refine (l1In_any li 0 9 _).mono ?_
    rintro e w1 ⟨he, rfl⟩
    rw [C1.out] at he
    subst he
    go_wp2
    go_ret
    exact ⟨ret_str EH.out.symm, HB0.out⟩
  have C1 := Lib.hid c1
  clear c1
  by_cases c2 : inB co 0 99 = true
  rotate_left
  · have C2 := Lib.hid (show inB co 0 99 = false by simpa using c2)
    have EH := Lib.hid (show fmtM r xs li co qu = ⟨#[]⟩ from fmtM_no (by simp [fmOk, numB, C2.out]))
    clear c2
    go_enter Tryd.func6, Tryd.ntmps6
    go_wp2_with fail
    refine (l1In_any r 0 2 _).mono ?_
    rintro e w0 ⟨he, rfl⟩
    rw [C0.out] at he
    subst he
    go_wp2_with fail
    refine (l1In_any li 0 9 _).mono ?_
    rintro e w1 ⟨he, rfl⟩
    rw [C1.out] at he
    subst he
    go_wp2_with fail
    refine (l1In_any co 0 99 _).mono ?_
    rintro e w2 ⟨he, rfl⟩
    rw [C2.out] at he
    subst he
    go_wp2
    go_ret
    exact ⟨ret_str EH.out.symm, HB0.out⟩
  have C2 := Lib.hid c2
  clear c2
  by_cases c3 : inB qu 1 99 = true
  rotate_left
  · have C3 := Lib.hid (show inB qu 1 99 = false by simpa using c3)
    have EH := Lib.hid (show fmtM r xs li co qu = ⟨#[]⟩ from fmtM_no (by simp [fmOk, numB, C3.out]))
    clear c3
    go_enter Tryd.func6, Tryd.ntmps6
    go_wp2_with fail
    refine (l1In_any r 0 2 _).mono ?_
    rintro e w0 ⟨he, rfl⟩
    rw [C0.out] at he
    subst he
    go_wp2_with fail
    refine (l1In_any li 0 9 _).mono ?_
    rintro e w1 ⟨he, rfl⟩
    rw [C1.out] at he
    subst he
    go_wp2_with fail
    refine (l1In_any co 0 99 _).mono ?_
    rintro e w2 ⟨he, rfl⟩
    rw [C2.out] at he
    subst he
    go_wp2_with fail
    refine (l1In_any qu 1 99 _).mono ?_
    rintro e w3 ⟨he, rfl⟩
    rw [C3.out] at he
    subst he
    go_wp2
    go_ret
    exact ⟨ret_str EH.out.symm, HB0.out⟩
  have C3 := Lib.hid c3
  clear c3
  exfalso
  simp only [C0.out, C1.out, C2.out, C3.out] at hno
  simp at hno

set_option maxHeartbeats 4000000 in
set_option maxRecDepth 100000 in
theorem spec_FormatMethod_yes (r : Int) (xs : List Int) (li co qu : Int) (A : Option Addr) (c : Nat) (c0 : inB r 0 2 = true) (c1 : inB li 0 9 = true) (c2 : inB co 0 99 = true) (c3 : inB qu 1 99 = true) (hl : xs.length ≤ 1048576) (w : World) (h : RI w A xs) :
    Calls Tryd.prog 6 #[.agg #[.int .i64 r, .slice A xs.length c, .int .i64 li, .int .i64 co, .int .i64 qu]] w fun e w' => e = .returned (.string (fmtM r xs li co qu)) ∧ Below w.heap.size w w' := by
  have hx' : (xs.length : Int) ≤ 1048576 := by omega
  have bb := below_alloc w (.cells #[.int .i64 r, .slice A xs.length c, .int .i64 li, .int .i64 co, .int .i64 qu] 27)
  have HJ := Lib.hid (h.step bb)
  have HB0 := Lib.hid bb
  clear h bb
  have C0 := Lib.hid c0
  have C1 := Lib.hid c1
  have C2 := Lib.hid c2
  have C3 := Lib.hid c3
  have R0 : 0 ≤ r ∧ r ≤ 2 := by simpa [inB] using c0
  have R1 : 0 ≤ li ∧ li ≤ 9 := by simpa [inB] using c1
  have R2 : 0 ≤ co ∧ co ≤ 99 := by simpa [inB] using c2
  have R3 : 1 ≤ qu ∧ qu ≤ 99 := by simpa [inB] using c3
  have HR := Lib.hid (⟨R0, R1, R2, R3⟩ : (0 ≤ r ∧ r ≤ 2) ∧ (0 ≤ li ∧ li ≤ 9) ∧ (0 ≤ co ∧ co ≤ 99) ∧ (1 ≤ qu ∧ qu ≤ 99))
  have EH := Lib.hid (show fmOk r xs li co qu = inpB 3 xs by simp [fmOk, numB, c0, c1, c2, c3])
  have XG := Lib.hid (Box.new w #[.int .i64 r, .slice A xs.length c, .int .i64 li, .int .i64 co, .int .i64 qu] 27)
  clear c0 c1 c2 c3 R0 R1 R2 R3
  go_enter Tryd.func6, Tryd.ntmps6
  go_wp2_with fail
  refine (l1In_any r 0 2 _).mono ?_
  rintro e w0 ⟨he, rfl⟩
  rw [C0.out] at he
  subst he
  go_wp2_with fail
  refine (l1In_any li 0 9 _).mono ?_
  rintro e w1 ⟨he, rfl⟩
  rw [C1.out] at he
  subst he
  go_wp2_with fail
  refine (l1In_any co 0 99 _).mono ?_
  rintro e w2 ⟨he, rfl⟩
  rw [C2.out] at he
  subst he
  go_wp2_with fail
  refine (l1In_any qu 1 99 _).mono ?_
  rintro e w3 ⟨he, rfl⟩
  rw [C3.out] at he
  subst he
  go_wp2
  go_loopw [3] (fun i wr => ∃ j : Nat, j ≤ xs.length ∧ i = .int .i64 j ∧ inpN 3 xs j = true ∧ Hid (Below (w.alloc (.cells #[.int .i64 r, .slice A xs.length c, .int .i64 li, .int .i64 co, .int .i64 qu] 27)).heap.size (w.alloc (.cells #[.int .i64 r, .slice A xs.length c, .int .i64 li, .int .i64 co, .int .i64 qu] 27)) wr)) (fun i _ => xs.length - (intOf i).toNat)
  case atStart => exact ⟨0, by omega, rfl, rfl, Lib.hid (Below.refl _ _)⟩
  obtain ⟨j, hj, rfl, ha, hb⟩ := hrel
  have HA := Lib.hid ha
  clear ha
  have XB := XG.out.step hb.out
  have g0 := XB.cell 0
  have g1 := XB.cell 1
  have g2 := XB.cell 2
  have g3 := XB.cell 3
  have g4 := XB.cell 4
  simp only [List.getElem?_toArray, List.getElem?_cons_zero, List.getElem?_cons_succ] at g0 g1 g2 g3 g4
  have gn := XB.lt
  clear XB
  by_cases hlt : j < xs.length
  · obtain ⟨b2, off2, rfl, nb2, hc2⟩ := (HJ.out.step hb.out).at_ hlt
    generalize hx : xs.getD j 0 = x at hc2
    have HX := Lib.hid hx
    clear hx
    have hj0 : (0 : Int) ≤ (j : Int) := by omega
    have hj1 : (j : Int) < (xs.length : Int) := by omega
    have X1 := Lib.hid fun W => left_same (l1In_any x 0 2 W)
    by_cases hin : inB x 0 2 = true
    · have HN := Lib.hid hin
      rw [HN.out] at X1
      clear hin
      by_cases h0 : j = 0
      · have IA := Lib.hid (show inpAt 3 xs j = true by unfold inpAt; rw [HX.out, show (3 : Int) - 1 = 2 from rfl, HN.out, decide_eq_true h0]; rfl)
        have d0 : decide ((0 : Int) < (j : Int)) = false := by simp; omega
        have d0' : ¬ ((0 : Int) < (j : Int)) := by omega
        have d0n : decide (0 < j) = false := by simp; omega
        have d0m : ¬ (0 < j) := by omega
        clear h0
        go_wp2
        go_quiet ((first | (go_at_call 18; with_reducible exact Calls.quiet_of_same (X1.out _))))
        go_wp2
        go_roundw
        case rel => exact ⟨j + 1, by omega, by go_num, by rw [inpN_succ, HA.out, IA.out]; rfl, Lib.hid (below_drewN hb.out _)⟩
        case measure => simp [intOf]; omega
      · have hp : j - 1 < xs.length := by omega
        obtain ⟨b3, off3, hbb, _, hc3⟩ := (HJ.out.step hb.out).at_ hp
        injection hbb with hbb
        injection hbb with hb1 hb2
        subst hb1 hb2
        generalize hx' : xs.getD (j - 1) 0 = x' at hc3
        have HX' := Lib.hid hx'
        clear hx'
        have J0 := Lib.hid h0
        have d0 : decide ((0 : Int) < (j : Int)) = true := by simp; omega
        have d0' : (0 : Int) < (j : Int) := by omega
        have d0n : decide (0 < j) = true := by simp; omega
        have q0 : IntKind.i64.wrap ((j : Int) - 1) = (j : Int) - 1 := IntWalk.i64_in _ ⟨by omega, by omega⟩
        have q1 : (0 : Int) ≤ (j : Int) - 1 := by omega
        have q1' : (1 : Int) ≤ (j : Int) := by omega
        have q2 : ((j : Int) - 1).toNat = j - 1 := by omega
        have q3 : (j : Int) - 1 < (xs.length : Int) := by omega
        have q5 : j ≤ xs.length := by omega
        clear h0
        by_cases hlt2 : x' < x
        · have d4 : decide (x ≤ x') = false := by simp; omega
          have d4' : ¬ (x ≤ x') := by omega
          have IA := Lib.hid (show inpAt 3 xs j = true by unfold inpAt; rw [HX.out, HX'.out, show (3 : Int) - 1 = 2 from rfl, HN.out, decide_eq_true hlt2]; simp)
          clear hlt2
          go_wp2
          go_quiet ((first | (go_at_call 18; with_reducible exact Calls.quiet_of_same (X1.out _))))
          clear q0 q2
          go_wp2
          go_roundw
          case rel => exact ⟨j + 1, by omega, by go_num, by rw [inpN_succ, HA.out, IA.out]; rfl, Lib.hid (below_drewN hb.out _)⟩
          case measure => simp [intOf]; omega
        · have d4 : decide (x ≤ x') = true := by simp; omega
          have d4' : x ≤ x' := by omega
          have IA := Lib.hid (show inpAt 3 xs j = false by unfold inpAt; rw [HX.out, HX'.out, show (3 : Int) - 1 = 2 from rfl, HN.out, decide_eq_false hlt2, decide_eq_false J0.out]; rfl)
          have EN := Lib.hid (fmtM_no (show fmOk r xs li co qu = false by rw [EH.out]; exact inpN_not 3 xs j _ hlt IA.out))
          clear hlt2
          go_wp2
          go_quiet ((first | (go_at_call 18; with_reducible exact Calls.quiet_of_same (X1.out _))))
          go_wp2
          go_ret
          exact ⟨ret_str EN.out.symm, step HB0.out (below_drewN hb.out _)⟩
    · have HN := Lib.hid (show inB x 0 2 = false by simpa using hin)
      rw [HN.out] at X1
      clear hin
      have IA := Lib.hid (show inpAt 3 xs j = false by unfold inpAt; rw [HX.out, show (3 : Int) - 1 = 2 from rfl, HN.out]; rfl)
      have EN := Lib.hid (fmtM_no (show fmOk r xs li co qu = false by rw [EH.out]; exact inpN_not 3 xs j _ hlt IA.out))
      go_wp2
      go_quiet ((first | (go_at_call 18; with_reducible exact Calls.quiet_of_same (X1.out _))))
      go_wp2
      go_ret
      exact ⟨ret_str EN.out.symm, step HB0.out (below_drewN hb.out _)⟩
  · obtain rfl : j = xs.length := by omega
    have IB := Lib.hid (show inpB 3 xs = true from HA.out)
    have I3 := Lib.hid (inp_three IB.out)
    obtain ⟨⟨r0, r1⟩, ⟨l0, l1⟩, ⟨o0, o1⟩, ⟨p0, p1⟩⟩ := HR.out
    have EY := Lib.hid (fmtM_yes (show fmOk r xs li co qu = true by rw [EH.out]; exact IB.out))
    have XR := Lib.hid fun (W : World) => (show Calls Tryd.prog 20 #[.int .i64 r] W fun e w' => e = .returned (.string ⟨(Lib.itoa r).toArray⟩) ∧ Below W.heap.size W w' from spec_FormatInt r (by omega) (by omega) W)
    have XL := Lib.hid fun (W : World) => (show Calls Tryd.prog 20 #[.int .i64 li] W fun e w' => e = .returned (.string ⟨(Lib.itoa li).toArray⟩) ∧ Below W.heap.size W w' from spec_FormatInt li (by omega) (by omega) W)
    have XC := Lib.hid fun (W : World) => (show Calls Tryd.prog 20 #[.int .i64 co] W fun e w' => e = .returned (.string ⟨(Lib.itoa co).toArray⟩) ∧ Below W.heap.size W w' from spec_FormatInt co (by omega) (by omega) W)
    have XQ := Lib.hid fun (W : World) => (show Calls Tryd.prog 20 #[.int .i64 qu] W fun e w' => e = .returned (.string ⟨(Lib.itoa qu).toArray⟩) ∧ Below W.heap.size W w' from spec_FormatInt qu (by omega) (by omega) W)
    have n1 := itoa_len r0 (by omega)
    have n2 := itoa_len l0 (by omega)
    have n3 := itoa_len o0 o1
    have n4 := itoa_len (show 0 ≤ qu by omega) p1
    generalize Lib.itoa r = tr at XR n1 EY
    generalize Lib.itoa li = tl at XL n2 EY
    generalize Lib.itoa co = tc at XC n3 EY
    generalize Lib.itoa qu = tq at XQ n4 EY
    by_cases hx0 : xs = []
    · have ET := Lib.hid (show inpT xs = [102, 114, 101, 101] from if_pos hx0)
      have FC := Lib.hid (show (⟨#[114]⟩ : ByteArray) ++ ⟨tr.toArray⟩ ++ ⟨#[32, 105, 110, 32]⟩ ++ ⟨#[102, 114, 101, 101]⟩ ++ ⟨#[32, 108, 105, 109, 105, 116, 32]⟩ ++ ⟨tl.toArray⟩ ++ ⟨#[32, 99, 111, 115, 116, 32]⟩ ++ ⟨tc.toArray⟩ ++ ⟨#[32, 113, 117, 111, 116, 97, 32]⟩ ++ ⟨tq.toArray⟩ = fmtM r xs li co qu by rw [EY.out, ET.out]; exact fm_cat tr [102, 114, 101, 101] tl tc tq)
      have hl0 : xs.length = 0 := by rw [hx0]; rfl
      have e1 : ¬ ((0 : Int) < (xs.length : Int)) := by omega
      have e2 : ¬ (0 < xs.length) := by omega
      clear hx0 ET
      have k0 := cell_regrown g0
      have k2 := cell_regrown g2
      have k3 := cell_regrown g3
      have k4 := cell_regrown g4
      go_wp2
      refine wp_region_quiet_below (by kernel_rfl) (by kernel_rfl) ?_
      repeat (go_big_quiet_step (first | (go_at_call 20; first | with_reducible exact Calls.regrown_of (XR.out _) | with_reducible exact Calls.regrown_of (XL.out _) | with_reducible exact Calls.regrown_of (XC.out _) | with_reducible exact Calls.regrown_of (XQ.out _))))
      refine wpQuiet_nil ?_
      intro u hw'
      have hb9 := step HB0.out (step hb.out (show Below _ _ u by obtain ⟨⟨dq, osq⟩, rfl⟩ := hw'; exact below_regrown _ _ _))
      clear hw' k0 k2 k3 k4
      go_wp2
      go_ret
      exact ⟨ret_str FC.out, hb9⟩
    · have ET := Lib.hid (show inpT xs = commaL xs from if_neg hx0)
      have hl0 : 0 < xs.length := List.length_pos_iff.2 hx0
      have e1 : ((0 : Int) < (xs.length : Int)) := by omega
      have XT := Lib.hid (l2List_any A c xs I3.out.1 I3.out.2 wr (HJ.out.step hb.out))
      have hs1 := commaL_len xs
      have hs2 : (commaL xs).length ≤ 6 := by have := I3.out.1; omega
      have FC := Lib.hid (show (⟨#[114]⟩ : ByteArray) ++ ⟨tr.toArray⟩ ++ ⟨#[32, 105, 110, 32]⟩ ++ ⟨(commaL xs).toArray⟩ ++ ⟨#[32, 108, 105, 109, 105, 116, 32]⟩ ++ ⟨tl.toArray⟩ ++ ⟨#[32, 99, 111, 115, 116, 32]⟩ ++ ⟨tc.toArray⟩ ++ ⟨#[32, 113, 117, 111, 116, 97, 32]⟩ ++ ⟨tq.toArray⟩ = fmtM r xs li co qu by rw [EY.out, ET.out]; exact fm_cat tr (commaL xs) tl tc tq)
      generalize commaL xs = tt at XT hs2 FC
      clear hx0 ET hs1
      go_wp2_with fail
      refine XT.out.mono ?_
      rintro e u2 ⟨rfl, d2⟩
      have hb2 := Lib.hid (step hb.out d2)
      clear d2 g0 g1 g2 g3 g4 gn
      have XB := XG.out.step hb2.out
      have g0 := XB.cell 0
      have g1 := XB.cell 1
      have g2 := XB.cell 2
      have g3 := XB.cell 3
      have g4 := XB.cell 4
      simp only [List.getElem?_toArray, List.getElem?_cons_zero, List.getElem?_cons_succ] at g0 g1 g2 g3 g4
      have gn := XB.lt
      clear XB
      have k0 := cell_regrown g0
      have k2 := cell_regrown g2
      have k3 := cell_regrown g3
      have k4 := cell_regrown g4
      go_wp2
      refine wp_region_quiet_below (by kernel_rfl) (by kernel_rfl) ?_
      repeat (go_big_quiet_step (first | (go_at_call 20; first | with_reducible exact Calls.regrown_of (XR.out _) | with_reducible exact Calls.regrown_of (XL.out _) | with_reducible exact Calls.regrown_of (XC.out _) | with_reducible exact Calls.regrown_of (XQ.out _))))
      refine wpQuiet_nil ?_
      intro u hw'
      have hb9 := step HB0.out (step hb2.out (show Below _ _ u by obtain ⟨⟨dq, osq⟩, rfl⟩ := hw'; exact below_regrown _ _ _))
      clear hw' k0 k2 k3 k4
      go_wp2
      go_ret
      exact ⟨ret_str FC.out, hb9⟩

theorem spec_FormatMethod (r : Int) (xs : List Int) (li co qu : Int) (A : Option Addr) (c : Nat) (hl : xs.length ≤ 1048576) (w : World) (h : RI w A xs) :
    Calls Tryd.prog 6 #[.agg #[.int .i64 r, .slice A xs.length c, .int .i64 li, .int .i64 co, .int .i64 qu]] w fun e w' => e = .returned (.string (fmtM r xs li co qu)) ∧ Below w.heap.size w w' := by
  cases hg : (inB r 0 2 && inB li 0 9 && inB co 0 99 && inB qu 1 99)
  · exact spec_FormatMethod_no r xs li co qu A c hg hl w h
  · simp only [Bool.and_eq_true] at hg
    exact spec_FormatMethod_yes r xs li co qu A c hg.1.1.1 hg.1.1.2 hg.1.2 hg.2 hl w h
end Go.Proofs.YtenondgjipmhnaaDoor
