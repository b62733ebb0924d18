/- What the two functions CanCall answer. Conditions: none beyond each theorem's own. -/
import Derived.Test.YtighalbnpgmdfaaOC
import Derived.Test.YtighalbnpgmdfaaQH
namespace Go.Proofs.Ytighalbnpgmdfaa
open Go.ChangeShapes Go.WideShapes Go.ChangeAt Go.RowKit Go.Sort
set_option linter.unusedVariables false
set_option linter.unusedSimpArgs false

theorem canAt_out {ts bound : List Int} {p : Int} (h : inB p 0 ((ts.length : Int) - 1) = false) : canAt ts bound p = false := by simp [canAt, h]
theorem canAt_con {ts bound : List Int} {k : Nat} {t : Int} (h : inB (k : Int) 0 ((ts.length : Int) - 1) = true) (ht : ts.getD k 0 = t) (hv : inB t 10 17 = false) : canAt ts bound (k : Int) = true := by
  unfold canAt
  rw [h, Int.toNat_natCast, ht, hv]
  rfl
theorem canAt_var {ts bound : List Int} {k : Nat} {t : Int} (h : inB (k : Int) 0 ((ts.length : Int) - 1) = true) (ht : ts.getD k 0 = t) (hv : inB t 10 17 = true) : canAt ts bound (k : Int) = decide (t ∈ bound) := by
  unfold canAt
  rw [h, Int.toNat_natCast, ht, hv]
  simp

set_option maxRecDepth 100000 in
set_option maxHeartbeats 1000000 in
theorem isKnown_any (ga gb : Nat) (ra : Int) (ts : List Int) (A : Option Addr) (c : Nat) (bound : List Int) (B : Option Addr) (cb : Nat) (p : Int) (hl : ts.length ≤ 1048576) (hlb : bound.length ≤ 1048576) (w : World)
    (hA : Box w ga #[.int .i64 ra, .slice A ts.length c] 73) (hB : Box w gb #[.slice B bound.length cb] 22) (h : RI w A ts) (h' : RI w B bound) :
    Calls Try.prog 132 #[.int .i64 p, .pointer (some ⟨ga, 0, none⟩), .pointer (some ⟨gb, 0, none⟩)] w fun e w' => e = .returned (.bool (canAt ts bound p)) ∧ Below w.heap.size w w' := by
  have hl' : (ts.length : Int) ≤ 1048576 := by omega
  have a1 := hA.cell 1
  have b0 := hB.cell 0
  simp only [List.getElem?_toArray, List.getElem?_cons_zero, List.getElem?_cons_succ] at a1 b0
  clear hA hB
  by_cases hin : inB p 0 ((ts.length : Int) - 1) = true
  · have HN := Lib.hid hin
    obtain ⟨k, rfl, hk⟩ := inB_nat hin
    have X1 := Lib.hid fun W => HN.out ▸ left_same (isBetween_any (k : Int) 0 ((ts.length : Int) - 1) W)
    obtain ⟨b, off, rfl, n1, hc⟩ := RI.at_ h hk
    generalize ht : ts.getD k 0 = t at hc
    have HT := Lib.hid ht
    have hk0 : (0 : Int) ≤ (k : Int) := by omega
    have hk1 : (k : Int) < (ts.length : Int) := by omega
    clear hin ht h
    by_cases hv : inB t 10 17 = true
    · have HV := Lib.hid hv
      have X2 := Lib.hid fun W => HV.out ▸ left_same (impl_IsVar t W)
      have HJ := Lib.hid h'
      have X3 := Lib.hid fun W (h : Ints W 0 w.heap.size B bound) => left_same (contains_any 0 w.heap.size B cb bound t hlb W h)
      rw [canAt_var HN.out HT.out HV.out]
      clear hv h'
      go_enter Try.func132, Try.ntmps132
      go_wp2
      go_quiet ((first | (go_at_call 111; exact Calls.quiet_of_same (X1.out _)) | (go_at_call 133; exact Calls.quiet_of_same (X2.out _)) | (go_at_call 115; exact Calls.quiet_of_same (X3.out _ HJ.out))))
      go_wp2
      go_ret
      exact ⟨rfl, below_drewN (Below.refl _ _) _⟩
    · have HV := Lib.hid (show inB t 10 17 = false by simpa using hv)
      have X2 := Lib.hid fun W => HV.out ▸ left_same (impl_IsVar t W)
      rw [canAt_con HN.out HT.out HV.out]
      clear hv h'
      go_enter Try.func132, Try.ntmps132
      go_wp2
      go_quiet ((first | (go_at_call 111; exact Calls.quiet_of_same (X1.out _)) | (go_at_call 133; exact Calls.quiet_of_same (X2.out _))))
      go_wp2
      go_ret
      exact ⟨rfl, below_drewN (Below.refl _ _) _⟩
  · have HN := Lib.hid (show inB p 0 ((ts.length : Int) - 1) = false by simpa using hin)
    have X1 := Lib.hid fun W => HN.out ▸ left_same (isBetween_any p 0 ((ts.length : Int) - 1) W)
    rw [canAt_out HN.out]
    clear hin h h'
    go_enter Try.func132, Try.ntmps132
    go_wp2
    go_quiet ((first | (go_at_call 111; exact Calls.quiet_of_same (X1.out _))))
    go_wp2
    go_ret
    exact ⟨rfl, below_drewN (Below.refl _ _) _⟩

set_option maxRecDepth 100000 in
set_option maxHeartbeats 1000000 in
theorem areAllK_any (ga gb : Nat) (ra : Int) (ts : List Int) (A : Option Addr) (c : Nat) (bound : List Int) (B : Option Addr) (cb : Nat) (inp : List Int) (C : Option Addr) (cc : Nat) (hl : ts.length ≤ 1048576) (hlb : bound.length ≤ 1048576) (hli : inp.length ≤ 1048576) (w : World)
    (hA : Box w ga #[.int .i64 ra, .slice A ts.length c] 73) (hB : Box w gb #[.slice B bound.length cb] 22) (h : RI w A ts) (h' : RI w B bound) (h2 : RI w C inp) :
    Calls Try.prog 134 #[.slice C inp.length cc, .func (.func 132) #[] #[.pointer (some ⟨ga, 0, none⟩), .pointer (some ⟨gb, 0, none⟩)]] w fun e w' => e = .returned (.bool (canN inp ts bound inp.length)) ∧ Below w.heap.size w w' := by
  have hl' : (inp.length : Int) ≤ 1048576 := by omega
  have HI := Lib.hid h
  have HJ := Lib.hid h'
  have HK := Lib.hid h2
  have HA := Lib.hid hA
  have HB := Lib.hid hB
  clear h h' h2 hA hB
  go_enter Try.func134, Try.ntmps134
  go_wp2
  go_loopw [6, 9] (fun _ i wr => ∃ k : Nat, k ≤ inp.length ∧ i = .int .i64 k ∧ canN inp ts bound k = true ∧ Hid (Below w.heap.size w wr)) (fun _ i _ => inp.length - (intOf i).toNat)
  case atStart => exact ⟨0, by omega, rfl, rfl, Lib.hid (Below.refl _ _)⟩
  case round =>
    obtain ⟨k, hk, rfl, ha, hb⟩ := hrel
    have HA2 := Lib.hid ha
    clear ha
    by_cases hlt : k < inp.length
    · obtain ⟨b, off, rfl, n1, e0⟩ := RI.at_ (HK.out.step hb.out) hlt
      generalize hx : inp.getD k 0 = x at e0
      have HX := Lib.hid hx
      have XC := Lib.hid (isKnown_any ga gb ra ts A c bound B cb x hl hlb wr (HA.out.step hb.out) (HB.out.step hb.out) (HI.out.step hb.out) (HJ.out.step hb.out))
      generalize hr : canAt ts bound x = res at XC
      have HF := Lib.hid (show canAt ts bound (inp.getD k 0) = res by rw [HX.out, hr])
      have hk0 : (0 : Int) ≤ (k : Int) := by omega
      have hk1 : (k : Int) < (inp.length : Int) := by omega
      clear hx hr
      go_wp2_with fail
      refine XC.out.mono ?_
      rintro e u ⟨rfl, d⟩
      have hb2 := step hb.out d
      clear d
      cases res
      · go_wp2
        go_ret
        exact ⟨ret_bool (canN_not _ _ _ k _ hlt HF.out).symm, hb2⟩
      · go_wp2
        go_roundw
        case rel => exact ⟨k + 1, by omega, by go_num, by rw [canN_succ, HA2.out, HF.out]; rfl, Lib.hid hb2⟩
        case measure => simp [intOf]; omega
    · obtain rfl : k = inp.length := by omega
      go_wp2
      go_ret
      exact ⟨ret_bool HA2.out.symm, hb.out⟩

set_option maxRecDepth 100000 in
set_option maxHeartbeats 1000000 in
theorem impl_CanCall (r : Int) (inp : List Int) (li co qu : Int) (C : Option Addr) (cc : Nat) (ra : Int) (ts : List Int) (A : Option Addr) (c : Nat) (B : Option Addr) (cb : Nat) (bound : List Int) (hli : inp.length ≤ 1048576) (hl : ts.length ≤ 1048576) (hlb : bound.length ≤ 1048576) (w : World)
    (h : RI w C inp) (h1 : RI w A ts) (h2 : RI w B bound) :
    Calls Try.prog 97 #[.agg #[.int .i64 r, .slice C inp.length cc, .int .i64 li, .int .i64 co, .int .i64 qu], .agg #[.int .i64 ra, .slice A ts.length c], .slice B bound.length cb] w fun e w' => e = .returned (.bool (canB r inp ra ts bound)) ∧ Below w.heap.size w w' := by
  have b1 := below_alloc w (.cells #[.int .i64 r, .slice C inp.length cc, .int .i64 li, .int .i64 co, .int .i64 qu] 71)
  have b2 := below_alloc (w.alloc (.cells #[.int .i64 r, .slice C inp.length cc, .int .i64 li, .int .i64 co, .int .i64 qu] 71)) (.cells #[.int .i64 ra, .slice A ts.length c] 73)
  have b3 := below_alloc ((w.alloc (.cells #[.int .i64 r, .slice C inp.length cc, .int .i64 li, .int .i64 co, .int .i64 qu] 71)).alloc (.cells #[.int .i64 ra, .slice A ts.length c] 73)) (.cells #[.slice B bound.length cb] 22)
  have BB := Lib.hid (step (step b1 b2) b3)
  have XA := (Box.new (w.alloc (.cells #[.int .i64 r, .slice C inp.length cc, .int .i64 li, .int .i64 co, .int .i64 qu] 71)) #[.int .i64 ra, .slice A ts.length c] 73).step b3
  have XB := Box.new ((w.alloc (.cells #[.int .i64 r, .slice C inp.length cc, .int .i64 li, .int .i64 co, .int .i64 qu] 71)).alloc (.cells #[.int .i64 ra, .slice A ts.length c] 73)) #[.slice B bound.length cb] 22
  rw [al_size] at XA
  rw [al_size, al_size] at XB
  have XC := Lib.hid (areAllK_any (w.heap.size + 1) (w.heap.size + 1 + 1) ra ts A c bound B cb inp C cc hl hlb hli _ XA XB (h1.step BB.out) (h2.step BB.out) (h.step BB.out))
  clear b1 b2 b3 XA XB h h1 h2
  by_cases hr : r = ra
  · have E := Lib.hid (show canB r inp ra ts bound = canN inp ts bound inp.length by simp [canB, hr])
    have d1 : (r == ra) = true := by simpa using hr
    rw [E.out]
    clear hr
    go_enter Try.func97, Try.ntmps97
    go_wp2_with fail
    refine XC.out.mono ?_
    rintro e u ⟨rfl, d⟩
    have D := Lib.hid (step BB.out d)
    clear d
    go_wp2
    go_ret
    exact ⟨rfl, D.out⟩
  · have E := Lib.hid (show canB r inp ra ts bound = false by simp [canB, hr])
    have d1 : (r == ra) = false := by simpa using hr
    rw [E.out]
    clear hr
    go_enter Try.func97, Try.ntmps97
    go_wp2
    go_ret
    exact ⟨rfl, BB.out⟩

set_option maxRecDepth 100000 in
set_option maxHeartbeats 1000000 in
theorem spec_CanCall (r : Int) (inp : List Int) (li co qu : Int) (C : Option Addr) (cc : Nat) (ra : Int) (ts : List Int) (A : Option Addr) (c : Nat) (B : Option Addr) (cb : Nat) (bound : List Int) (hli : inp.length ≤ 1048576) (hl : ts.length ≤ 1048576) (hlb : bound.length ≤ 1048576) (w : World)
    (h : RI w C inp) (h1 : RI w A ts) (h2 : RI w B bound) :
    Calls Try.prog 51 #[.agg #[.int .i64 r, .slice C inp.length cc, .int .i64 li, .int .i64 co, .int .i64 qu], .agg #[.int .i64 ra, .slice A ts.length c], .slice B bound.length cb] w fun e w' => e = .returned (.bool (canB r inp ra ts bound)) ∧ Below w.heap.size w w' := by
  have hli' : (inp.length : Int) ≤ 1048576 := by omega
  have hl' : (ts.length : Int) ≤ 1048576 := by omega
  have b1 := below_alloc w (.cells #[.int .i64 r, .slice C inp.length cc, .int .i64 li, .int .i64 co, .int .i64 qu] 71)
  have b2 := below_alloc (w.alloc (.cells #[.int .i64 r, .slice C inp.length cc, .int .i64 li, .int .i64 co, .int .i64 qu] 71)) (.cells #[.int .i64 ra, .slice A ts.length c] 73)
  have BB := Lib.hid (step b1 b2)
  have XM := Lib.hid ((Box.new w #[.int .i64 r, .slice C inp.length cc, .int .i64 li, .int .i64 co, .int .i64 qu] 71).step b2)
  have XA0 := Box.new (w.alloc (.cells #[.int .i64 r, .slice C inp.length cc, .int .i64 li, .int .i64 co, .int .i64 qu] 71)) #[.int .i64 ra, .slice A ts.length c] 73
  rw [al_size] at XA0
  have XA := Lib.hid XA0
  have HI := Lib.hid h
  have HJ := Lib.hid h1
  have HK := Lib.hid h2
  clear b1 b2 XA0 h h1 h2
  by_cases hr : r = ra
  · have E := Lib.hid (show canB r inp ra ts bound = canN inp ts bound inp.length by simp [canB, hr])
    have d1 : (r == ra) = true := by simpa using hr
    have d2 : (r != ra) = false := by simpa using hr
    rw [E.out]
    clear hr
    go_enter Try.func51, Try.ntmps51
    go_wp2
    go_loopw [7, 8] (fun i _ wr => ∃ k : Nat, k ≤ inp.length ∧ i = .int .i64 k ∧ canN inp ts bound k = true ∧ Hid (Below w.heap.size w wr) ∧ Hid (Box wr w.heap.size #[.int .i64 r, .slice C inp.length cc, .int .i64 li, .int .i64 co, .int .i64 qu] 71) ∧ Hid (Box wr (w.heap.size + 1) #[.int .i64 ra, .slice A ts.length c] 73)) (fun i _ _ => inp.length - (intOf i).toNat)
    case atStart => exact ⟨0, by omega, rfl, rfl, BB, XM, XA⟩
    case round =>
      obtain ⟨k, hk, rfl, ha, hb, xm, xa⟩ := hrel
      have HA2 := Lib.hid ha
      clear ha
      have m1 := xm.out.cell 1
      have a1 := xa.out.cell 1
      simp only [List.getElem?_toArray, List.getElem?_cons_zero, List.getElem?_cons_succ] at m1 a1
      by_cases hlt : k < inp.length
      · obtain ⟨b, off, rfl, n1, e0⟩ := RI.at_ (HI.out.step hb.out) hlt
        generalize hx : inp.getD k 0 = p at e0
        have HX := Lib.hid hx
        have hk0 : (0 : Int) ≤ (k : Int) := by omega
        have hk1 : (k : Int) < (inp.length : Int) := by omega
        clear hx
        by_cases hin : inB p 0 ((ts.length : Int) - 1) = true
        · have HN := Lib.hid hin
          obtain ⟨j, rfl, hj⟩ := inB_nat hin
          have X1 := Lib.hid fun W => HN.out ▸ left_same (l1In_any (j : Int) 0 ((ts.length : Int) - 1) W)
          obtain ⟨b2, off2, rfl, n2, hc⟩ := RI.at_ (HJ.out.step hb.out) hj
          generalize ht : ts.getD j 0 = t at hc
          have HT := Lib.hid ht
          have hj0 : (0 : Int) ≤ (j : Int) := by omega
          have hj1 : (j : Int) < (ts.length : Int) := by omega
          clear hin ht
          go_wp2
          go_quiet ((first | (go_at_call 49; exact Calls.quiet_of_same (X1.out _))))
          go_wp2
          go_quiet (fail)
          go_wp2_with fail
          refine (spec_IsVar t _).mono ?_
          rintro e w' ⟨he, rfl⟩
          by_cases hv : inB t 10 17 = true
          · have HV := Lib.hid hv
            rw [hv] at he
            subst he
            have CV := Lib.hid (canAt_var (bound := bound) HN.out HT.out HV.out)
            have XH := Lib.hid fun (n : Nat) => l2Has_any 0 w.heap.size B cb bound t hlb (wr.drewN n) (HK.out.below (below_drewN hb.out n) (Nat.le_refl _))
            generalize decide (t ∈ bound) = res at CV XH
            clear hv
            go_wp2_with fail
            refine (XH.out _).mono ?_
            rintro e w' ⟨rfl, rfl⟩
            cases res
            · go_wp2
              go_ret
              exact ⟨ret_bool (canN_not _ _ _ k _ hlt (by rw [HX.out, CV.out])).symm, by first | exact hb.out | exact below_drewN hb.out _⟩
            · go_wp2
              go_roundw
              case rel => exact ⟨k + 1, by omega, by go_num, by rw [canN_succ, HA2.out, HX.out, CV.out]; rfl, Lib.hid (below_drewN hb.out _), Lib.hid xm.out, Lib.hid xa.out⟩
              case measure => simp [intOf]; omega
          · have HV := Lib.hid (show inB t 10 17 = false by simpa using hv)
            rw [HV.out] at he
            subst he
            have CV := Lib.hid (canAt_con (bound := bound) HN.out HT.out HV.out)
            clear hv
            go_wp2
            go_roundw
            case rel => exact ⟨k + 1, by omega, by go_num, by rw [canN_succ, HA2.out, HX.out, CV.out]; rfl, Lib.hid (below_drewN hb.out _), Lib.hid xm.out, Lib.hid xa.out⟩
            case measure => simp [intOf]; omega
        · have HN := Lib.hid (show inB p 0 ((ts.length : Int) - 1) = false by simpa using hin)
          have X1 := Lib.hid fun W => HN.out ▸ left_same (l1In_any p 0 ((ts.length : Int) - 1) W)
          clear hin
          go_wp2
          go_quiet ((first | (go_at_call 49; exact Calls.quiet_of_same (X1.out _))))
          go_wp2
          go_ret
          exact ⟨ret_bool (canN_not _ _ _ k _ hlt (by rw [HX.out, canAt_out HN.out])).symm, below_drewN hb.out _⟩
      · obtain rfl : k = inp.length := by omega
        go_wp2
        go_ret
        exact ⟨ret_bool HA2.out.symm, hb.out⟩
  · have E := Lib.hid (show canB r inp ra ts bound = false by simp [canB, hr])
    have d1 : (r == ra) = false := by simpa using hr
    have d2 : (r != ra) = true := by simpa using hr
    rw [E.out]
    clear hr
    go_enter Try.func51, Try.ntmps51
    go_wp2
    go_ret
    exact ⟨rfl, BB.out⟩
end Go.Proofs.Ytighalbnpgmdfaa
