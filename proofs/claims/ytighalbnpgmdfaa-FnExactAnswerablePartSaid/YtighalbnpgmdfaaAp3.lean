/- What the two functions OrderCost answer. Conditions: none beyond each theorem's own. What the two functions CanCall answer. Conditions: none beyond each theorem's own. What the two functions SameSteps answer. Conditions: none beyond each theorem's own. Rows of steps that grow, and the atoms without a step. Conditions: none beyond each theorem's own. -/
import Derived.Test.YtighalbnpgmdfaaAp2
import Derived.Test.YtighalbnpgmdfaaStp
import Derived.Test.YtighalbnpgmdfaaSame
import Derived.Lib.QuietBelow
import Derived.Deep.LoopGhost

namespace Go.Proofs.Ytighalbnpgmdfaa
open Go.ChangeShapes Go.WideShapes Go.ChangeAt Go.RowKit Go.Sort
set_option linter.unusedVariables false
set_option linter.unusedSimpArgs false

theorem cost_yes {ms : ML} {m : Nat} {r li co qu : Int} {xs : List Int} (h1 : inB (m : Int) 0 ((ms.length : Int) - 1) = true) (hg : ms.getD m noM = (r, xs, li, co, qu)) (h2 : inB co 0 99 = true) : costOf ms (m : Int) = co := by
  unfold costOf
  rw [h1, Int.toNat_natCast, hg, h2]
  rfl
theorem cost_no2 {ms : ML} {m : Nat} {r li co qu : Int} {xs : List Int} (hg : ms.getD m noM = (r, xs, li, co, qu)) (h2 : inB co 0 99 = false) : costOf ms (m : Int) = 0 := by
  unfold costOf
  rw [Int.toNat_natCast, hg, h2]
  simp
theorem cost_no1 {ms : ML} {m : Int} (h1 : inB m 0 ((ms.length : Int) - 1) = false) : costOf ms m = 0 := by
  unfold costOf
  rw [h1]
  rfl
theorem inB_nat {x : Int} {n : Nat} (h : inB x 0 ((n : Int) - 1) = true) : ∃ k : Nat, x = k ∧ k < n := by
  simp only [inB, Bool.and_eq_true, decide_eq_true_eq] at h
  exact ⟨x.toNat, by omega, by omega⟩
theorem inB_len {k n : Nat} (h : k < n) : inB (k : Int) 0 ((n : Int) - 1) = true := by
  simp only [inB, Bool.and_eq_true, decide_eq_true_eq]
  omega

set_option maxRecDepth 100000 in
set_option maxHeartbeats 1000000 in
theorem spec_OrderCost (A : Option Addr) (c : Nat) (ms : ML) (A' : Option Addr) (c' : Nat) (l : SL) (hz : szM ms ≤ 1048576) (hl : l.length ≤ 1048576) (w : World) (h : RM w A ms) (h' : RZ w A' l) :
    Calls Try.prog 68 #[.slice A ms.length c, .slice A' l.length c'] w fun e w' => e = .returned (.int .i64 (costN ms l)) ∧ Below w.heap.size w w' := by
  have hl1 := szM_len hz
  have hl1' : (ms.length : Int) ≤ 1048576 := by omega
  have hl' : (l.length : Int) ≤ 1048576 := by omega
  have HI := Lib.hid h
  have HJ := Lib.hid h'
  clear h h'
  go_enter Try.func68, Try.ntmps68
  go_wp2
  go_loopw [5, 6] (fun z i wr => ∃ (k : Nat) (n : Int), k ≤ l.length ∧ i = .int .i64 k ∧ z = .int .i64 n ∧ Hid (n = costN ms (l.take k)) ∧ 0 ≤ n ∧ n ≤ 99 * (k : Int) ∧ Hid (Below w.heap.size w wr)) (fun _ i _ => l.length - (intOf i).toNat)
  case atStart => exact ⟨0, 0, by omega, rfl, rfl, Lib.hid rfl, by omega, by omega, Lib.hid (Below.refl _ _)⟩
  case round =>
    obtain ⟨k, n, hk, rfl, rfl, hn, n0, n1, hb⟩ := hrel
    by_cases hlt : k < l.length
    · generalize hf : l.getD k (0, 0) = f
      obtain ⟨r, x⟩ := f
      have CT := Lib.hid (costN_take ms l hlt hf)
      obtain ⟨b, off, rfl, hb1, e0, e1⟩ := (HJ.out.step hb.out).at_ hlt hf
      clear hf
      have hk0 : (0 : Int) ≤ (k : Int) := by omega
      have hk1 : (k : Int) < (l.length : Int) := by omega
      by_cases hin : inB x 0 ((ms.length : Int) - 1) = true
      · have HN := Lib.hid hin
        obtain ⟨m, rfl, hm⟩ := inB_nat hin
        generalize hg : ms.getD m noM = g
        obtain ⟨r2, xs, li, co, qu⟩ := g
        have HG := Lib.hid hg
        obtain ⟨b2, off2, B, c2, rfl, nb, g0, g1, g2, g3, g4, _, _, _⟩ := (HI.out.step hb.out).at_ hm hg
        have hm0 : (0 : Int) ≤ (m : Int) := by omega
        have hm1 : (m : Int) < (ms.length : Int) := by omega
        clear hin hg
        by_cases hc : inB co 0 99 = true
        · have HC := Lib.hid hc
          have E := Lib.hid (cost_yes HN.out HG.out HC.out)
          have co1 : 0 ≤ co ∧ co ≤ 99 := by simpa [inB] using hc
          obtain ⟨co1, co2⟩ := co1
          have q0 : IntKind.i64.wrap (n + co) = n + co := IntWalk.i64_in _ ⟨by omega, by omega⟩
          clear hc
          go_wp2_with fail
          refine (l1In_any (m : Int) 0 ((ms.length : Int) - 1) _).mono ?_
          rintro e w' ⟨he, rfl⟩
          rw [HN.out] at he
          subst he
          go_wp2_with fail
          refine (l1In_any co 0 99 _).mono ?_
          rintro e w' ⟨he, rfl⟩
          rw [HC.out] at he
          subst he
          go_wp2
          go_roundw
          case rel => exact ⟨k + 1, n + co, by omega, by go_num, rfl, Lib.hid (by rw [CT.out, E.out, hn.out]), by omega, by omega, hb⟩
          case measure => simp [intOf]; omega
        · have HC := Lib.hid (show inB co 0 99 = false by simpa using hc)
          have E := Lib.hid (cost_no2 HG.out HC.out)
          clear hc
          go_wp2_with fail
          refine (l1In_any (m : Int) 0 ((ms.length : Int) - 1) _).mono ?_
          rintro e w' ⟨he, rfl⟩
          rw [HN.out] at he
          subst he
          go_wp2_with fail
          refine (l1In_any co 0 99 _).mono ?_
          rintro e w' ⟨he, rfl⟩
          rw [HC.out] at he
          subst he
          go_wp2
          go_roundw
          case rel => exact ⟨k + 1, n, by omega, by go_num, rfl, Lib.hid (by rw [CT.out, E.out, ← hn.out]; omega), by omega, by omega, hb⟩
          case measure => simp [intOf]; omega
      · have HN := Lib.hid (show inB x 0 ((ms.length : Int) - 1) = false by simpa using hin)
        have E := Lib.hid (cost_no1 HN.out)
        clear hin
        go_wp2_with fail
        refine (l1In_any x 0 ((ms.length : Int) - 1) _).mono ?_
        rintro e w' ⟨he, rfl⟩
        rw [HN.out] at he
        subst he
        go_wp2
        go_roundw
        case rel => exact ⟨k + 1, n, by omega, by go_num, rfl, Lib.hid (by rw [CT.out, E.out, ← hn.out]; omega), by omega, by omega, hb⟩
        case measure => simp [intOf]; omega
    · obtain rfl : k = l.length := by omega
      have O := Lib.hid (show n = costN ms l by rw [hn.out, take_all])
      go_wp2
      go_ret
      exact ⟨ret_int O.out, hb.out⟩

set_option maxRecDepth 100000 in
set_option maxHeartbeats 1000000 in
theorem costOfM_any (A : Option Addr) (c : Nat) (ms : ML) (x : Int) (hz : szM ms ≤ 1048576) (w : World) (h : RM w A ms) :
    Calls Try.prog 100 #[.slice A ms.length c, .int .i64 x] w fun e w' => e = .returned (.int .i64 (costOf ms x)) ∧ w = w' := by
  have hl1 := szM_len hz
  have hl1' : (ms.length : Int) ≤ 1048576 := by omega
  by_cases hin : inB x 0 ((ms.length : Int) - 1) = true
  · have HN := Lib.hid hin
    obtain ⟨m, rfl, hm⟩ := inB_nat hin
    generalize hg : ms.getD m noM = g
    obtain ⟨r2, xs, li, co, qu⟩ := g
    have HG := Lib.hid hg
    obtain ⟨b2, off2, B, c2, rfl, nb, g0, g1, g2, g3, g4, _, _, _⟩ := h.at_ hm hg
    have hm0 : (0 : Int) ≤ (m : Int) := by omega
    have hm1 : (m : Int) < (ms.length : Int) := by omega
    clear hin hg h
    by_cases hc : inB co 0 99 = true
    · have HC := Lib.hid hc
      rw [cost_yes HN.out HG.out HC.out]
      clear hc
      go_enter Try.func100, Try.ntmps100
      go_wp2_with fail
      refine (hasMethod_any _ c ms.length (m : Int) hl1 _).mono ?_
      rintro e w' ⟨he, rfl⟩
      rw [HN.out] at he
      subst he
      go_wp2_with fail
      refine (isBetween_any co 0 99 _).mono ?_
      rintro e w' ⟨he, rfl⟩
      rw [HC.out] at he
      subst he
      go_wp2
      go_ret
      exact ⟨rfl, rfl⟩
    · have HC := Lib.hid (show inB co 0 99 = false by simpa using hc)
      rw [cost_no2 HG.out HC.out]
      clear hc
      go_enter Try.func100, Try.ntmps100
      go_wp2_with fail
      refine (hasMethod_any _ c ms.length (m : Int) hl1 _).mono ?_
      rintro e w' ⟨he, rfl⟩
      rw [HN.out] at he
      subst he
      go_wp2_with fail
      refine (isBetween_any co 0 99 _).mono ?_
      rintro e w' ⟨he, rfl⟩
      rw [HC.out] at he
      subst he
      go_wp2
      go_ret
      exact ⟨rfl, rfl⟩
  · have HN := Lib.hid (show inB x 0 ((ms.length : Int) - 1) = false by simpa using hin)
    rw [cost_no1 HN.out]
    clear hin
    go_enter Try.func100, Try.ntmps100
    go_wp2_with fail
    refine (hasMethod_any _ c ms.length x hl1 _).mono ?_
    rintro e w' ⟨he, rfl⟩
    rw [HN.out] at he
    subst he
    go_wp2
    go_ret
    exact ⟨rfl, rfl⟩

set_option maxRecDepth 100000 in
set_option maxHeartbeats 1000000 in
theorem impl_OrderCost (A : Option Addr) (c : Nat) (ms : ML) (A' : Option Addr) (c' : Nat) (l : SL) (hz : szM ms ≤ 1048576) (hl : l.length ≤ 1048576) (w : World) (h : RM w A ms) (h' : RZ w A' l) :
    Calls Try.prog 71 #[.slice A ms.length c, .slice A' l.length c'] w fun e w' => e = .returned (.int .i64 (costN ms l)) ∧ Below w.heap.size w w' := by
  have hl' : (l.length : Int) ≤ 1048576 := by omega
  have HI := Lib.hid h
  have HJ := Lib.hid h'
  clear h h'
  go_enter Try.func71, Try.ntmps71
  go_wp2
  go_loopw [5, 7, 10] (fun z _ i wr => ∃ (k : Nat) (n : Int), k ≤ l.length ∧ i = .int .i64 k ∧ z = .int .i64 n ∧ Hid (n = costN ms (l.take k)) ∧ 0 ≤ n ∧ n ≤ 99 * (k : Int) ∧ Hid (Below w.heap.size w wr)) (fun _ _ i _ => l.length - (intOf i).toNat)
  case atStart => exact ⟨0, 0, by omega, rfl, rfl, Lib.hid rfl, by omega, by omega, Lib.hid (Below.refl _ _)⟩
  case round =>
    obtain ⟨k, n, hk, rfl, rfl, hn, n0, n1, hb⟩ := hrel
    by_cases hlt : k < l.length
    · generalize hf : l.getD k (0, 0) = f
      obtain ⟨r, x⟩ := f
      have CT := Lib.hid (costN_take ms l hlt hf)
      obtain ⟨b, off, rfl, hb1, e0, e1⟩ := (HJ.out.step hb.out).at_ hlt hf
      clear hf
      have hk0 : (0 : Int) ≤ (k : Int) := by omega
      have hk1 : (k : Int) < (l.length : Int) := by omega
      obtain ⟨co1, co2⟩ := costOf_rng ms x
      have XC := Lib.hid fun (W : World) (hW : RM W A ms) => costOfM_any A c ms x hz W hW
      generalize costOf ms x = co at CT co1 co2 XC
      have q0 : IntKind.i64.wrap (n + co) = n + co := IntWalk.i64_in _ ⟨by omega, by omega⟩
      have B2 := Lib.hid (step hb.out (below_alloc wr (.cells #[.int .i64 r, .int .i64 x] 68)))
      go_wp2_with fail
      refine (XC.out _ (HI.out.step B2.out)).mono ?_
      rintro e u ⟨rfl, rfl⟩
      go_wp2
      go_roundw
      case rel => exact ⟨k + 1, n + co, by omega, by go_num, rfl, Lib.hid (by rw [CT.out, hn.out]), by omega, by omega, B2⟩
      case measure => simp [intOf]; omega
    · obtain rfl : k = l.length := by omega
      have O := Lib.hid (show n = costN ms l by rw [hn.out, take_all])
      go_wp2
      go_ret
      exact ⟨ret_int O.out, hb.out⟩
end Go.Proofs.Ytighalbnpgmdfaa

namespace Go.Proofs.Ytighalbnpgmdfaa
open Go.ChangeShapes Go.WideShapes Go.ChangeAt Go.RowKit Go.Sort
set_option linter.unusedVariables false
set_option linter.unusedSimpArgs false

theorem canAt_out {ts bound : List Int} {p : Int} (h : inB p 0 ((ts.length : Int) - 1) = false) : canAt ts bound p = false := by simp [canAt, h]
theorem canAt_con {ts bound : List Int} {k : Nat} {t : Int} (h : inB (k : Int) 0 ((ts.length : Int) - 1) = true) (ht : ts.getD k 0 = t) (hv : inB t 10 17 = false) : canAt ts bound (k : Int) = true := by
  unfold canAt
  rw [h, Int.toNat_natCast, ht, hv]
  rfl
theorem canAt_var {ts bound : List Int} {k : Nat} {t : Int} (h : inB (k : Int) 0 ((ts.length : Int) - 1) = true) (ht : ts.getD k 0 = t) (hv : inB t 10 17 = true) : canAt ts bound (k : Int) = decide (t ∈ bound) := by
  unfold canAt
  rw [h, Int.toNat_natCast, ht, hv]
  simp

set_option maxRecDepth 100000 in
set_option maxHeartbeats 1000000 in
theorem isKnown_any (ga gb : Nat) (ra : Int) (ts : List Int) (A : Option Addr) (c : Nat) (bound : List Int) (B : Option Addr) (cb : Nat) (p : Int) (hl : ts.length ≤ 1048576) (hlb : bound.length ≤ 1048576) (w : World)
    (hA : Box w ga #[.int .i64 ra, .slice A ts.length c] 73) (hB : Box w gb #[.slice B bound.length cb] 22) (h : RI w A ts) (h' : RI w B bound) :
    Calls Try.prog 132 #[.int .i64 p, .pointer (some ⟨ga, 0, none⟩), .pointer (some ⟨gb, 0, none⟩)] w fun e w' => e = .returned (.bool (canAt ts bound p)) ∧ Below w.heap.size w w' := by
  have hl' : (ts.length : Int) ≤ 1048576 := by omega
  have a1 := hA.cell 1
  have b0 := hB.cell 0
  simp only [List.getElem?_toArray, List.getElem?_cons_zero, List.getElem?_cons_succ] at a1 b0
  clear hA hB
  by_cases hin : inB p 0 ((ts.length : Int) - 1) = true
  · have HN := Lib.hid hin
    obtain ⟨k, rfl, hk⟩ := inB_nat hin
    have X1 := Lib.hid fun W => HN.out ▸ left_same (isBetween_any (k : Int) 0 ((ts.length : Int) - 1) W)
    obtain ⟨b, off, rfl, n1, hc⟩ := RI.at_ h hk
    generalize ht : ts.getD k 0 = t at hc
    have HT := Lib.hid ht
    have hk0 : (0 : Int) ≤ (k : Int) := by omega
    have hk1 : (k : Int) < (ts.length : Int) := by omega
    clear hin ht h
    by_cases hv : inB t 10 17 = true
    · have HV := Lib.hid hv
      have X2 := Lib.hid fun W => HV.out ▸ left_same (impl_IsVar t W)
      have HJ := Lib.hid h'
      have X3 := Lib.hid fun W (h : Ints W 0 w.heap.size B bound) => left_same (contains_any 0 w.heap.size B cb bound t hlb W h)
      rw [canAt_var HN.out HT.out HV.out]
      clear hv h'
      go_enter Try.func132, Try.ntmps132
      go_wp2
      go_quiet ((first | (go_at_call 111; exact Calls.quiet_of_same (X1.out _)) | (go_at_call 133; exact Calls.quiet_of_same (X2.out _)) | (go_at_call 115; exact Calls.quiet_of_same (X3.out _ HJ.out))))
      go_wp2
      go_ret
      exact ⟨rfl, below_drewN (Below.refl _ _) _⟩
    · have HV := Lib.hid (show inB t 10 17 = false by simpa using hv)
      have X2 := Lib.hid fun W => HV.out ▸ left_same (impl_IsVar t W)
      rw [canAt_con HN.out HT.out HV.out]
      clear hv h'
      go_enter Try.func132, Try.ntmps132
      go_wp2
      go_quiet ((first | (go_at_call 111; exact Calls.quiet_of_same (X1.out _)) | (go_at_call 133; exact Calls.quiet_of_same (X2.out _))))
      go_wp2
      go_ret
      exact ⟨rfl, below_drewN (Below.refl _ _) _⟩
  · have HN := Lib.hid (show inB p 0 ((ts.length : Int) - 1) = false by simpa using hin)
    have X1 := Lib.hid fun W => HN.out ▸ left_same (isBetween_any p 0 ((ts.length : Int) - 1) W)
    rw [canAt_out HN.out]
    clear hin h h'
    go_enter Try.func132, Try.ntmps132
    go_wp2
    go_quiet ((first | (go_at_call 111; exact Calls.quiet_of_same (X1.out _))))
    go_wp2
    go_ret
    exact ⟨rfl, below_drewN (Below.refl _ _) _⟩

set_option maxRecDepth 100000 in
set_option maxHeartbeats 1000000 in
theorem areAllK_any (ga gb : Nat) (ra : Int) (ts : List Int) (A : Option Addr) (c : Nat) (bound : List Int) (B : Option Addr) (cb : Nat) (inp : List Int) (C : Option Addr) (cc : Nat) (hl : ts.length ≤ 1048576) (hlb : bound.length ≤ 1048576) (hli : inp.length ≤ 1048576) (w : World)
    (hA : Box w ga #[.int .i64 ra, .slice A ts.length c] 73) (hB : Box w gb #[.slice B bound.length cb] 22) (h : RI w A ts) (h' : RI w B bound) (h2 : RI w C inp) :
    Calls Try.prog 134 #[.slice C inp.length cc, .func (.func 132) #[] #[.pointer (some ⟨ga, 0, none⟩), .pointer (some ⟨gb, 0, none⟩)]] w fun e w' => e = .returned (.bool (canN inp ts bound inp.length)) ∧ Below w.heap.size w w' := by
  have hl' : (inp.length : Int) ≤ 1048576 := by omega
  have HI := Lib.hid h
  have HJ := Lib.hid h'
  have HK := Lib.hid h2
  have HA := Lib.hid hA
  have HB := Lib.hid hB
  clear h h' h2 hA hB
  go_enter Try.func134, Try.ntmps134
  go_wp2
  go_loopw [6, 9] (fun _ i wr => ∃ k : Nat, k ≤ inp.length ∧ i = .int .i64 k ∧ canN inp ts bound k = true ∧ Hid (Below w.heap.size w wr)) (fun _ i _ => inp.length - (intOf i).toNat)
  case atStart => exact ⟨0, by omega, rfl, rfl, Lib.hid (Below.refl _ _)⟩
  case round =>
    obtain ⟨k, hk, rfl, ha, hb⟩ := hrel
    have HA2 := Lib.hid ha
    clear ha
    by_cases hlt : k < inp.length
    · obtain ⟨b, off, rfl, n1, e0⟩ := RI.at_ (HK.out.step hb.out) hlt
      generalize hx : inp.getD k 0 = x at e0
      have HX := Lib.hid hx
      have XC := Lib.hid (isKnown_any ga gb ra ts A c bound B cb x hl hlb wr (HA.out.step hb.out) (HB.out.step hb.out) (HI.out.step hb.out) (HJ.out.step hb.out))
      generalize hr : canAt ts bound x = res at XC
      have HF := Lib.hid (show canAt ts bound (inp.getD k 0) = res by rw [HX.out, hr])
      have hk0 : (0 : Int) ≤ (k : Int) := by omega
      have hk1 : (k : Int) < (inp.length : Int) := by omega
      clear hx hr
      go_wp2_with fail
      refine XC.out.mono ?_
      rintro e u ⟨rfl, d⟩
      have hb2 := step hb.out d
      clear d
      cases res
      · go_wp2
        go_ret
        exact ⟨ret_bool (canN_not _ _ _ k _ hlt HF.out).symm, hb2⟩
      · go_wp2
        go_roundw
        case rel => exact ⟨k + 1, by omega, by go_num, by rw [canN_succ, HA2.out, HF.out]; rfl, Lib.hid hb2⟩
        case measure => simp [intOf]; omega
    · obtain rfl : k = inp.length := by omega
      go_wp2
      go_ret
      exact ⟨ret_bool HA2.out.symm, hb.out⟩

set_option maxRecDepth 100000 in
set_option maxHeartbeats 1000000 in
theorem impl_CanCall (r : Int) (inp : List Int) (li co qu : Int) (C : Option Addr) (cc : Nat) (ra : Int) (ts : List Int) (A : Option Addr) (c : Nat) (B : Option Addr) (cb : Nat) (bound : List Int) (hli : inp.length ≤ 1048576) (hl : ts.length ≤ 1048576) (hlb : bound.length ≤ 1048576) (w : World)
    (h : RI w C inp) (h1 : RI w A ts) (h2 : RI w B bound) :
    Calls Try.prog 97 #[.agg #[.int .i64 r, .slice C inp.length cc, .int .i64 li, .int .i64 co, .int .i64 qu], .agg #[.int .i64 ra, .slice A ts.length c], .slice B bound.length cb] w fun e w' => e = .returned (.bool (canB r inp ra ts bound)) ∧ Below w.heap.size w w' := by
  have b1 := below_alloc w (.cells #[.int .i64 r, .slice C inp.length cc, .int .i64 li, .int .i64 co, .int .i64 qu] 71)
  have b2 := below_alloc (w.alloc (.cells #[.int .i64 r, .slice C inp.length cc, .int .i64 li, .int .i64 co, .int .i64 qu] 71)) (.cells #[.int .i64 ra, .slice A ts.length c] 73)
  have b3 := below_alloc ((w.alloc (.cells #[.int .i64 r, .slice C inp.length cc, .int .i64 li, .int .i64 co, .int .i64 qu] 71)).alloc (.cells #[.int .i64 ra, .slice A ts.length c] 73)) (.cells #[.slice B bound.length cb] 22)
  have BB := Lib.hid (step (step b1 b2) b3)
  have XA := (Box.new (w.alloc (.cells #[.int .i64 r, .slice C inp.length cc, .int .i64 li, .int .i64 co, .int .i64 qu] 71)) #[.int .i64 ra, .slice A ts.length c] 73).step b3
  have XB := Box.new ((w.alloc (.cells #[.int .i64 r, .slice C inp.length cc, .int .i64 li, .int .i64 co, .int .i64 qu] 71)).alloc (.cells #[.int .i64 ra, .slice A ts.length c] 73)) #[.slice B bound.length cb] 22
  rw [al_size] at XA
  rw [al_size, al_size] at XB
  have XC := Lib.hid (areAllK_any (w.heap.size + 1) (w.heap.size + 1 + 1) ra ts A c bound B cb inp C cc hl hlb hli _ XA XB (h1.step BB.out) (h2.step BB.out) (h.step BB.out))
  clear b1 b2 b3 XA XB h h1 h2
  by_cases hr : r = ra
  · have E := Lib.hid (show canB r inp ra ts bound = canN inp ts bound inp.length by simp [canB, hr])
    have d1 : (r == ra) = true := by simpa using hr
    rw [E.out]
    clear hr
    go_enter Try.func97, Try.ntmps97
    go_wp2_with fail
    refine XC.out.mono ?_
    rintro e u ⟨rfl, d⟩
    have D := Lib.hid (step BB.out d)
    clear d
    go_wp2
    go_ret
    exact ⟨rfl, D.out⟩
  · have E := Lib.hid (show canB r inp ra ts bound = false by simp [canB, hr])
    have d1 : (r == ra) = false := by simpa using hr
    rw [E.out]
    clear hr
    go_enter Try.func97, Try.ntmps97
    go_wp2
    go_ret
    exact ⟨rfl, BB.out⟩

set_option maxRecDepth 100000 in
set_option maxHeartbeats 1000000 in
theorem spec_CanCall (r : Int) (inp : List Int) (li co qu : Int) (C : Option Addr) (cc : Nat) (ra : Int) (ts : List Int) (A : Option Addr) (c : Nat) (B : Option Addr) (cb : Nat) (bound : List Int) (hli : inp.length ≤ 1048576) (hl : ts.length ≤ 1048576) (hlb : bound.length ≤ 1048576) (w : World)
    (h : RI w C inp) (h1 : RI w A ts) (h2 : RI w B bound) :
    Calls Try.prog 51 #[.agg #[.int .i64 r, .slice C inp.length cc, .int .i64 li, .int .i64 co, .int .i64 qu], .agg #[.int .i64 ra, .slice A ts.length c], .slice B bound.length cb] w fun e w' => e = .returned (.bool (canB r inp ra ts bound)) ∧ Below w.heap.size w w' := by
  have hli' : (inp.length : Int) ≤ 1048576 := by omega
  have hl' : (ts.length : Int) ≤ 1048576 := by omega
  have b1 := below_alloc w (.cells #[.int .i64 r, .slice C inp.length cc, .int .i64 li, .int .i64 co, .int .i64 qu] 71)
  have b2 := below_alloc (w.alloc (.cells #[.int .i64 r, .slice C inp.length cc, .int .i64 li, .int .i64 co, .int .i64 qu] 71)) (.cells #[.int .i64 ra, .slice A ts.length c] 73)
  have BB := Lib.hid (step b1 b2)
  have XM := Lib.hid ((Box.new w #[.int .i64 r, .slice C inp.length cc, .int .i64 li, .int .i64 co, .int .i64 qu] 71).step b2)
  have XA0 := Box.new (w.alloc (.cells #[.int .i64 r, .slice C inp.length cc, .int .i64 li, .int .i64 co, .int .i64 qu] 71)) #[.int .i64 ra, .slice A ts.length c] 73
  rw [al_size] at XA0
  have XA := Lib.hid XA0
  have HI := Lib.hid h
  have HJ := Lib.hid h1
  have HK := Lib.hid h2
  clear b1 b2 XA0 h h1 h2
  by_cases hr : r = ra
  · have E := Lib.hid (show canB r inp ra ts bound = canN inp ts bound inp.length by simp [canB, hr])
    have d1 : (r == ra) = true := by simpa using hr
    have d2 : (r != ra) = false := by simpa using hr
    rw [E.out]
    clear hr
    go_enter Try.func51, Try.ntmps51
    go_wp2
    go_loopw [7, 8] (fun i _ wr => ∃ k : Nat, k ≤ inp.length ∧ i = .int .i64 k ∧ canN inp ts bound k = true ∧ Hid (Below w.heap.size w wr) ∧ Hid (Box wr w.heap.size #[.int .i64 r, .slice C inp.length cc, .int .i64 li, .int .i64 co, .int .i64 qu] 71) ∧ Hid (Box wr (w.heap.size + 1) #[.int .i64 ra, .slice A ts.length c] 73)) (fun i _ _ => inp.length - (intOf i).toNat)
    case atStart => exact ⟨0, by omega, rfl, rfl, BB, XM, XA⟩
    case round =>
      obtain ⟨k, hk, rfl, ha, hb, xm, xa⟩ := hrel
      have HA2 := Lib.hid ha
      clear ha
      have m1 := xm.out.cell 1
      have a1 := xa.out.cell 1
      simp only [List.getElem?_toArray, List.getElem?_cons_zero, List.getElem?_cons_succ] at m1 a1
      by_cases hlt : k < inp.length
      · obtain ⟨b, off, rfl, n1, e0⟩ := RI.at_ (HI.out.step hb.out) hlt
        generalize hx : inp.getD k 0 = p at e0
        have HX := Lib.hid hx
        have hk0 : (0 : Int) ≤ (k : Int) := by omega
        have hk1 : (k : Int) < (inp.length : Int) := by omega
        clear hx
        by_cases hin : inB p 0 ((ts.length : Int) - 1) = true
        · have HN := Lib.hid hin
          obtain ⟨j, rfl, hj⟩ := inB_nat hin
          have X1 := Lib.hid fun W => HN.out ▸ left_same (l1In_any (j : Int) 0 ((ts.length : Int) - 1) W)
          obtain ⟨b2, off2, rfl, n2, hc⟩ := RI.at_ (HJ.out.step hb.out) hj
          generalize ht : ts.getD j 0 = t at hc
          have HT := Lib.hid ht
          have hj0 : (0 : Int) ≤ (j : Int) := by omega
          have hj1 : (j : Int) < (ts.length : Int) := by omega
          clear hin ht
          go_wp2
          go_quiet ((first | (go_at_call 49; exact Calls.quiet_of_same (X1.out _))))
          go_wp2
          go_quiet (fail)
          go_wp2_with fail
          refine (spec_IsVar t _).mono ?_
          rintro e w' ⟨he, rfl⟩
          by_cases hv : inB t 10 17 = true
          · have HV := Lib.hid hv
            rw [hv] at he
            subst he
            have CV := Lib.hid (canAt_var (bound := bound) HN.out HT.out HV.out)
            have XH := Lib.hid fun (n : Nat) => l2Has_any 0 w.heap.size B cb bound t hlb (wr.drewN n) (HK.out.below (below_drewN hb.out n) (Nat.le_refl _))
            generalize decide (t ∈ bound) = res at CV XH
            clear hv
            go_wp2_with fail
            refine (XH.out _).mono ?_
            rintro e w' ⟨rfl, rfl⟩
            cases res
            · go_wp2
              go_ret
              exact ⟨ret_bool (canN_not _ _ _ k _ hlt (by rw [HX.out, CV.out])).symm, by first | exact hb.out | exact below_drewN hb.out _⟩
            · go_wp2
              go_roundw
              case rel => exact ⟨k + 1, by omega, by go_num, by rw [canN_succ, HA2.out, HX.out, CV.out]; rfl, Lib.hid (below_drewN hb.out _), Lib.hid xm.out, Lib.hid xa.out⟩
              case measure => simp [intOf]; omega
          · have HV := Lib.hid (show inB t 10 17 = false by simpa using hv)
            rw [HV.out] at he
            subst he
            have CV := Lib.hid (canAt_con (bound := bound) HN.out HT.out HV.out)
            clear hv
            go_wp2
            go_roundw
            case rel => exact ⟨k + 1, by omega, by go_num, by rw [canN_succ, HA2.out, HX.out, CV.out]; rfl, Lib.hid (below_drewN hb.out _), Lib.hid xm.out, Lib.hid xa.out⟩
            case measure => simp [intOf]; omega
        · have HN := Lib.hid (show inB p 0 ((ts.length : Int) - 1) = false by simpa using hin)
          have X1 := Lib.hid fun W => HN.out ▸ left_same (l1In_any p 0 ((ts.length : Int) - 1) W)
          clear hin
          go_wp2
          go_quiet ((first | (go_at_call 49; exact Calls.quiet_of_same (X1.out _))))
          go_wp2
          go_ret
          exact ⟨ret_bool (canN_not _ _ _ k _ hlt (by rw [HX.out, canAt_out HN.out])).symm, below_drewN hb.out _⟩
      · obtain rfl : k = inp.length := by omega
        go_wp2
        go_ret
        exact ⟨ret_bool HA2.out.symm, hb.out⟩
  · have E := Lib.hid (show canB r inp ra ts bound = false by simp [canB, hr])
    have d1 : (r == ra) = false := by simpa using hr
    have d2 : (r != ra) = true := by simpa using hr
    rw [E.out]
    clear hr
    go_enter Try.func51, Try.ntmps51
    go_wp2
    go_ret
    exact ⟨rfl, BB.out⟩
end Go.Proofs.Ytighalbnpgmdfaa

namespace Go.Proofs.Ytighalbnpgmdfaa
open Go.ChangeShapes Go.WideShapes Go.ChangeAt Go.RowKit Go.Sort
set_option linter.unusedVariables false
set_option linter.unusedSimpArgs false

set_option maxRecDepth 100000 in
theorem fields_step : Try.prog.fieldsOf 68 = #[{ name := "Atom", type := 3, offset := 0, embedded := false, tag := "", pkgPath := "", byteOffset := 0 }, { name := "Method", type := 3, offset := 1, embedded := false, tag := "", pkgPath := "", byteOffset := 8 }] := by kernel_rfl
set_option maxRecDepth 100000 in
theorem neq_stepT (a b a' b' : Int) (w : World) : (binOp .neq 68 (.agg #[.int .i64 a, .int .i64 b]) (.agg #[.int .i64 a', .int .i64 b'])).run Try.prog w = .ok (.bool (!(a == a' && b == b'))) w := by
  rw [run_neq_struct, run_equalIn_agg w 9999 68 _ _ (by kernel_rfl) (by kernel_rfl), fields_step]
  have h3 := Try.underlying3
  by_cases h1 : a = a' <;> by_cases h2 : b = b' <;> simp [Op.eqFields, go_sem, h3, h1, h2]
set_option maxRecDepth 100000 in
theorem eq_stepT (a b a' b' : Int) (w : World) : (binOp .eql 68 (.agg #[.int .i64 a, .int .i64 b]) (.agg #[.int .i64 a', .int .i64 b'])).run Try.prog w = .ok (.bool (a == a' && b == b')) w := by
  rw [run_eql_struct, run_equalIn_agg w 9999 68 _ _ (by kernel_rfl) (by kernel_rfl), fields_step]
  have h3 := Try.underlying3
  by_cases h1 : a = a' <;> by_cases h2 : b = b' <;> simp [Op.eqFields, go_sem, h3, h1, h2]
theorem stp_take (us bs : SL) (hl : us.length = bs.length) (k : Nat) (hk : k < us.length) (h : us.take k = bs.take k) {r x r' x' : Int} (ha : us.getD k (0, 0) = (r, x)) (hb : bs.getD k (0, 0) = (r', x')) (hs : r = r' ∧ x = x') : us.take (k + 1) = bs.take (k + 1) := by
  rw [List.take_succ_eq_append_getElem hk, List.take_succ_eq_append_getElem (by omega), h]
  have h1 : us[k] = us.getD k (0, 0) := by simp [List.getD_eq_getElem?_getD, hk]
  have h2 : bs[k]'(by omega) = bs.getD k (0, 0) := by simp [List.getD_eq_getElem?_getD, show k < bs.length by omega]
  rw [h1, h2, ha, hb, hs.1, hs.2]
theorem stp_differ (us bs : SL) (k : Nat) {r x r' x' : Int} (ha : us.getD k (0, 0) = (r, x)) (hb : bs.getD k (0, 0) = (r', x')) (hs : ¬ (r = r' ∧ x = x')) : decide (us = bs) = false := by
  rw [decide_eq_false]
  rintro rfl
  rw [ha] at hb
  injection hb with h1 h2
  exact hs ⟨h1, h2⟩

end Go.Proofs.Ytighalbnpgmdfaa

namespace Go.Proofs.Ytighalbnpgmdfaa
open Go.ChangeShapes Go.WideShapes Go.ChangeAt Go.RowKit Go.Sort
set_option linter.unusedVariables false
set_option linter.unusedSimpArgs false

def flatZ (l : SL) : List Value := l.flatMap fun st => [Value.int .i64 st.1, Value.int .i64 st.2]
theorem flatZ_snoc (l : SL) (a b : Int) : flatZ (l ++ [(a, b)]) = flatZ l ++ [.int .i64 a, .int .i64 b] := by simp [flatZ]
theorem flatZ_len : ∀ l : SL, (flatZ l).length = l.length * 2
  | [] => rfl
  | st :: l => by
    have := flatZ_len l
    show ([Value.int .i64 st.1, Value.int .i64 st.2] ++ flatZ l).length = _
    rw [List.length_append, this, List.length_cons]
    simp
    omega
theorem flatZ_at : ∀ (l : SL) {k : Nat} (hk : k < l.length), (flatZ l)[k * 2]? = some (.int .i64 (l.getD k (0, 0)).1) ∧ (flatZ l)[k * 2 + 1]? = some (.int .i64 (l.getD k (0, 0)).2)
  | st :: l, 0, _ => ⟨rfl, rfl⟩
  | st :: l, k + 1, hk => by
    have := flatZ_at l (k := k) (by simpa using hk)
    have e : flatZ (st :: l) = .int .i64 st.1 :: .int .i64 st.2 :: flatZ l := rfl
    rw [e, show (k + 1) * 2 = k * 2 + 1 + 1 by omega, show k * 2 + 1 + 1 + 1 = k * 2 + 1 + 1 + 1 by rfl]
    simpa using this
/-- A row of steps of the call's own. -/
def ZS (w : World) (base : Nat) (v : Value) (l : SL) : Prop := w.ownsRow base 68 2 v l.length (flatZ l)
theorem ZS.nil (w : World) (base : Nat) : ZS w base (.slice none 0 0) [] := World.ownsRow_nil _ _ _ _
theorem ZS.lit (w : World) (base : Nat) (hb : base ≤ w.heap.size) : ZS (w.alloc (.cells #[] 68)) base (.slice (some ⟨w.heap.size, 0, none⟩) 0 0) [] := World.ownsRow_lit (base := base) (e := 68) (size := 2) w #[] 0 hb (by unfold maxLen; omega) rfl
theorem ZS.step {w w' : World} {base : Nat} {v : Value} {l : SL} (h : ZS w base v l) (d : Below w.heap.size w w') : ZS w' base v l := ownsRow_step h d
theorem ZS.lo {w : World} {base base' : Nat} {v : Value} {l : SL} (h : ZS w base v l) (hb : base' ≤ base) : ZS w base' v l := ownsRow_lo h hb
theorem ZS.form {w : World} {base : Nat} {v : Value} {l : SL} (h : ZS w base v l) : ∃ A c, v = .slice A l.length c := ownsRow_form h
theorem ZS.stps {w : World} {base lo c : Nat} {A : Option Addr} {l : SL} (h : ZS w base (.slice A l.length c) l) (hlo : lo ≤ base) : Stps w lo w.heap.size A l := fun hne => by
  rcases h.2 with ⟨e, h0⟩ | ⟨g, cap, cur, hv, hb, hg, _⟩
  · exact absurd (List.length_eq_zero_iff.1 h0) hne
  · injection hv with e1 e2 e3
    subst e1 e3
    have hlt : g < w.heap.size := by
      rcases Nat.lt_or_ge g w.heap.size with h1 | h1
      · exact h1
      · rw [Array.getElem?_eq_none h1] at hg; cases hg
    refine ⟨g, 0, rfl, by omega, hlt, fun k hk => ?_⟩
    obtain ⟨a1, a2⟩ := flatZ_at l hk
    have c1 := World.ownsRow.cells h (g := g) rfl _ _ a1
    have c2 := World.ownsRow.cells h (g := g) rfl _ _ a2
    rw [add_eq] at c1 c2
    exact ⟨by simpa using c1, by simpa [Nat.add_assoc] using c2⟩
theorem ZS.rz {w : World} {base c : Nat} {A : Option Addr} {l : SL} (h : ZS w base (.slice A l.length c) l) : RZ w A l := h.stps (Nat.zero_le _)

/-- append(v, y) of one step, in a new block. -/
theorem wpList_pushZ {P : Program} {W w0 : World} {ops : Array Oper} {rest : List Oper} {o : Oper} {a : Act} {Q : Exit → Act → World → Prop} (hgd : o.guard = none) (s x : Operand) (t : TypeId)
    (ho : o.op = .call { callee := .builtin .append, args := #[s, x], argTypes := #[t, t] })
    (i : TypeInfo) (ht : P.underlying t = some (.slice 68)) (hi : P.info? 68 = some i) (hz : i.zero = some (.agg #[.int .i64 0, .int .i64 0])) (hz1 : i.size = 2) (hz2 : i.bytes = 16)
    {base : Nat} {v : Value} {l : SL} {y1 y2 : Int} (hs : a.eval s = v) (hx : a.eval x = .slice (some ⟨W.heap.size, 0, none⟩) 1 1)
    (hown : ZS W base v l) (hb : Below base w0 W) (hbase : base ≤ W.heap.size) (hn : l.length + 1 ≤ 1048580)
    (h : ∀ v' w', ZS w' base v' (l ++ [(y1, y2)]) → Below base w0 w' → base < w'.heap.size → wpList P ops Q rest (a.put o.dst v') w') :
    wpList P ops Q (o :: rest) a (W.alloc (.cells #[.int .i64 y1, .int .i64 y2] 68)) := by
  refine wpList_append_own (P := P) _ hgd s x t ho base 68 i _ 2 16 ht hi hz hz1 hz2 rfl (by omega) v l.length _ hs (hown.alloc _) ⟨W.heap.size, 0, none⟩ 1 1 [.int .i64 y1, .int .i64 y2] hx rfl
    (World.news_of_block (cs := #[.int .i64 y1, .int .i64 y2]) (t := 68) (fr := (0, 0)) (heap_alloc_new W _)) (by simp [Value.oneCell'])
    (by unfold maxLen; omega) (by omega) (by simp; omega) ?_
  intro v' w' hown' hg _
  refine h v' w' ?_ ((hb.alloc hbase _).grown hg (by simp; omega) fun k hk => (hown.lt k hk).1) (by have := hg.size; simp at this; omega)
  unfold ZS
  rw [flatZ_snoc, List.length_append]
  exact hown'

def missI (n : Nat) (p : SL) : List Int := (miss n p).map fun i : Nat => (i : Int)
theorem missI_yes {n : Nat} {p : SL} (h : usedB p (n : Int) = false) : missI (n + 1) p = missI n p ++ [(n : Int)] := by unfold missI; rw [miss_yes h]; simp
theorem missI_no {n : Nat} {p : SL} (h : usedB p (n : Int) = true) : missI (n + 1) p = missI n p := by unfold missI; rw [miss_no h]
theorem missI_len (n : Nat) (p : SL) : (missI n p).length ≤ n := by unfold missI; rw [List.length_map]; exact miss_len n p
theorem used_not (p : SL) (k : Nat) (i : Int) (hk : k < p.length) {a m : Int} (hf : p.getD k (0, 0) = (a, m)) (h : usedB (p.take k) i = false) (hne : a ≠ i) : usedB (p.take (k + 1)) i = false := by
  rw [take_snoc p hk hf, usedB_snoc, h, decide_eq_false fun e => hne e.symm]
  rfl
theorem used_yes (p : SL) (k : Nat) (i : Int) (hk : k < p.length) {m : Int} (hf : p.getD k (0, 0) = (i, m)) : usedB p i = true := by
  unfold usedB
  rw [decide_eq_true_eq, List.mem_map]
  refine ⟨(i, m), ?_, rfl⟩
  rw [← hf, List.getD_eq_getElem?_getD, List.getElem?_eq_getElem hk]
  exact List.getElem_mem _

set_option maxRecDepth 100000 in
set_option maxHeartbeats 1000000 in
theorem missingAtoms_any (O : Option Addr) (co : Nat) (p : SL) (H A : Option Addr) (ch c : Nat) (hs : List Int) (l : FL) (hp : p.length ≤ 1048576) (hl : l.length ≤ 1048576) (w : World) (h : RZ w O p) :
    Calls Try.prog 66 #[.slice O p.length co, .agg #[.slice H hs.length ch, .slice A l.length c]] w (ListT w (missI l.length p)) := by
  obtain ⟨i0, hi, hz0, hz1, hz2⟩ := info_parts int_info
  have hl' : (l.length : Int) ≤ 1048576 := by omega
  have hp' : (p.length : Int) ≤ 1048576 := by omega
  have HI := Lib.hid h
  have B0 := Lib.hid (below_alloc w (.cells #[.slice H hs.length ch, .slice A l.length c] 37))
  clear h
  go_enter Try.func66, Try.ntmps66
  go_wp2
  go_step3
  go_wp2
  go_step3
  go_wp2
  go_loopg [5, 12] l.length (fun gk o i wr => ∃ (k : Nat) (A2 : Option Addr) (c2 : Nat) (out : List Int), k + gk = l.length ∧ i = .int .i64 k ∧ o = .slice A2 out.length c2 ∧ Hid (out = missI k p) ∧ Hid (wr.ownsRow w.heap.size 3 1 (.slice A2 out.length c2) out.length (out.map (Value.int .i64))) ∧ Hid (Below w.heap.size w wr))
  case atStart => exact ⟨0, none, 0, [], by omega, rfl, rfl, Lib.hid rfl, Lib.hid (World.ownsRow_nil _ _ _ _), B0⟩
  case round =>
    obtain ⟨k, A2, c2, out, hk, rfl, rfl, hO, hown, hb⟩ := hrel
    have hk0 : (0 : Int) ≤ (k : Int) := by omega
    cases gk with
    | zero =>
      have hke : k = l.length := by omega
      subst hke
      clear hk
      go_wp2
      try rw [Exit.noGoto_ret]
      go_ret
      exact ⟨_, rfl, by rw [← hO.out]; exact hown.out, hb.out⟩
    | succ g =>
      have hk1 : (k : Int) < (l.length : Int) := by omega
      go_wp2
      go_loopg [17] p.length (fun g2 i wr2 => ∃ j : Nat, j + g2 = p.length ∧ i = .int .i64 j ∧ Hid (usedB (p.take j) (k : Int) = false) ∧ Hid (wr2.ownsRow w.heap.size 3 1 (.slice A2 out.length c2) out.length (out.map (Value.int .i64))) ∧ Hid (Below w.heap.size w wr2))
      case atStart => exact ⟨0, by omega, rfl, Lib.hid rfl, hown, hb⟩
      case round =>
        obtain ⟨j, hj, rfl, hU, hown2, hb2⟩ := hrel
        have hj0 : (0 : Int) ≤ (j : Int) := by omega
        cases gk with
        | zero =>
          have hje : j = p.length := by omega
          subst hje
          clear hj
          have UF := Lib.hid (show usedB p (k : Int) = false by have := hU.out; rwa [take_all] at this)
          have OL := Lib.hid (show out.length ≤ k by rw [hO.out]; exact missI_len k p)
          have OL2 := OL.out
          obtain ⟨out2, ho2⟩ : ∃ o, o = out ++ [(k : Int)] := ⟨_, rfl⟩
          have E2 := Lib.hid (show out2 = missI (k + 1) p by rw [missI_yes UF.out, ← hO.out, ho2])
          have EL := Lib.hid (show out2.length = out.length + 1 by rw [ho2]; simp)
          have EM := Lib.hid (show out2.map (Value.int .i64) = out.map (Value.int .i64) ++ [.int .i64 (k : Int)] by rw [ho2]; simp)
          have SZ := hb2.out.size
          clear ho2
          go_wp2_with (at_builtin; refine wpList_push rfl _ _ _ 3 rfl i0 Try.underlying22 hi (.int .i64 0) 8 hz0 hz1 hz2 rfl (by omega) rfl rfl rfl hown2.out hb2.out SZ (by omega) ?_; intro v' w' hown' hb' hsz'; obtain ⟨A', c', rfl⟩ := ownsRow_form hown')
          go_roundg g
          case measure => omega
          case rel =>
            refine ⟨k + 1, A', c', out2, by omega, by go_num, by rw [EL.out], E2, Lib.hid ?_, Lib.hid hb'⟩
            rw [EL.out, EM.out]
            exact hown'
        | succ g2 =>
          have hjt : j < p.length := by omega
          have hj1 : (j : Int) < (p.length : Int) := by omega
          generalize hf : p.getD j (0, 0) = f
          obtain ⟨a, m⟩ := f
          have HF := Lib.hid hf
          obtain ⟨b, off, rfl, n1, e0, e1⟩ := (HI.out.step hb2.out).at_ hjt hf
          clear hf
          have O3 := Lib.hid (hown2.out.alloc (.cells #[.int .i64 a, .int .i64 m] 68))
          have B3 := Lib.hid (step hb2.out (below_alloc wr (.cells #[.int .i64 a, .int .i64 m] 68)))
          by_cases he : a = (k : Int)
          · have d1 : (a == (k : Int)) = true := by simpa using he
            have UY := Lib.hid (used_yes p j (k : Int) hjt (by rw [HF.out, he]))
            have E2 := Lib.hid (show out = missI (k + 1) p by rw [missI_no UY.out, ← hO.out])
            clear he
            go_wp2
            go_roundg g
            case measure => omega
            case rel => exact ⟨k + 1, A2, c2, out, by omega, by go_num, rfl, E2, O3, B3⟩
          · have d1 : (a == (k : Int)) = false := by simpa using he
            have UN := Lib.hid (used_not p j (k : Int) hjt HF.out hU.out he)
            clear he
            go_wp2
            go_roundg g2
            case measure => omega
            case rel => exact ⟨j + 1, by omega, by go_num, UN, O3, B3⟩
end Go.Proofs.Ytighalbnpgmdfaa
