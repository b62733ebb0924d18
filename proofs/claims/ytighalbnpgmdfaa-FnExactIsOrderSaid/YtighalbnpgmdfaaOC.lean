/- What the two functions OrderCost answer. Conditions: none beyond each theorem's own. -/
import Derived.Test.YtighalbnpgmdfaaOrdP
namespace Go.Proofs.Ytighalbnpgmdfaa
open Go.ChangeShapes Go.WideShapes Go.ChangeAt Go.RowKit Go.Sort
set_option linter.unusedVariables false
set_option linter.unusedSimpArgs false

theorem cost_yes {ms : ML} {m : Nat} {r li co qu : Int} {xs : List Int} (h1 : inB (m : Int) 0 ((ms.length : Int) - 1) = true) (hg : ms.getD m noM = (r, xs, li, co, qu)) (h2 : inB co 0 99 = true) : costOf ms (m : Int) = co := by
  unfold costOf
  rw [h1, Int.toNat_natCast, hg, h2]
  rfl
theorem cost_no2 {ms : ML} {m : Nat} {r li co qu : Int} {xs : List Int} (hg : ms.getD m noM = (r, xs, li, co, qu)) (h2 : inB co 0 99 = false) : costOf ms (m : Int) = 0 := by
  unfold costOf
  rw [Int.toNat_natCast, hg, h2]
  simp
theorem cost_no1 {ms : ML} {m : Int} (h1 : inB m 0 ((ms.length : Int) - 1) = false) : costOf ms m = 0 := by
  unfold costOf
  rw [h1]
  rfl
theorem inB_nat {x : Int} {n : Nat} (h : inB x 0 ((n : Int) - 1) = true) : ∃ k : Nat, x = k ∧ k < n := by
  simp only [inB, Bool.and_eq_true, decide_eq_true_eq] at h
  exact ⟨x.toNat, by omega, by omega⟩
theorem inB_len {k n : Nat} (h : k < n) : inB (k : Int) 0 ((n : Int) - 1) = true := by
  simp only [inB, Bool.and_eq_true, decide_eq_true_eq]
  omega

set_option maxRecDepth 100000 in
set_option maxHeartbeats 1000000 in
theorem spec_OrderCost (A : Option Addr) (c : Nat) (ms : ML) (A' : Option Addr) (c' : Nat) (l : SL) (hz : szM ms ≤ 1048576) (hl : l.length ≤ 1048576) (w : World) (h : RM w A ms) (h' : RZ w A' l) :
    Calls Try.prog 68 #[.slice A ms.length c, .slice A' l.length c'] w fun e w' => e = .returned (.int .i64 (costN ms l)) ∧ Below w.heap.size w w' := by
  have hl1 := szM_len hz
  have hl1' : (ms.length : Int) ≤ 1048576 := by omega
  have hl' : (l.length : Int) ≤ 1048576 := by omega
  have HI := Lib.hid h
  have HJ := Lib.hid h'
  clear h h'
  go_enter Try.func68, Try.ntmps68
  go_wp2
  go_loopw [5, 6] (fun z i wr => ∃ (k : Nat) (n : Int), k ≤ l.length ∧ i = .int .i64 k ∧ z = .int .i64 n ∧ Hid (n = costN ms (l.take k)) ∧ 0 ≤ n ∧ n ≤ 99 * (k : Int) ∧ Hid (Below w.heap.size w wr)) (fun _ i _ => l.length - (intOf i).toNat)
  case atStart => exact ⟨0, 0, by omega, rfl, rfl, Lib.hid rfl, by omega, by omega, Lib.hid (Below.refl _ _)⟩
  case round =>
    obtain ⟨k, n, hk, rfl, rfl, hn, n0, n1, hb⟩ := hrel
    by_cases hlt : k < l.length
    · generalize hf : l.getD k (0, 0) = f
      obtain ⟨r, x⟩ := f
      have CT := Lib.hid (costN_take ms l hlt hf)
      obtain ⟨b, off, rfl, hb1, e0, e1⟩ := (HJ.out.step hb.out).at_ hlt hf
      clear hf
      have hk0 : (0 : Int) ≤ (k : Int) := by omega
      have hk1 : (k : Int) < (l.length : Int) := by omega
      by_cases hin : inB x 0 ((ms.length : Int) - 1) = true
      · have HN := Lib.hid hin
        obtain ⟨m, rfl, hm⟩ := inB_nat hin
        generalize hg : ms.getD m noM = g
        obtain ⟨r2, xs, li, co, qu⟩ := g
        have HG := Lib.hid hg
        obtain ⟨b2, off2, B, c2, rfl, nb, g0, g1, g2, g3, g4, _, _, _⟩ := (HI.out.step hb.out).at_ hm hg
        have hm0 : (0 : Int) ≤ (m : Int) := by omega
        have hm1 : (m : Int) < (ms.length : Int) := by omega
        clear hin hg
        by_cases hc : inB co 0 99 = true
        · have HC := Lib.hid hc
          have E := Lib.hid (cost_yes HN.out HG.out HC.out)
          have co1 : 0 ≤ co ∧ co ≤ 99 := by simpa [inB] using hc
          obtain ⟨co1, co2⟩ := co1
          have q0 : IntKind.i64.wrap (n + co) = n + co := IntWalk.i64_in _ ⟨by omega, by omega⟩
          clear hc
          go_wp2_with fail
          refine (l1In_any (m : Int) 0 ((ms.length : Int) - 1) _).mono ?_
          rintro e w' ⟨he, rfl⟩
          rw [HN.out] at he
          subst he
          go_wp2_with fail
          refine (l1In_any co 0 99 _).mono ?_
          rintro e w' ⟨he, rfl⟩
          rw [HC.out] at he
          subst he
          go_wp2
          go_roundw
          case rel => exact ⟨k + 1, n + co, by omega, by go_num, rfl, Lib.hid (by rw [CT.out, E.out, hn.out]), by omega, by omega, hb⟩
          case measure => simp [intOf]; omega
        · have HC := Lib.hid (show inB co 0 99 = false by simpa using hc)
          have E := Lib.hid (cost_no2 HG.out HC.out)
          clear hc
          go_wp2_with fail
          refine (l1In_any (m : Int) 0 ((ms.length : Int) - 1) _).mono ?_
          rintro e w' ⟨he, rfl⟩
          rw [HN.out] at he
          subst he
          go_wp2_with fail
          refine (l1In_any co 0 99 _).mono ?_
          rintro e w' ⟨he, rfl⟩
          rw [HC.out] at he
          subst he
          go_wp2
          go_roundw
          case rel => exact ⟨k + 1, n, by omega, by go_num, rfl, Lib.hid (by rw [CT.out, E.out, ← hn.out]; omega), by omega, by omega, hb⟩
          case measure => simp [intOf]; omega
      · have HN := Lib.hid (show inB x 0 ((ms.length : Int) - 1) = false by simpa using hin)
        have E := Lib.hid (cost_no1 HN.out)
        clear hin
        go_wp2_with fail
        refine (l1In_any x 0 ((ms.length : Int) - 1) _).mono ?_
        rintro e w' ⟨he, rfl⟩
        rw [HN.out] at he
        subst he
        go_wp2
        go_roundw
        case rel => exact ⟨k + 1, n, by omega, by go_num, rfl, Lib.hid (by rw [CT.out, E.out, ← hn.out]; omega), by omega, by omega, hb⟩
        case measure => simp [intOf]; omega
    · obtain rfl : k = l.length := by omega
      have O := Lib.hid (show n = costN ms l by rw [hn.out, take_all])
      go_wp2
      go_ret
      exact ⟨ret_int O.out, hb.out⟩

set_option maxRecDepth 100000 in
set_option maxHeartbeats 1000000 in
theorem costOfM_any (A : Option Addr) (c : Nat) (ms : ML) (x : Int) (hz : szM ms ≤ 1048576) (w : World) (h : RM w A ms) :
    Calls Try.prog 100 #[.slice A ms.length c, .int .i64 x] w fun e w' => e = .returned (.int .i64 (costOf ms x)) ∧ w = w' := by
  have hl1 := szM_len hz
  have hl1' : (ms.length : Int) ≤ 1048576 := by omega
  by_cases hin : inB x 0 ((ms.length : Int) - 1) = true
  · have HN := Lib.hid hin
    obtain ⟨m, rfl, hm⟩ := inB_nat hin
    generalize hg : ms.getD m noM = g
    obtain ⟨r2, xs, li, co, qu⟩ := g
    have HG := Lib.hid hg
    obtain ⟨b2, off2, B, c2, rfl, nb, g0, g1, g2, g3, g4, _, _, _⟩ := h.at_ hm hg
    have hm0 : (0 : Int) ≤ (m : Int) := by omega
    have hm1 : (m : Int) < (ms.length : Int) := by omega
    clear hin hg h
    by_cases hc : inB co 0 99 = true
    · have HC := Lib.hid hc
      rw [cost_yes HN.out HG.out HC.out]
      clear hc
      go_enter Try.func100, Try.ntmps100
      go_wp2_with fail
      refine (hasMethod_any _ c ms.length (m : Int) hl1 _).mono ?_
      rintro e w' ⟨he, rfl⟩
      rw [HN.out] at he
      subst he
      go_wp2_with fail
      refine (isBetween_any co 0 99 _).mono ?_
      rintro e w' ⟨he, rfl⟩
      rw [HC.out] at he
      subst he
      go_wp2
      go_ret
      exact ⟨rfl, rfl⟩
    · have HC := Lib.hid (show inB co 0 99 = false by simpa using hc)
      rw [cost_no2 HG.out HC.out]
      clear hc
      go_enter Try.func100, Try.ntmps100
      go_wp2_with fail
      refine (hasMethod_any _ c ms.length (m : Int) hl1 _).mono ?_
      rintro e w' ⟨he, rfl⟩
      rw [HN.out] at he
      subst he
      go_wp2_with fail
      refine (isBetween_any co 0 99 _).mono ?_
      rintro e w' ⟨he, rfl⟩
      rw [HC.out] at he
      subst he
      go_wp2
      go_ret
      exact ⟨rfl, rfl⟩
  · have HN := Lib.hid (show inB x 0 ((ms.length : Int) - 1) = false by simpa using hin)
    rw [cost_no1 HN.out]
    clear hin
    go_enter Try.func100, Try.ntmps100
    go_wp2_with fail
    refine (hasMethod_any _ c ms.length x hl1 _).mono ?_
    rintro e w' ⟨he, rfl⟩
    rw [HN.out] at he
    subst he
    go_wp2
    go_ret
    exact ⟨rfl, rfl⟩

set_option maxRecDepth 100000 in
set_option maxHeartbeats 1000000 in
theorem impl_OrderCost (A : Option Addr) (c : Nat) (ms : ML) (A' : Option Addr) (c' : Nat) (l : SL) (hz : szM ms ≤ 1048576) (hl : l.length ≤ 1048576) (w : World) (h : RM w A ms) (h' : RZ w A' l) :
    Calls Try.prog 71 #[.slice A ms.length c, .slice A' l.length c'] w fun e w' => e = .returned (.int .i64 (costN ms l)) ∧ Below w.heap.size w w' := by
  have hl' : (l.length : Int) ≤ 1048576 := by omega
  have HI := Lib.hid h
  have HJ := Lib.hid h'
  clear h h'
  go_enter Try.func71, Try.ntmps71
  go_wp2
  go_loopw [5, 7, 10] (fun z _ i wr => ∃ (k : Nat) (n : Int), k ≤ l.length ∧ i = .int .i64 k ∧ z = .int .i64 n ∧ Hid (n = costN ms (l.take k)) ∧ 0 ≤ n ∧ n ≤ 99 * (k : Int) ∧ Hid (Below w.heap.size w wr)) (fun _ _ i _ => l.length - (intOf i).toNat)
  case atStart => exact ⟨0, 0, by omega, rfl, rfl, Lib.hid rfl, by omega, by omega, Lib.hid (Below.refl _ _)⟩
  case round =>
    obtain ⟨k, n, hk, rfl, rfl, hn, n0, n1, hb⟩ := hrel
    by_cases hlt : k < l.length
    · generalize hf : l.getD k (0, 0) = f
      obtain ⟨r, x⟩ := f
      have CT := Lib.hid (costN_take ms l hlt hf)
      obtain ⟨b, off, rfl, hb1, e0, e1⟩ := (HJ.out.step hb.out).at_ hlt hf
      clear hf
      have hk0 : (0 : Int) ≤ (k : Int) := by omega
      have hk1 : (k : Int) < (l.length : Int) := by omega
      obtain ⟨co1, co2⟩ := costOf_rng ms x
      have XC := Lib.hid fun (W : World) (hW : RM W A ms) => costOfM_any A c ms x hz W hW
      generalize costOf ms x = co at CT co1 co2 XC
      have q0 : IntKind.i64.wrap (n + co) = n + co := IntWalk.i64_in _ ⟨by omega, by omega⟩
      have B2 := Lib.hid (step hb.out (below_alloc wr (.cells #[.int .i64 r, .int .i64 x] 68)))
      go_wp2_with fail
      refine (XC.out _ (HI.out.step B2.out)).mono ?_
      rintro e u ⟨rfl, rfl⟩
      go_wp2
      go_roundw
      case rel => exact ⟨k + 1, n + co, by omega, by go_num, rfl, Lib.hid (by rw [CT.out, hn.out]), by omega, by omega, B2⟩
      case measure => simp [intOf]; omega
    · obtain rfl : k = l.length := by omega
      have O := Lib.hid (show n = costN ms l by rw [hn.out, take_all])
      go_wp2
      go_ret
      exact ⟨ret_int O.out, hb.out⟩
end Go.Proofs.Ytighalbnpgmdfaa
