/- What the two functions LogCost answer, and the two functions UsesOf. Conditions: none beyond each theorem's own. -/
import Derived.Test.YtcgmdleefaplfaaOC
import Derived.Test.YtcgmdleefaplfaaAcc
namespace Go.Proofs.Ytcgmdleefaplfaa
open Go.ChangeShapes Go.WideShapes Go.ChangeAt Go.RowKit Go.Sort
set_option linter.unusedVariables false
set_option linter.unusedSimpArgs false

theorem take_snocF (p : FL) {k : Nat} (hk : k < p.length) {a : Int} {vs : List Int} (hf : p.getD k (0, []) = (a, vs)) : p.take (k + 1) = p.take k ++ [(a, vs)] := by
  have e : p[k] = p.getD k (0, []) := by simp [List.getD_eq_getElem?_getD, hk]
  rw [List.take_succ_eq_append_getElem hk, e, hf]
/-- What the calls of a log cost. -/
def costL (ms : ML) (p : FL) : Int := (p.map fun a => costOf ms a.1).sum
theorem costL_take (ms : ML) (p : FL) {k : Nat} (hk : k < p.length) {a : Int} {vs : List Int} (hf : p.getD k (0, []) = (a, vs)) : costL ms (p.take (k + 1)) = costL ms (p.take k) + costOf ms a := by
  unfold costL
  rw [take_snocF p hk hf, List.map_append, List.sum_append]
  simp

set_option maxRecDepth 100000 in
set_option maxHeartbeats 1000000 in
theorem spec_LogCost (A : Option Addr) (c : Nat) (ms : ML) (A' : Option Addr) (c' : Nat) (l : FL) (hz : szM ms ≤ 1048576) (hl : l.length ≤ 1048576) (w : World) (h : RM w A ms) (h' : RF w A' l) :
    Calls Try.prog 19 #[.slice A ms.length c, .slice A' l.length c'] w fun e w' => e = .returned (.int .i64 (costL ms l)) ∧ Below w.heap.size w w' := by
  have hl1 := szM_len hz
  have hl1' : (ms.length : Int) ≤ 1048576 := by omega
  have hl' : (l.length : Int) ≤ 1048576 := by omega
  have HI := Lib.hid h
  have HJ := Lib.hid h'
  clear h h'
  go_enter Try.func19, Try.ntmps19
  go_wp2
  go_loopw [5, 6] (fun z i wr => ∃ (k : Nat) (n : Int), k ≤ l.length ∧ i = .int .i64 k ∧ z = .int .i64 n ∧ Hid (n = costL ms (l.take k)) ∧ 0 ≤ n ∧ n ≤ 99 * (k : Int) ∧ Hid (Below w.heap.size w wr)) (fun _ i _ => l.length - (intOf i).toNat)
  case atStart => exact ⟨0, 0, by omega, rfl, rfl, Lib.hid rfl, by omega, by omega, Lib.hid (Below.refl _ _)⟩
  case round =>
    obtain ⟨k, n, hk, rfl, rfl, hn, n0, n1, hb⟩ := hrel
    by_cases hlt : k < l.length
    · generalize hf : l.getD k (0, []) = f
      obtain ⟨x, vs⟩ := f
      have CT := Lib.hid (costL_take ms l hlt hf)
      obtain ⟨b, off, V, cv, rfl, hb1, e0, e1, _, _, _⟩ := (HJ.out.step hb.out).at_ hlt hf
      clear hf
      have hk0 : (0 : Int) ≤ (k : Int) := by omega
      have hk1 : (k : Int) < (l.length : Int) := by omega
      by_cases hin : inB x 0 ((ms.length : Int) - 1) = true
      · have HN := Lib.hid hin
        obtain ⟨m, rfl, hm⟩ := inB_nat hin
        generalize hg : ms.getD m noM = g
        obtain ⟨r2, xs, li, co, qu⟩ := g
        have HG := Lib.hid hg
        obtain ⟨b2, off2, B, c2, rfl, nb, g0, g1, g2, g3, g4, _, _, _⟩ := (HI.out.step hb.out).at_ hm hg
        have hm0 : (0 : Int) ≤ (m : Int) := by omega
        have hm1 : (m : Int) < (ms.length : Int) := by omega
        clear hin hg
        by_cases hc : inB co 0 99 = true
        · have HC := Lib.hid hc
          have E := Lib.hid (cost_yes HN.out HG.out HC.out)
          have co1 : 0 ≤ co ∧ co ≤ 99 := by simpa [inB] using hc
          obtain ⟨co1, co2⟩ := co1
          have q0 : IntKind.i64.wrap (n + co) = n + co := IntWalk.i64_in _ ⟨by omega, by omega⟩
          clear hc
          go_wp2_with fail
          refine (l1In_any (m : Int) 0 ((ms.length : Int) - 1) _).mono ?_
          rintro e w' ⟨he, rfl⟩
          rw [HN.out] at he
          subst he
          go_wp2_with fail
          refine (l1In_any co 0 99 _).mono ?_
          rintro e w' ⟨he, rfl⟩
          rw [HC.out] at he
          subst he
          go_wp2
          go_roundw
          case rel => exact ⟨k + 1, n + co, by omega, by go_num, rfl, Lib.hid (by rw [CT.out, E.out, hn.out]), by omega, by omega, hb⟩
          case measure => simp [intOf]; omega
        · have HC := Lib.hid (show inB co 0 99 = false by simpa using hc)
          have E := Lib.hid (cost_no2 HG.out HC.out)
          clear hc
          go_wp2_with fail
          refine (l1In_any (m : Int) 0 ((ms.length : Int) - 1) _).mono ?_
          rintro e w' ⟨he, rfl⟩
          rw [HN.out] at he
          subst he
          go_wp2_with fail
          refine (l1In_any co 0 99 _).mono ?_
          rintro e w' ⟨he, rfl⟩
          rw [HC.out] at he
          subst he
          go_wp2
          go_roundw
          case rel => exact ⟨k + 1, n, by omega, by go_num, rfl, Lib.hid (by rw [CT.out, E.out, ← hn.out]; omega), by omega, by omega, hb⟩
          case measure => simp [intOf]; omega
      · have HN := Lib.hid (show inB x 0 ((ms.length : Int) - 1) = false by simpa using hin)
        have E := Lib.hid (cost_no1 HN.out)
        clear hin
        go_wp2_with fail
        refine (l1In_any x 0 ((ms.length : Int) - 1) _).mono ?_
        rintro e w' ⟨he, rfl⟩
        rw [HN.out] at he
        subst he
        go_wp2
        go_roundw
        case rel => exact ⟨k + 1, n, by omega, by go_num, rfl, Lib.hid (by rw [CT.out, E.out, ← hn.out]; omega), by omega, by omega, hb⟩
        case measure => simp [intOf]; omega
    · obtain rfl : k = l.length := by omega
      have O := Lib.hid (show n = costL ms l by rw [hn.out, take_all])
      go_wp2
      go_ret
      exact ⟨ret_int O.out, hb.out⟩

set_option maxRecDepth 100000 in
set_option maxHeartbeats 1000000 in
theorem impl_LogCost (A : Option Addr) (c : Nat) (ms : ML) (A' : Option Addr) (c' : Nat) (l : FL) (hz : szM ms ≤ 1048576) (hl : l.length ≤ 1048576) (w : World) (h : RM w A ms) (h' : RF w A' l) :
    Calls Try.prog 21 #[.slice A ms.length c, .slice A' l.length c'] w fun e w' => e = .returned (.int .i64 (costL ms l)) ∧ Below w.heap.size w w' := by
  have hl' : (l.length : Int) ≤ 1048576 := by omega
  have HI := Lib.hid h
  have HJ := Lib.hid h'
  clear h h'
  go_enter Try.func21, Try.ntmps21
  go_wp2
  go_loopw [5, 7, 10] (fun z _ i wr => ∃ (k : Nat) (n : Int), k ≤ l.length ∧ i = .int .i64 k ∧ z = .int .i64 n ∧ Hid (n = costL ms (l.take k)) ∧ 0 ≤ n ∧ n ≤ 99 * (k : Int) ∧ Hid (Below w.heap.size w wr)) (fun _ _ i _ => l.length - (intOf i).toNat)
  case atStart => exact ⟨0, 0, by omega, rfl, rfl, Lib.hid rfl, by omega, by omega, Lib.hid (Below.refl _ _)⟩
  case round =>
    obtain ⟨k, n, hk, rfl, rfl, hn, n0, n1, hb⟩ := hrel
    by_cases hlt : k < l.length
    · generalize hf : l.getD k (0, []) = f
      obtain ⟨x, vs⟩ := f
      have CT := Lib.hid (costL_take ms l hlt hf)
      obtain ⟨b, off, V, cv, rfl, hb1, e0, e1, _, _, _⟩ := (HJ.out.step hb.out).at_ hlt hf
      clear hf
      have hk0 : (0 : Int) ≤ (k : Int) := by omega
      have hk1 : (k : Int) < (l.length : Int) := by omega
      obtain ⟨co1, co2⟩ := costOf_rng ms x
      have XC := Lib.hid fun (W : World) (hW : RM W A ms) => costOfM_any A c ms x hz W hW
      generalize costOf ms x = co at CT co1 co2 XC
      have q0 : IntKind.i64.wrap (n + co) = n + co := IntWalk.i64_in _ ⟨by omega, by omega⟩
      have B2 := Lib.hid (step hb.out (below_alloc wr (.cells #[.int .i64 x, .slice V vs.length cv] 68)))
      go_wp2_with fail
      refine (XC.out _ (HI.out.step B2.out)).mono ?_
      rintro e u ⟨rfl, rfl⟩
      go_wp2
      go_roundw
      case rel => exact ⟨k + 1, n + co, by omega, by go_num, rfl, Lib.hid (by rw [CT.out, hn.out]), by omega, by omega, B2⟩
      case measure => simp [intOf]; omega
    · obtain rfl : k = l.length := by omega
      have O := Lib.hid (show n = costL ms l by rw [hn.out, take_all])
      go_wp2
      go_ret
      exact ⟨ret_int O.out, hb.out⟩
end Go.Proofs.Ytcgmdleefaplfaa
