/- What the two functions UsesOf answer. Conditions: none beyond each theorem's own. -/
import Derived.Test.YtcgmdleefaplfaaAcc
namespace Go.Proofs.Ytcgmdleefaplfaa
open Go.ChangeShapes Go.WideShapes Go.ChangeAt Go.RowKit Go.Sort
set_option linter.unusedVariables false
set_option linter.unusedSimpArgs false

/-- How often the log calls the method m. -/
def usesN (p : FL) (m : Int) : Nat := p.countP fun a => decide (a.1 = m)
theorem usesN_snoc (p : FL) (a : Int) (vs : List Int) (m : Int) : usesN (p ++ [(a, vs)]) m = usesN p m + (if a = m then 1 else 0) := by
  unfold usesN
  rw [List.countP_append, List.countP_cons, List.countP_nil]
  by_cases h : a = m
  · simp [h]
  · simp [h]
theorem usesN_take (p : FL) {k : Nat} (hk : k < p.length) {a : Int} {vs : List Int} (hf : p.getD k (0, []) = (a, vs)) (m : Int) : usesN (p.take (k + 1)) m = usesN (p.take k) m + (if a = m then 1 else 0) := by
  have e : p[k] = p.getD k (0, []) := by simp [List.getD_eq_getElem?_getD, hk]
  rw [List.take_succ_eq_append_getElem hk, e, hf, usesN_snoc]
theorem usesN_len (p : FL) (m : Int) : usesN p m ≤ p.length := List.countP_le_length

set_option maxRecDepth 100000 in
set_option maxHeartbeats 1000000 in
theorem spec_UsesOf (A : Option Addr) (c : Nat) (l : FL) (m : Int) (hl : l.length ≤ 1048576) (w : World) (h : RF w A l) :
    Calls Try.prog 14 #[.slice A l.length c, .int .i64 m] w fun e w' => e = .returned (.int .i64 (usesN l m : Nat)) ∧ Below w.heap.size w w' := by
  have hl' : (l.length : Int) ≤ 1048576 := by omega
  have HJ := Lib.hid h
  clear h
  go_enter Try.func14, Try.ntmps14
  go_wp2
  go_loopw [5, 6] (fun z i wr => ∃ (k n : Nat), k ≤ l.length ∧ i = .int .i64 k ∧ z = .int .i64 n ∧ Hid (n = usesN (l.take k) m) ∧ n ≤ k ∧ Hid (Below w.heap.size w wr)) (fun _ i _ => l.length - (intOf i).toNat)
  case atStart => exact ⟨0, 0, by omega, rfl, rfl, Lib.hid rfl, by omega, Lib.hid (Below.refl _ _)⟩
  case round =>
    obtain ⟨k, n, hk, rfl, rfl, hn, n1, hb⟩ := hrel
    by_cases hlt : k < l.length
    · generalize hf : l.getD k (0, []) = f
      obtain ⟨x, vs⟩ := f
      have CT := Lib.hid (usesN_take l hlt hf m)
      obtain ⟨b, off, V, cv, rfl, hb1, e0, e1, _, _, _⟩ := (HJ.out.step hb.out).at_ hlt hf
      clear hf
      have hk0 : (0 : Int) ≤ (k : Int) := by omega
      have hk1 : (k : Int) < (l.length : Int) := by omega
      by_cases hx : x = m
      · subst hx
        have CX := Lib.hid (show usesN (l.take (k + 1)) x = n + 1 by rw [CT.out, if_pos rfl, hn.out])
        go_wp2
        go_roundw
        case rel => exact ⟨k + 1, n + 1, by omega, by go_num, by go_num, Lib.hid CX.out.symm, by omega, hb⟩
        case measure => simp [intOf]; omega
      · have CX := Lib.hid (show usesN (l.take (k + 1)) m = n by rw [CT.out, if_neg hx, hn.out]; rfl)
        have d1 : (x == m) = false := by simpa using hx
        go_wp2
        go_roundw
        case rel => exact ⟨k + 1, n, by omega, by go_num, rfl, Lib.hid CX.out.symm, by omega, hb⟩
        case measure => simp [intOf]; omega
    · obtain rfl : k = l.length := by omega
      have O := Lib.hid (show n = usesN l m by rw [hn.out, take_all])
      go_wp2
      go_ret
      exact ⟨ret_int (by rw [O.out]), hb.out⟩

set_option maxRecDepth 100000 in
set_option maxHeartbeats 1000000 in
theorem impl_UsesOf (A : Option Addr) (c : Nat) (l : FL) (m : Int) (hl : l.length ≤ 1048576) (w : World) (h : RF w A l) :
    Calls Try.prog 16 #[.slice A l.length c, .int .i64 m] w fun e w' => e = .returned (.int .i64 (usesN l m : Nat)) ∧ Below w.heap.size w w' := by
  have hl' : (l.length : Int) ≤ 1048576 := by omega
  have HJ := Lib.hid h
  clear h
  go_enter Try.func16, Try.ntmps16
  go_wp2
  go_loopw [5, 7, 10] (fun z _ i wr => ∃ (k n : Nat), k ≤ l.length ∧ i = .int .i64 k ∧ z = .int .i64 n ∧ Hid (n = usesN (l.take k) m) ∧ n ≤ k ∧ Hid (Below w.heap.size w wr)) (fun _ _ i _ => l.length - (intOf i).toNat)
  case atStart => exact ⟨0, 0, by omega, rfl, rfl, Lib.hid rfl, by omega, Lib.hid (Below.refl _ _)⟩
  case round =>
    obtain ⟨k, n, hk, rfl, rfl, hn, n1, hb⟩ := hrel
    by_cases hlt : k < l.length
    · generalize hf : l.getD k (0, []) = f
      obtain ⟨x, vs⟩ := f
      have CT := Lib.hid (usesN_take l hlt hf m)
      obtain ⟨b, off, V, cv, rfl, hb1, e0, e1, _, _, _⟩ := (HJ.out.step hb.out).at_ hlt hf
      clear hf
      have hk0 : (0 : Int) ≤ (k : Int) := by omega
      have hk1 : (k : Int) < (l.length : Int) := by omega
      have B2 := Lib.hid (step hb.out (below_alloc wr (.cells #[.int .i64 x, .slice V vs.length cv] 68)))
      by_cases hx : x = m
      · subst hx
        have CX := Lib.hid (show usesN (l.take (k + 1)) x = n + 1 by rw [CT.out, if_pos rfl, hn.out])
        go_wp2
        go_roundw
        case rel => exact ⟨k + 1, n + 1, by omega, by go_num, by go_num, Lib.hid CX.out.symm, by omega, B2⟩
        case measure => simp [intOf]; omega
      · have CX := Lib.hid (show usesN (l.take (k + 1)) m = n by rw [CT.out, if_neg hx, hn.out]; rfl)
        have d1 : (x == m) = false := by simpa using hx
        go_wp2
        go_roundw
        case rel => exact ⟨k + 1, n, by omega, by go_num, rfl, Lib.hid CX.out.symm, by omega, B2⟩
        case measure => simp [intOf]; omega
    · obtain rfl : k = l.length := by omega
      have O := Lib.hid (show n = usesN l m by rw [hn.out, take_all])
      go_wp2
      go_ret
      exact ⟨ret_int (by rw [O.out]), hb.out⟩
end Go.Proofs.Ytcgmdleefaplfaa
