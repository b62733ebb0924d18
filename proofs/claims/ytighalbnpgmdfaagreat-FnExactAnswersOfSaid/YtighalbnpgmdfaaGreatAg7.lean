/- What the two functions ValueOf answer. Conditions: none beyond each theorem's own. -/
import Derived.Test.YtighalbnpgmdfaaGreatVal

namespace Go.Proofs.YtighalbnpgmdfaaGreat
open Go.ChangeShapes Go.WideShapes Go.ChangeAt Go.RowKit Go.Sort
set_option linter.unusedVariables false
set_option linter.unusedSimpArgs false

set_option maxRecDepth 100000 in
set_option maxHeartbeats 1000000 in
theorem spec_ValueOf (H A : Option Addr) (ch c : Nat) (hs l : List Int) (t : Int) (hh : hs.length ≤ 1048576) (hl : l.length ≤ 1048576) (w : World) (h : RI w H hs) (h' : RI w A l) :
    Calls Tryz.prog 57 #[.agg #[.slice H hs.length ch, .slice A l.length c], .int .i64 t] w fun e w' => e = .returned (.int .i64 (bval hs l t)) ∧ Below w.heap.size w w' := by
  have hh' : (hs.length : Int) ≤ 1048576 := by omega
  have hl' : (l.length : Int) ≤ 1048576 := by omega
  have B0 := Lib.hid (below_alloc w (.cells #[.slice H hs.length ch, .slice A l.length c] 66))
  have X0 := Lib.hid (Box.new w #[.slice H hs.length ch, .slice A l.length c] 66)
  have HI := Lib.hid (h.step B0.out)
  have HJ := Lib.hid (h'.step B0.out)
  clear h h'
  by_cases ht : inB t 10 17 = true
  · have HT := Lib.hid ht
    clear ht
    go_enter Tryz.func57, Tryz.ntmps57
    go_wp2_with fail
    refine (spec_IsVar t _).mono ?_
    rintro e w1 ⟨he, rfl⟩
    rw [HT.out] at he
    subst he
    go_wp2
    go_loop [5] (fun i => ∃ k : Nat, k ≤ hs.length ∧ i = .int .i64 k ∧ Hid (t ∉ hs.take k)) (fun i => hs.length - (intOf i).toNat)
    case atStart => exact ⟨0, by omega, rfl, Lib.hid (by simp)⟩
    case round =>
      obtain ⟨k, hk, rfl, ha⟩ := hrel
      have hk0 : (0 : Int) ≤ (k : Int) := by omega
      by_cases h1 : k < hs.length
      · have hk1 : (k : Int) < (hs.length : Int) := by omega
        have d1 : decide (k < hs.length) = true := by simpa using h1
        by_cases h2 : k < l.length
        · have hk2 : (k : Int) < (l.length : Int) := by omega
          have d2 : decide (k < l.length) = true := by simpa using h2
          obtain ⟨b, off, rfl, n1, e1⟩ := HI.out.at_ h1
          obtain ⟨b', off', rfl, n2, e2⟩ := HJ.out.at_ h2
          generalize hx : hs.getD k 0 = x at e1
          generalize hy : l.getD k 0 = y at e2
          have HX := Lib.hid hx
          have HY := Lib.hid hy
          clear hx hy
          by_cases he : x = t
          · have d3 : (x == t) = true := by simpa using he
            have HE := Lib.hid he
            clear he
            go_wp2
            go_ret
            exact ⟨ret_int (by rw [bval_at HT.out h1 h2 ha.out (by rw [HX.out]; exact HE.out), HY.out]), B0.out⟩
          · have d3 : (x == t) = false := by simpa using he
            have HE := Lib.hid he
            clear he
            go_wp2
            go_round
            case rel => exact ⟨k + 1, by omega, by go_num, Lib.hid (notMem_snoc h1 ha.out HX.out HE.out)⟩
            case measure => simp [intOf]; omega
        · have hk2 : ¬ (k : Int) < (l.length : Int) := by omega
          have d2 : decide (k < l.length) = false := by simpa using h2
          go_wp2
          go_ret
          exact ⟨ret_int (by rw [bval_none HT.out hk ha.out (.inr (by omega))]), B0.out⟩
      · have hk1 : ¬ (k : Int) < (hs.length : Int) := by omega
        have d1 : decide (k < hs.length) = false := by simpa using h1
        go_wp2
        go_ret
        exact ⟨ret_int (by rw [bval_none HT.out hk ha.out (.inl (by omega))]), B0.out⟩
  · have ht' : inB t 10 17 = false := by simpa using ht
    have HT := Lib.hid ht'
    rw [bval_no ht']
    clear ht ht'
    go_enter Tryz.func57, Tryz.ntmps57
    go_wp2_with fail
    refine (spec_IsVar t _).mono ?_
    rintro e w1 ⟨he, rfl⟩
    rw [HT.out] at he
    subst he
    go_wp2
    go_ret
    exact ⟨rfl, B0.out⟩

set_option maxRecDepth 100000 in
set_option maxHeartbeats 1000000 in
theorem impl_ValueOf (H A : Option Addr) (ch c : Nat) (hs l : List Int) (t : Int) (hh : hs.length ≤ 1048576) (hl : l.length ≤ 1048576) (w : World) (h : RI w H hs) (h' : RI w A l) :
    Calls Tryz.prog 133 #[.agg #[.slice H hs.length ch, .slice A l.length c], .int .i64 t] w fun e w' => e = .returned (.int .i64 (bval hs l t)) ∧ Below w.heap.size w w' := by
  have hh' : (hs.length : Int) ≤ 1048576 := by omega
  have hl' : (l.length : Int) ≤ 1048576 := by omega
  have B0 := Lib.hid (below_alloc w (.cells #[.slice H hs.length ch, .slice A l.length c] 66))
  have XI := Lib.hid (index_at _ _ H ch hs t hh _ (h.step B0.out))
  have HJ := Lib.hid (h'.step B0.out)
  clear h h'
  by_cases ht : inB t 10 17 = true
  · have HT := Lib.hid ht
    clear ht
    by_cases h1 : hs.idxOf t < hs.length
    · have E1 := Lib.hid (show idxI hs t = (hs.idxOf t : Int) from if_pos h1)
      by_cases h2 : hs.idxOf t < l.length
      · have E := Lib.hid (show bval hs l t = l.getD (hs.idxOf t) 0 by simp [bval, HT.out, h1, h2])
        rw [E.out]
        generalize hs.idxOf t = k at h1 h2 E1
        obtain ⟨b', off', rfl, n2, e2⟩ := HJ.out.at_ h2
        generalize hy : l.getD k 0 = y at e2
        clear hy E
        have hk0 : (0 : Int) ≤ (k : Int) := by omega
        have hk2 : ¬ ((l.length : Int) ≤ (k : Int)) := by omega
        have hk3 : (k : Int) < (l.length : Int) := by omega
        have d2 : decide (l.length ≤ k) = false := by simp; omega
        have d0 : decide ((k : Int) < 0) = false := by simp
        go_enter Tryz.func133, Tryz.ntmps133
        go_wp2_with fail
        refine (impl_IsVar t _).mono ?_
        rintro e w1 ⟨he, rfl⟩
        rw [HT.out] at he
        subst he
        go_wp2_with fail
        refine XI.out.mono ?_
        rintro e w1 ⟨he, rfl⟩
        rw [E1.out] at he
        subst he
        go_wp2
        go_ret
        exact ⟨rfl, B0.out⟩
      · have E := Lib.hid (show bval hs l t = -1 by simp [bval, HT.out, h2])
        rw [E.out]
        generalize hs.idxOf t = k at h1 h2 E1
        clear E
        have hk0 : (0 : Int) ≤ (k : Int) := by omega
        have hk2 : ((l.length : Int) ≤ (k : Int)) := by omega
        have d2 : decide (l.length ≤ k) = true := by simp; omega
        have d0 : decide ((k : Int) < 0) = false := by simp
        go_enter Tryz.func133, Tryz.ntmps133
        go_wp2_with fail
        refine (impl_IsVar t _).mono ?_
        rintro e w1 ⟨he, rfl⟩
        rw [HT.out] at he
        subst he
        go_wp2_with fail
        refine XI.out.mono ?_
        rintro e w1 ⟨he, rfl⟩
        rw [E1.out] at he
        subst he
        go_wp2
        go_ret
        exact ⟨rfl, B0.out⟩
    · have E1 := Lib.hid (show idxI hs t = -1 from if_neg h1)
      have E := Lib.hid (show bval hs l t = -1 by simp [bval, HT.out, h1])
      rw [E.out]
      clear E h1
      go_enter Tryz.func133, Tryz.ntmps133
      go_wp2_with fail
      refine (impl_IsVar t _).mono ?_
      rintro e w1 ⟨he, rfl⟩
      rw [HT.out] at he
      subst he
      go_wp2_with fail
      refine XI.out.mono ?_
      rintro e w1 ⟨he, rfl⟩
      rw [E1.out] at he
      subst he
      go_wp2
      go_ret
      exact ⟨rfl, B0.out⟩
  · have ht' : inB t 10 17 = false := by simpa using ht
    have HT := Lib.hid ht'
    rw [bval_no ht']
    clear ht ht'
    go_enter Tryz.func133, Tryz.ntmps133
    go_wp2_with fail
    refine (impl_IsVar t _).mono ?_
    rintro e w1 ⟨he, rfl⟩
    rw [HT.out] at he
    subst he
    go_wp2
    go_ret
    exact ⟨rfl, B0.out⟩
end Go.Proofs.YtighalbnpgmdfaaGreat
