/- Whether two facts are the same, and whether a list has a fact. Conditions: none beyond each theorem's own. -/
import Derived.Test.YtpdmkdhnidgjoaaSame
namespace Go.Proofs.Ytpdmkdhnidgjoaa
open Go.ChangeShapes Go.WideShapes Go.ChangeAt Go.RowKit Go.Sort
set_option linter.unusedVariables false
set_option linter.unusedSimpArgs false

def sameB (r : Int) (xs : List Int) (r' : Int) (ys : List Int) : Bool := decide (r = r') && decide (xs = ys)

set_option maxRecDepth 100000 in
set_option maxHeartbeats 1000000 in
theorem isSameFact_any (r r' : Int) (xs ys : List Int) (A A' : Option Addr) (c c' : Nat) (hl : xs.length ≤ 1048576) (hl2 : ys.length ≤ 1048576) (hc : xs.length ≤ c) (hc2 : ys.length ≤ c') (hm : c ≤ maxLen) (hm2 : c' ≤ maxLen) (w : World) (h : RI w A xs) (h' : RI w A' ys) :
    Calls Try.prog 97 #[.agg #[.int .i64 r, .slice A xs.length c], .agg #[.int .i64 r', .slice A' ys.length c']] w fun e w' => e = .returned (.bool (sameB r xs r' ys)) ∧ Below w.heap.size w w' := by
  have hl' : (xs.length : Int) ≤ 1048576 := by omega
  have hl2' : (ys.length : Int) ≤ 1048576 := by omega
  have ns := neq_shape
  have na := neq_arr3
  have B0 := step (below_alloc w (.cells #[.int .i64 r, .slice A xs.length c] 70)) (below_alloc _ (.cells #[.int .i64 r', .slice A' ys.length c'] 70))
  have J0 := Lib.hid (h.step B0)
  have J1 := Lib.hid (h'.step B0)
  have X0 : Box ((w.alloc (.cells #[.int .i64 r, .slice A xs.length c] 70)).alloc (.cells #[.int .i64 r', .slice A' ys.length c'] 70)) w.heap.size #[.int .i64 r, .slice A xs.length c] 70 := (Box.new _ _ _).step (below_alloc _ _)
  have X1 : Box ((w.alloc (.cells #[.int .i64 r, .slice A xs.length c] 70)).alloc (.cells #[.int .i64 r', .slice A' ys.length c'] 70)) (w.heap.size + 1) #[.int .i64 r', .slice A' ys.length c'] 70 := by simpa using Box.new (w.alloc (.cells #[.int .i64 r, .slice A xs.length c] 70)) #[.int .i64 r', .slice A' ys.length c'] 70
  have HX0 := Lib.hid X0
  have HX1 := Lib.hid X1
  have HB0 := Lib.hid B0
  have g0 := X0.cell 0
  have g1 := X0.cell 1
  have g2 := X1.cell 0
  have g3 := X1.cell 1
  simp only [List.getElem?_toArray, List.getElem?_cons_zero, List.getElem?_cons_succ] at g0 g1 g2 g3
  have k0 := cell_regrown g0
  have k1 := cell_regrown g1
  have k2 := cell_regrown g2
  have k3 := cell_regrown g3
  clear X0 X1 B0 h h' g0 g1 g2 g3
  have S0 := Lib.hid fun W => shapeOf_any r A xs.length c W
  have S1 := Lib.hid fun W => shapeOf_any r' A' ys.length c' W
  by_cases hr : r = r'
  · by_cases hn : xs.length = ys.length
    · have HN := Lib.hid hn
      have e1 : ((xs.length : Int) == (ys.length : Int)) = true := by simp; omega
      subst hr
      have e0 : (r == r) = true := by simp
      clear hn
      go_enter Try.func97, Try.ntmps97
      go_wp2
      refine wp_region_quiet_below (by kernel_rfl) (by kernel_rfl) ?_
      repeat (go_big_quiet_step (first | (go_at_call 114; with_reducible exact Calls.regrown_of (S0.out _)) | (go_at_call 114; with_reducible exact Calls.regrown_of (S1.out _))))
      refine wpQuiet_nil ?_
      intro u hw'
      have hbv : Below ((w.alloc (.cells #[.int .i64 r, .slice A xs.length c] 70)).alloc (.cells #[.int .i64 r, .slice A' ys.length c'] 70)).heap.size ((w.alloc (.cells #[.int .i64 r, .slice A xs.length c] 70)).alloc (.cells #[.int .i64 r, .slice A' ys.length c'] 70)) u := by obtain ⟨⟨dq, osq⟩, rfl⟩ := hw'; exact below_regrown _ _ _
      have K0 := Lib.hid (J0.out.step hbv)
      have K1 := Lib.hid (J1.out.step hbv)
      have Y0 := Lib.hid (HX0.out.step hbv)
      have Y1 := Lib.hid (HX1.out.step hbv)
      have TB := Lib.hid (step HB0.out hbv)
      clear hw' hbv k0 k1 k2 k3
      go_wp2
      go_loopw [5] (fun i wr => ∃ k : Nat, k ≤ xs.length + 2 ∧ i = .int .i64 k ∧ xs.take k = ys.take k ∧ Below u.heap.size u wr) (fun i _ => xs.length + 2 - (intOf i).toNat)
      case atStart => exact ⟨0, by omega, rfl, rfl, Below.refl _ _⟩
      case round =>
        obtain ⟨k, hk, rfl, ha, hb⟩ := hrel
        have HA := Lib.hid ha
        clear ha
        have Z0 := Y0.out.step hb
        have Z1 := Y1.out.step hb
        have g0 := Z0.cell 0
        have g1 := Z0.cell 1
        have g2 := Z1.cell 0
        have g3 := Z1.cell 1
        simp only [List.getElem?_toArray, List.getElem?_cons_zero, List.getElem?_cons_succ] at g0 g1 g2 g3
        clear Z0 Z1
        by_cases hlt : k < xs.length
        · have k0 := cell_regrown g0
          have k1 := cell_regrown g1
          have k2 := cell_regrown g2
          have k3 := cell_regrown g3
          have V0 := Lib.hid fun (W : World) (hW : Below wr.heap.size wr W) => valueBlock_any r xs A c k hlt hc hm (by omega) W ((K0.out.step hb).step hW)
          have V1 := Lib.hid fun (W : World) (hW : Below wr.heap.size wr W) => valueBlock_any r ys A' c' k (by have := HN.out; omega) hc2 hm2 (by omega) W ((K1.out.step hb).step hW)
          by_cases q0 : xs.getD k 0 = ys.getD k 0 ∧ xs.getD (k + 1) 0 = ys.getD (k + 1) 0 ∧ xs.getD (k + 2) 0 = ys.getD (k + 2) 0
          · obtain ⟨p0, p1, p2⟩ := q0
            have P := Lib.hid (take_more xs ys HN.out (k + 2) (take_more xs ys HN.out (k + 1) (take_more xs ys HN.out k HA.out p0) p1) p2)
            rw [p0, p1, p2] at V0
            clear p0 p1 p2
            go_wp2
            refine wp_region_quiet_below (by kernel_rfl) (by kernel_rfl) ?_
            repeat (go_big_quiet_step (first | (go_at_call 115; with_reducible exact Calls.regrown_of (V0.out _ (below_regrown _ _ _))) | (go_at_call 115; with_reducible exact Calls.regrown_of (V1.out _ (below_regrown _ _ _)))))
            refine wpQuiet_nil ?_
            intro u2 hw'
            have hb2 : Below u.heap.size u u2 := by obtain ⟨⟨dq, osq⟩, rfl⟩ := hw'; exact step hb (below_regrown _ _ _)
            clear hw' k0 k1 k2 k3
            go_wp2
            go_roundw
            case rel => exact ⟨k + 3, by omega, by go_num, P.out, hb2⟩
            case measure => simp [intOf]; omega
          · generalize hx0 : xs.getD k 0 = x0 at q0 V0
            generalize hx1 : xs.getD (k + 1) 0 = x1 at q0 V0
            generalize hx2 : xs.getD (k + 2) 0 = x2 at q0 V0
            generalize hy0 : ys.getD k 0 = y0 at q0 V1
            generalize hy1 : ys.getD (k + 1) 0 = y1 at q0 V1
            generalize hy2 : ys.getD (k + 2) 0 = y2 at q0 V1
            have NE := Lib.hid (show xs ≠ ys by
              rintro rfl
              exact q0 ⟨hx0.symm.trans hy0, hx1.symm.trans hy1, hx2.symm.trans hy2⟩)
            clear hx0 hx1 hx2 hy0 hy1 hy2
            have SF := Lib.hid (show sameB r xs r ys = false by have := NE.out; simp [sameB, this])
            rcases (show (x0 == y0) = false ∨ ((x0 == y0) = true ∧ (x1 == y1) = false) ∨ ((x0 == y0) = true ∧ (x1 == y1) = true ∧ (x2 == y2) = false) by
              by_cases p0 : x0 = y0
              · by_cases p1 : x1 = y1
                · exact .inr (.inr ⟨by simpa using p0, by simpa using p1, by simp; exact fun p2 => q0 ⟨p0, p1, p2⟩⟩)
                · exact .inr (.inl ⟨by simpa using p0, by simpa using p1⟩)
              · exact .inl (by simpa using p0)) with d0 | ⟨d0, d1⟩ | ⟨d0, d1, d2⟩
            all_goals
              clear q0
              go_wp2
              refine wp_region_quiet_below (by kernel_rfl) (by kernel_rfl) ?_
              repeat (go_big_quiet_step (first | (go_at_call 115; with_reducible exact Calls.regrown_of (V0.out _ (below_regrown _ _ _))) | (go_at_call 115; with_reducible exact Calls.regrown_of (V1.out _ (below_regrown _ _ _)))))
              refine wpQuiet_nil ?_
              intro u2 hw'
              have hb2 : Below u.heap.size u u2 := by obtain ⟨⟨dq, osq⟩, rfl⟩ := hw'; exact step hb (below_regrown _ _ _)
              clear hw' k0 k1 k2 k3
              go_wp2
              go_ret
              exact ⟨ret_bool SF.out.symm, step TB.out hb2⟩
        · go_wp2
          go_ret
          exact ⟨ret_bool (by
            have := HA.out
            rw [List.take_of_length_le (by omega), List.take_of_length_le (by have := HN.out; omega)] at this
            simp [sameB, this]), step TB.out hb⟩
    · have SF := Lib.hid (show sameB r xs r' ys = false by
        have : xs ≠ ys := by rintro rfl; exact hn rfl
        simp [sameB, this])
      have e1 : ((xs.length : Int) == (ys.length : Int)) = false := by simp; omega
      subst hr
      have e0 : (r == r) = true := by simp
      clear hn
      go_enter Try.func97, Try.ntmps97
      go_wp2
      refine wp_region_quiet_below (by kernel_rfl) (by kernel_rfl) ?_
      repeat (go_big_quiet_step (first | (go_at_call 114; with_reducible exact Calls.regrown_of (S0.out _)) | (go_at_call 114; with_reducible exact Calls.regrown_of (S1.out _))))
      refine wpQuiet_nil ?_
      intro u hw'
      have TB : Below w.heap.size w u := by obtain ⟨⟨dq, osq⟩, rfl⟩ := hw'; exact step HB0.out (below_regrown _ _ _)
      clear hw' k0 k1 k2 k3
      go_wp2
      go_ret
      exact ⟨ret_bool SF.out.symm, TB⟩
  · have SF := Lib.hid (show sameB r xs r' ys = false by simp [sameB, hr])
    have e0 : (r == r') = false := by simpa using hr
    clear hr
    go_enter Try.func97, Try.ntmps97
    go_wp2
    refine wp_region_quiet_below (by kernel_rfl) (by kernel_rfl) ?_
    repeat (go_big_quiet_step (first | (go_at_call 114; with_reducible exact Calls.regrown_of (S0.out _)) | (go_at_call 114; with_reducible exact Calls.regrown_of (S1.out _))))
    refine wpQuiet_nil ?_
    intro u hw'
    have TB : Below w.heap.size w u := by obtain ⟨⟨dq, osq⟩, rfl⟩ := hw'; exact step HB0.out (below_regrown _ _ _)
    clear hw' k0 k1 k2 k3
    go_wp2
    go_ret
    exact ⟨ret_bool SF.out.symm, TB⟩

def hasB (l : FL) (r : Int) (xs : List Int) : Bool := l.any fun g => sameB g.1 g.2 r xs
theorem hasB_take (l : FL) (r : Int) (xs : List Int) (k : Nat) (hk : k < l.length) : hasB (l.take (k + 1)) r xs = (hasB (l.take k) r xs || sameB (l.getD k (0, [])).1 (l.getD k (0, [])).2 r xs) := by
  unfold hasB
  rw [List.take_succ_eq_append_getElem hk, List.any_append]
  simp [List.getD_eq_getElem?_getD, hk]
theorem hasB_found (l : FL) (r : Int) (xs : List Int) (k : Nat) (hk : k < l.length) (h : sameB (l.getD k (0, [])).1 (l.getD k (0, [])).2 r xs = true) : hasB l r xs = true := by
  unfold hasB
  rw [List.any_eq_true]
  refine ⟨l[k], List.getElem_mem _, ?_⟩
  have : l.getD k (0, []) = l[k] := by simp [List.getD_eq_getElem?_getD, hk]
  rw [this] at h
  exact h
theorem cmp_same (r : Int) (xs : List Int) (r' : Int) (ys : List Int) : (cmpF r xs r' ys == 0) = sameB r xs r' ys := by
  rw [Bool.eq_iff_iff]
  have := cmpF_zero r xs r' ys
  simp [sameB, this]

set_option maxRecDepth 100000 in
set_option maxHeartbeats 1000000 in
theorem impl_HasFact (A : Option Addr) (c : Nat) (l : FL) (r : Int) (xs : List Int) (A' : Option Addr) (c' : Nat) (hz : szF l ≤ 1048576) (hl2 : xs.length ≤ 1048576) (hc2 : xs.length ≤ c') (hm2 : c' ≤ maxLen) (w : World) (h : RF w A l) (h' : RI w A' xs) :
    Calls Try.prog 67 #[.slice A l.length c, .agg #[.int .i64 r, .slice A' xs.length c']] w fun e w' => e = .returned (.bool (hasB l r xs)) ∧ Below w.heap.size w w' := by
  have hl := szF_len hz
  have hl' : (l.length : Int) ≤ 1048576 := by omega
  have B0 := Lib.hid (below_alloc w (.cells #[.int .i64 r, .slice A' xs.length c'] 70))
  have HI := Lib.hid (h.step B0.out)
  have HJ := Lib.hid (h'.step B0.out)
  have X0 := Lib.hid (Box.new w #[.int .i64 r, .slice A' xs.length c'] 70)
  clear h h'
  go_enter Try.func67, Try.ntmps67
  go_wp2
  go_loopw [6, 9] (fun _ i wr => ∃ k : Nat, k ≤ l.length ∧ i = .int .i64 k ∧ hasB (l.take k) r xs = false ∧ Below (w.alloc (.cells #[.int .i64 r, .slice A' xs.length c'] 70)).heap.size (w.alloc (.cells #[.int .i64 r, .slice A' xs.length c'] 70)) wr) (fun _ i _ => l.length - (intOf i).toNat)
  case atStart => exact ⟨0, by omega, rfl, rfl, Below.refl _ _⟩
  case round =>
    obtain ⟨k, hk, rfl, ha, hb⟩ := hrel
    have HA := Lib.hid ha
    clear ha
    by_cases hlt : k < l.length
    · generalize hf : l.getD k (0, []) = f
      obtain ⟨r2, xs2⟩ := f
      have HF := Lib.hid hf
      have hxl : xs2.length ≤ 1048576 := by have := szF_elem hz hlt; rw [hf] at this; exact this
      obtain ⟨b, off, B, c2, rfl, n1, e0, e1, hxc, hcm, hI⟩ := (HI.out.step hb).at_ hlt hf
      have Z := X0.out.step hb
      have g0 := Z.cell 0
      have g1 := Z.cell 1
      have g2 := Z.lt
      simp only [List.getElem?_toArray, List.getElem?_cons_zero, List.getElem?_cons_succ] at g0 g1
      have HX := Lib.hid (hI.step (below_alloc wr (.cells #[.int .i64 r2, .slice B xs2.length c2] 70)))
      have HY := Lib.hid ((HJ.out.step hb).step (below_alloc wr (.cells #[.int .i64 r2, .slice B xs2.length c2] 70)))
      clear hI hf Z
      go_wp2_with fail
      refine (isSameFact_any r2 r xs2 xs B A' c2 c' hxl hl2 hxc hc2 hcm hm2 _ HX.out HY.out).mono ?_
      rintro e u ⟨he, d⟩
      have hb2 := step hb (below_new d)
      clear d
      by_cases hs : sameB r2 xs2 r xs = true
      · rw [hs] at he
        have HS := Lib.hid hs
        subst he
        clear hs
        go_wp2
        go_ret
        exact ⟨ret_bool (hasB_found l r xs k hlt (by rw [HF.out]; exact HS.out)).symm, step B0.out hb2⟩
      · have HS := Lib.hid (show sameB r2 xs2 r xs = false by simpa using hs)
        rw [HS.out] at he
        subst he
        clear hs
        go_wp2
        go_roundw
        case rel => exact ⟨k + 1, by omega, by go_num, by rw [hasB_take _ _ _ _ hlt, HA.out, HF.out, HS.out]; rfl, hb2⟩
        case measure => simp [intOf]; omega
    · obtain rfl : k = l.length := by omega
      go_wp2
      go_ret
      exact ⟨ret_bool (by have := HA.out; rw [take_all] at this; exact this.symm), step B0.out hb⟩

set_option maxRecDepth 100000 in
set_option maxHeartbeats 1000000 in
theorem spec_HasFact (A : Option Addr) (c : Nat) (l : FL) (r : Int) (xs : List Int) (A' : Option Addr) (c' : Nat) (hz : szF l ≤ 1048576) (hl2 : xs.length ≤ 1048576) (w : World) (h : RF w A l) (h' : RI w A' xs) :
    Calls Try.prog 65 #[.slice A l.length c, .agg #[.int .i64 r, .slice A' xs.length c']] w fun e w' => e = .returned (.bool (hasB l r xs)) ∧ Below w.heap.size w w' := by
  have hl := szF_len hz
  have hl' : (l.length : Int) ≤ 1048576 := by omega
  have B0 := Lib.hid (below_alloc w (.cells #[.int .i64 r, .slice A' xs.length c'] 70))
  have HI := Lib.hid (h.step B0.out)
  have HJ := Lib.hid (h'.step B0.out)
  have X0 := Lib.hid (Box.new w #[.int .i64 r, .slice A' xs.length c'] 70)
  clear h h'
  go_enter Try.func65, Try.ntmps65
  go_wp2
  go_loopw [5] (fun i wr => ∃ k : Nat, k ≤ l.length ∧ i = .int .i64 k ∧ hasB (l.take k) r xs = false ∧ Below (w.alloc (.cells #[.int .i64 r, .slice A' xs.length c'] 70)).heap.size (w.alloc (.cells #[.int .i64 r, .slice A' xs.length c'] 70)) wr) (fun i _ => l.length - (intOf i).toNat)
  case atStart => exact ⟨0, by omega, rfl, rfl, Below.refl _ _⟩
  case round =>
    obtain ⟨k, hk, rfl, ha, hb⟩ := hrel
    have HA := Lib.hid ha
    clear ha
    by_cases hlt : k < l.length
    · generalize hf : l.getD k (0, []) = f
      obtain ⟨r2, xs2⟩ := f
      have HF := Lib.hid hf
      have hxl : xs2.length ≤ 1048576 := by have := szF_elem hz hlt; rw [hf] at this; exact this
      obtain ⟨b, off, B, c2, rfl, n1, e0, e1, hxc, hcm, hI⟩ := (HI.out.step hb).at_ hlt hf
      have Z := X0.out.step hb
      have g0 := Z.cell 0
      have g1 := Z.cell 1
      simp only [List.getElem?_toArray, List.getElem?_cons_zero, List.getElem?_cons_succ] at g0 g1
      have k0 := cell_regrown e0
      have k1 := cell_regrown e1
      have k2 := cell_regrown g0
      have k3 := cell_regrown g1
      have HX := Lib.hid hI
      have HY := Lib.hid (HJ.out.step hb)
      have hk0 : (0 : Int) ≤ (k : Int) := by omega
      have hk1 : (k : Int) < (l.length : Int) := by omega
      have CS := Lib.hid (cmp_same r2 xs2 r xs)
      generalize hq : cmpF r2 xs2 r xs = q at CS
      have HQ := Lib.hid hq
      clear hI hf Z hq e0 e1 g0 g1
      have X1 := Lib.hid fun (W : World) (hW : Below wr.heap.size wr W) => (show Calls Try.prog 83 #[.agg #[.int .i64 r2, .slice B xs2.length c2], .agg #[.int .i64 r, .slice A' xs.length c']] W fun e w' => e = .returned (.int .i64 q) ∧ Below W.heap.size W w' by have := spec_CompareFacts r2 r xs2 xs B A' c2 c' (by omega) (by omega) W (HX.out.step hW) (HY.out.step hW); rw [HQ.out] at this; exact this)
      by_cases hs : q = 0
      · have d0 : (q == 0) = true := by simpa using hs
        have HS := Lib.hid (show sameB r2 xs2 r xs = true by rw [← CS.out]; exact d0)
        clear hs
        go_wp2
        refine wp_region_quiet_below (by kernel_rfl) (by kernel_rfl) ?_
        repeat (go_big_quiet_step (first | (go_at_call 83; with_reducible exact Calls.regrown_of (X1.out _ (below_regrown _ _ _)))))
        refine wpQuiet_nil ?_
        intro u hw'
        have hb2 := step hb (show Below wr.heap.size wr u by obtain ⟨⟨dq, osq⟩, rfl⟩ := hw'; exact below_regrown _ _ _)
        clear hw' k0 k1 k2 k3
        go_wp2
        go_ret
        exact ⟨ret_bool (hasB_found l r xs k hlt (by rw [HF.out]; exact HS.out)).symm, step B0.out hb2⟩
      · have d0 : (q == 0) = false := by simpa using hs
        have HS := Lib.hid (show sameB r2 xs2 r xs = false by rw [← CS.out]; exact d0)
        clear hs
        go_wp2
        refine wp_region_quiet_below (by kernel_rfl) (by kernel_rfl) ?_
        repeat (go_big_quiet_step (first | (go_at_call 83; with_reducible exact Calls.regrown_of (X1.out _ (below_regrown _ _ _)))))
        refine wpQuiet_nil ?_
        intro u hw'
        have hb2 := step hb (show Below wr.heap.size wr u by obtain ⟨⟨dq, osq⟩, rfl⟩ := hw'; exact below_regrown _ _ _)
        clear hw' k0 k1 k2 k3
        go_wp2
        go_roundw
        case rel => exact ⟨k + 1, by omega, by go_num, by rw [hasB_take _ _ _ _ hlt, HA.out, HF.out, HS.out]; rfl, hb2⟩
        case measure => simp [intOf]; omega
    · obtain rfl : k = l.length := by omega
      go_wp2
      go_ret
      exact ⟨ret_bool (by have := HA.out; rw [take_all] at this; exact this.symm), step B0.out hb⟩
end Go.Proofs.Ytpdmkdhnidgjoaa
