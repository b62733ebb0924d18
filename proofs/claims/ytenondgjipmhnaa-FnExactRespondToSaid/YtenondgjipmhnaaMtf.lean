/- What the functions on matching facts answer. Conditions: none beyond each theorem's own. -/
import Derived.Test.YtenondgjipmhnaaAccs
import Derived.Test.YtenondgjipmhnaaAddM
namespace Go.Proofs.Ytenondgjipmhnaa
open Go.ChangeShapes Go.WideShapes Go.ChangeAt Go.RowKit Go.Sort
set_option linter.unusedVariables false
set_option linter.unusedSimpArgs false

/-- Has the fact ys the value of the access at input number k? -/
def fitAt (xs vs ys : List Int) (k : Nat) : Bool := decide (ys.getD (xs.getD k 0).toNat 0 = vs.getD k 0)
def fitN (xs vs ys : List Int) (n : Nat) : Bool := (List.range n).all (fitAt xs vs ys)
theorem fitN_succ (xs vs ys : List Int) (k : Nat) : fitN xs vs ys (k + 1) = (fitN xs vs ys k && fitAt xs vs ys k) := by
  unfold fitN
  rw [List.range_succ, List.all_append]
  simp
theorem fitN_not (xs vs ys : List Int) (k n : Nat) (hk : k < n) (h : fitAt xs vs ys k = false) : fitN xs vs ys n = false := by
  unfold fitN
  rw [List.all_eq_false]
  exact ⟨k, by simpa using hk, by simp [h]⟩
def fitB (r : Int) (xs vs : List Int) (r' : Int) (ys : List Int) : Bool := decide (r' = r) && fitN xs vs ys xs.length
/-- The inputs are places of the facts of the relation. -/
def fitOk (r : Int) (xs : List Int) (r' : Int) (ys : List Int) : Prop := r' = r → ∀ k, k < xs.length → 0 ≤ xs.getD k 0 ∧ xs.getD k 0 < (ys.length : Int)
def matF (r : Int) (xs vs : List Int) (l : FL) : FL := l.filter fun f => fitB r xs vs f.1 f.2
theorem matF_step (r : Int) (xs vs : List Int) (l : FL) (k : Nat) (hk : k < l.length) {r' : Int} {ys : List Int} (hf : l.getD k (0, []) = (r', ys)) : matF r xs vs (l.take (k + 1)) = matF r xs vs (l.take k) ++ (if fitB r xs vs r' ys then [(r', ys)] else []) := by
  unfold matF
  rw [List.take_succ_eq_append_getElem hk, List.filter_append]
  have h1 : l[k] = (r', ys) := by rw [← hf]; simp [List.getD_eq_getElem?_getD, hk]
  rw [h1]
  simp [List.filter_cons]
theorem matF_len (r : Int) (xs vs : List Int) (l : FL) : (matF r xs vs l).length ≤ l.length := List.length_filter_le _ _

set_option maxHeartbeats 2000000 in
set_option maxRecDepth 100000 in
theorem l5Fits_any (r : Int) (xs : List Int) (li co qu : Int) (A : Option Addr) (c : Nat) (vs : List Int) (V : Option Addr) (cv : Nat) (r' : Int) (ys : List Int) (B : Option Addr) (cb : Nat) (hlx : xs.length ≤ 1048576) (hly : ys.length ≤ 1048576) (hlv : vs.length = xs.length) (hok : fitOk r xs r' ys) (w : World) (h : RI w A xs) (h2 : RI w V vs) (h3 : RI w B ys) :
    Calls Try.prog 119 #[.agg #[.int .i64 r, .slice A xs.length c, .int .i64 li, .int .i64 co, .int .i64 qu], .slice V vs.length cv, .agg #[.int .i64 r', .slice B ys.length cb]] w fun e w' => e = .returned (.bool (fitB r xs vs r' ys)) ∧ Below w.heap.size w w' := by
  have hx' : (xs.length : Int) ≤ 1048576 := by omega
  have hy' : (ys.length : Int) ≤ 1048576 := by omega
  have bb := step (below_alloc w (.cells #[.int .i64 r, .slice A xs.length c, .int .i64 li, .int .i64 co, .int .i64 qu] 28)) (below_alloc _ (.cells #[.int .i64 r', .slice B ys.length cb] 98))
  have X0 := (Box.new w #[.int .i64 r, .slice A xs.length c, .int .i64 li, .int .i64 co, .int .i64 qu] 28).step (below_alloc _ (.cells #[.int .i64 r', .slice B ys.length cb] 98))
  have X1 := Box.new (w.alloc (.cells #[.int .i64 r, .slice A xs.length c, .int .i64 li, .int .i64 co, .int .i64 qu] 28)) #[.int .i64 r', .slice B ys.length cb] 98
  simp only [al_size] at X1
  obtain ⟨W0, hW0⟩ : ∃ W0, W0 = (w.alloc (.cells #[.int .i64 r, .slice A xs.length c, .int .i64 li, .int .i64 co, .int .i64 qu] 28)).alloc (.cells #[.int .i64 r', .slice B ys.length cb] 98) := ⟨_, rfl⟩
  rw [← hW0] at bb X0 X1
  have HA := Lib.hid (h.step bb)
  have HV := Lib.hid (h2.step bb)
  have HY := Lib.hid (h3.step bb)
  have HB0 := Lib.hid bb
  have XM := Lib.hid X0
  have XF := Lib.hid X1
  have EW := Lib.hid hW0
  have HLV := Lib.hid hlv
  have g0 := X0.cell 0
  have g1 := X1.cell 0
  have g2 := X0.cell 1
  simp only [List.getElem?_toArray, List.getElem?_cons_zero, List.getElem?_cons_succ] at g0 g1 g2
  clear h h2 h3 bb hW0 X0 X1 hlv
  by_cases hr : r' = r
  · have OK := Lib.hid (hok hr)
    have EH := Lib.hid (show fitB r xs vs r' ys = fitN xs vs ys xs.length by simp [fitB, hr])
    have d1 : (r' == r) = true := by simpa using hr
    have d2 : (r' != r) = false := by simpa using hr
    clear hr hok
    go_enter Try.func119, Try.ntmps119
    go_wp2
    rw [← EW.out]
    clear g0 g1 g2
    go_loopw [7] (fun i wr => ∃ k : Nat, k ≤ xs.length ∧ i = .int .i64 k ∧ fitN xs vs ys k = true ∧ Hid (Below W0.heap.size W0 wr)) (fun i _ => xs.length - (intOf i).toNat)
    case atStart => exact ⟨0, by omega, rfl, rfl, Lib.hid (Below.refl _ _)⟩
    obtain ⟨k, hk, rfl, ha, hb⟩ := hrel
    have HA0 := Lib.hid ha
    clear ha
    have x1 := (XM.out.step hb.out).cell 1
    have y1 := (XF.out.step hb.out).cell 1
    have nx := (XM.out.step hb.out).lt
    have ny := (XF.out.step hb.out).lt
    simp only [List.getElem?_toArray, List.getElem?_cons_zero, List.getElem?_cons_succ] at x1 y1
    by_cases hlt : k < xs.length
    · obtain ⟨b, off, rfl, n1, e1⟩ := (HA.out.step hb.out).at_ hlt
      obtain ⟨b2, off2, rfl, n2, e2⟩ := (HV.out.step hb.out).at_ (show k < vs.length by rw [HLV.out]; exact hlt)
      have hp := OK.out k hlt
      generalize hx : xs.getD k 0 = x at e1 hp
      generalize hv : vs.getD k 0 = v at e2
      have HX := Lib.hid hx
      have HVV := Lib.hid hv
      obtain ⟨hp1, hp2⟩ := hp
      obtain ⟨p, rfl⟩ := Int.eq_ofNat_of_zero_le hp1
      have hplt : p < ys.length := by omega
      obtain ⟨b3, off3, rfl, n3, e3⟩ := (HY.out.step hb.out).at_ hplt
      generalize hy : ys.getD p 0 = y at e3
      have FA := Lib.hid (show fitAt xs vs ys k = decide (y = v) by unfold fitAt; rw [hx, hv, Int.toNat_natCast, hy])
      have hk0 : (0 : Int) ≤ (k : Int) := by omega
      have hk1 : (k : Int) < (xs.length : Int) := by omega
      have hk2 : (k : Int) < (vs.length : Int) := by rw [HLV.out]; omega
      clear hx hv hy
      by_cases he : y = v
      · have d3 : (y == v) = true := by simpa using he
        have d4 : (y != v) = false := by simpa using he
        have FB := Lib.hid (show fitAt xs vs ys k = true by rw [FA.out]; simpa using he)
        clear he
        go_wp2
        go_quiet (fail)
        go_wp2
        go_roundw
        case rel => exact ⟨k + 1, by omega, by go_num, by rw [fitN_succ, HA0.out, FB.out]; rfl, Lib.hid (below_drewN hb.out _)⟩
        case measure => simp [intOf]; omega
      · have d3 : (y == v) = false := by simpa using he
        have d4 : (y != v) = true := by simpa using he
        have FB := Lib.hid (show fitAt xs vs ys k = false by rw [FA.out]; simpa using he)
        clear he
        go_wp2
        go_quiet (fail)
        go_wp2
        go_ret
        exact ⟨ret_bool (by rw [EH.out]; exact (fitN_not xs vs ys k _ hlt FB.out).symm), step HB0.out (below_drewN hb.out _)⟩
    · obtain rfl : k = xs.length := by omega
      go_wp2
      go_ret
      exact ⟨ret_bool (by rw [EH.out]; exact HA0.out.symm), step HB0.out hb.out⟩
  · have EH := Lib.hid (show fitB r xs vs r' ys = false by simp [fitB, hr])
    have d1 : (r' == r) = false := by simpa using hr
    have d2 : (r' != r) = true := by simpa using hr
    clear hr hok
    go_enter Try.func119, Try.ntmps119
    go_wp2
    rw [← EW.out]
    go_ret
    exact ⟨ret_bool EH.out.symm, HB0.out⟩

set_option maxHeartbeats 2000000 in
set_option maxRecDepth 100000 in
theorem isMatch_any (r : Int) (xs : List Int) (li co qu : Int) (A : Option Addr) (c : Nat) (vs : List Int) (V : Option Addr) (cv : Nat) (r' : Int) (ys : List Int) (B : Option Addr) (cb : Nat) (hlx : xs.length ≤ 1048576) (hly : ys.length ≤ 1048576) (hlv : vs.length = xs.length) (hok : fitOk r xs r' ys) (w : World) (h : RI w A xs) (h2 : RI w V vs) (h3 : RI w B ys) :
    Calls Try.prog 123 #[.agg #[.int .i64 r, .slice A xs.length c, .int .i64 li, .int .i64 co, .int .i64 qu, .slice V vs.length cv], .agg #[.int .i64 r', .slice B ys.length cb]] w fun e w' => e = .returned (.bool (fitB r xs vs r' ys)) ∧ Below w.heap.size w w' := by
  have hx' : (xs.length : Int) ≤ 1048576 := by omega
  have hy' : (ys.length : Int) ≤ 1048576 := by omega
  have bb := step (below_alloc w (.cells #[.int .i64 r, .slice A xs.length c, .int .i64 li, .int .i64 co, .int .i64 qu, .slice V vs.length cv] 101)) (below_alloc _ (.cells #[.int .i64 r', .slice B ys.length cb] 98))
  have X0 := (Box.new w #[.int .i64 r, .slice A xs.length c, .int .i64 li, .int .i64 co, .int .i64 qu, .slice V vs.length cv] 101).step (below_alloc _ (.cells #[.int .i64 r', .slice B ys.length cb] 98))
  have X1 := Box.new (w.alloc (.cells #[.int .i64 r, .slice A xs.length c, .int .i64 li, .int .i64 co, .int .i64 qu, .slice V vs.length cv] 101)) #[.int .i64 r', .slice B ys.length cb] 98
  simp only [al_size] at X1
  obtain ⟨W0, hW0⟩ : ∃ W0, W0 = (w.alloc (.cells #[.int .i64 r, .slice A xs.length c, .int .i64 li, .int .i64 co, .int .i64 qu, .slice V vs.length cv] 101)).alloc (.cells #[.int .i64 r', .slice B ys.length cb] 98) := ⟨_, rfl⟩
  rw [← hW0] at bb X0 X1
  have HA := Lib.hid (h.step bb)
  have HV := Lib.hid (h2.step bb)
  have HY := Lib.hid (h3.step bb)
  have HB0 := Lib.hid bb
  have XM := Lib.hid X0
  have XF := Lib.hid X1
  have EW := Lib.hid hW0
  have HLV := Lib.hid hlv
  have g0 := X0.cell 0
  have g1 := X1.cell 0
  have g2 := X0.cell 1
  simp only [List.getElem?_toArray, List.getElem?_cons_zero, List.getElem?_cons_succ] at g0 g1 g2
  clear h h2 h3 bb hW0 X0 X1 hlv
  by_cases hr : r' = r
  · have OK := Lib.hid (hok hr)
    have EH := Lib.hid (show fitB r xs vs r' ys = fitN xs vs ys xs.length by simp [fitB, hr])
    have d1 : (r' == r) = true := by simpa using hr
    have d2 : (r' != r) = false := by simpa using hr
    clear hr hok
    go_enter Try.func123, Try.ntmps123
    go_wp2
    rw [← EW.out]
    clear g0 g1 g2
    go_loopw [5, 6, 17] (fun _ _ i wr => ∃ k : Nat, k ≤ xs.length ∧ i = .int .i64 k ∧ fitN xs vs ys k = true ∧ Hid (Below W0.heap.size W0 wr)) (fun _ _ i _ => xs.length - (intOf i).toNat)
    case atStart => exact ⟨0, by omega, rfl, rfl, Lib.hid (Below.refl _ _)⟩
    obtain ⟨k, hk, rfl, ha, hb⟩ := hrel
    have HA0 := Lib.hid ha
    clear ha
    have x1 := (XM.out.step hb.out).cell 1
    have y1 := (XF.out.step hb.out).cell 1
    have x5 := (XM.out.step hb.out).cell 5
    have nx := (XM.out.step hb.out).lt
    have ny := (XF.out.step hb.out).lt
    simp only [List.getElem?_toArray, List.getElem?_cons_zero, List.getElem?_cons_succ] at x1 y1 x5
    by_cases hlt : k < xs.length
    · obtain ⟨b, off, rfl, n1, e1⟩ := (HA.out.step hb.out).at_ hlt
      obtain ⟨b2, off2, rfl, n2, e2⟩ := (HV.out.step hb.out).at_ (show k < vs.length by rw [HLV.out]; exact hlt)
      have hp := OK.out k hlt
      generalize hx : xs.getD k 0 = x at e1 hp
      generalize hv : vs.getD k 0 = v at e2
      have HX := Lib.hid hx
      have HVV := Lib.hid hv
      obtain ⟨hp1, hp2⟩ := hp
      obtain ⟨p, rfl⟩ := Int.eq_ofNat_of_zero_le hp1
      have hplt : p < ys.length := by omega
      obtain ⟨b3, off3, rfl, n3, e3⟩ := (HY.out.step hb.out).at_ hplt
      generalize hy : ys.getD p 0 = y at e3
      have FA := Lib.hid (show fitAt xs vs ys k = decide (y = v) by unfold fitAt; rw [hx, hv, Int.toNat_natCast, hy])
      have hk0 : (0 : Int) ≤ (k : Int) := by omega
      have hk1 : (k : Int) < (xs.length : Int) := by omega
      have hk2 : (k : Int) < (vs.length : Int) := by rw [HLV.out]; omega
      clear hx hv hy
      by_cases he : y = v
      · have d3 : (y == v) = true := by simpa using he
        have d4 : (y != v) = false := by simpa using he
        have FB := Lib.hid (show fitAt xs vs ys k = true by rw [FA.out]; simpa using he)
        clear he
        go_wp2
        go_quiet (fail)
        go_wp2
        go_roundw
        case rel => exact ⟨k + 1, by omega, by go_num, by rw [fitN_succ, HA0.out, FB.out]; rfl, Lib.hid (below_drewN hb.out _)⟩
        case measure => simp [intOf]; omega
      · have d3 : (y == v) = false := by simpa using he
        have d4 : (y != v) = true := by simpa using he
        have FB := Lib.hid (show fitAt xs vs ys k = false by rw [FA.out]; simpa using he)
        clear he
        go_wp2
        go_quiet (fail)
        go_wp2
        go_ret
        exact ⟨ret_bool (by rw [EH.out]; exact (fitN_not xs vs ys k _ hlt FB.out).symm), step HB0.out (below_drewN hb.out _)⟩
    · obtain rfl : k = xs.length := by omega
      go_wp2
      go_ret
      exact ⟨ret_bool (by rw [EH.out]; exact HA0.out.symm), step HB0.out hb.out⟩
  · have EH := Lib.hid (show fitB r xs vs r' ys = false by simp [fitB, hr])
    have d1 : (r' == r) = false := by simpa using hr
    have d2 : (r' != r) = true := by simpa using hr
    clear hr hok
    go_enter Try.func123, Try.ntmps123
    go_wp2
    rw [← EW.out]
    go_ret
    exact ⟨ret_bool EH.out.symm, HB0.out⟩
end Go.Proofs.Ytenondgjipmhnaa
