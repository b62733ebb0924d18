/- What the two functions IsEquivalent answer. Conditions: none beyond each theorem's own. What the two functions ContainedIn answer. Conditions: none beyond each theorem's own. -/
import Derived.Test.YtimlpdcambmcjaaMCnS
import Derived.Test.YtimlpdcambmcjaaMCnI
import Derived.Test.YtimlpdcambmcjaaM22

namespace Go.Proofs.Ytimlpdcambmcjaa
open Go.ChangeShapes Go.WideShapes Go.ChangeAt Go.RowKit Go.Sort
set_option linter.unusedVariables false
set_option linter.unusedSimpArgs false

/-- Is each of the two queries contained in the other one? -/
def eqvB (s h1 h2 : List Int) (l1 l2 : FL) : Bool := conB s h1 h2 l1 l2 && conB s h2 h1 l2 l1

set_option maxRecDepth 100000 in
set_option maxHeartbeats 1000000 in
theorem spec_IsEquivalent (S H A H' A' : Option Addr) (cs ch c ch' c' : Nat) (s h1 h2 : List Int) (l1 l2 : FL) (hls : s.length ≤ 1048576) (hh1 : h1.length ≤ 1048576) (hh2 : h2.length ≤ 1048576) (hz1 : szF l1 ≤ 1048576) (hz2 : szF l2 ≤ 1048576) (w : World) (hS : RI w S s) (hH : RI w H h1) (hA : RF w A l1) (hH' : RI w H' h2) (hA' : RF w A' l2) :
    Calls Try.prog 14 #[.slice S s.length cs, .agg #[.slice H h1.length ch, .slice A l1.length c], .agg #[.slice H' h2.length ch', .slice A' l2.length c']] w fun e w' => e = .returned (.bool (eqvB s h1 h2 l1 l2)) ∧ Below w.heap.size w w' := by
  have b1 := below_alloc w (.cells #[.slice H h1.length ch, .slice A l1.length c] 31)
  have b2 := below_alloc (w.alloc (.cells #[.slice H h1.length ch, .slice A l1.length c] 31)) (.cells #[.slice H' h2.length ch', .slice A' l2.length c'] 31)
  have B0 := Lib.hid (step b1 b2)
  have X0 := Lib.hid ((Box.new w #[.slice H h1.length ch, .slice A l1.length c] 31).step b2)
  have Y0 := Lib.hid (show Box ((w.alloc (.cells #[.slice H h1.length ch, .slice A l1.length c] 31)).alloc (.cells #[.slice H' h2.length ch', .slice A' l2.length c'] 31)) (w.heap.size + 1) #[.slice H' h2.length ch', .slice A' l2.length c'] 31 by
    have h := Box.new (w.alloc (.cells #[.slice H h1.length ch, .slice A l1.length c] 31)) #[.slice H' h2.length ch', .slice A' l2.length c'] 31
    rwa [al_size] at h)
  have C1 := Lib.hid (spec_IsContained S H A H' A' cs ch c ch' c' s h1 h2 l1 l2 hls hh1 hh2 hz1 hz2 _ (hS.step B0.out) (hH.step B0.out) (hA.step B0.out) (hH'.step B0.out) (hA'.step B0.out))
  have C2 := Lib.hid fun (W : World) (hW : Below w.heap.size w W) => spec_IsContained S H' A' H A cs ch' c' ch c s h2 h1 l2 l1 hls hh2 hh1 hz2 hz1 W (hS.step hW) (hH'.step hW) (hA'.step hW) (hH.step hW) (hA.step hW)
  have EQ := Lib.hid (show eqvB s h1 h2 l1 l2 = (conB s h1 h2 l1 l2 && conB s h2 h1 l2 l1) from rfl)
  rw [EQ.out]
  generalize conB s h1 h2 l1 l2 = r1 at C1 ⊢
  generalize conB s h2 h1 l2 l1 = r2 at C2 ⊢
  clear hS hH hA hH' hA' EQ b1 b2
  cases r1
  · go_enter Try.func14, Try.ntmps14
    have x0 := X0.out.cell 0
    have x1 := X0.out.cell 1
    have y0 := Y0.out.cell 0
    have y1 := Y0.out.cell 1
    simp only [List.getElem?_toArray, List.getElem?_cons_zero, List.getElem?_cons_succ] at x0 x1 y0 y1
    go_wp2_with fail
    refine C1.out.mono ?_
    rintro e u1 ⟨rfl, d1⟩
    have T1 := Lib.hid (step B0.out d1)
    clear d1 x0 x1 y0 y1
    go_wp2
    go_ret
    exact ⟨rfl, T1.out⟩
  · go_enter Try.func14, Try.ntmps14
    have x0 := X0.out.cell 0
    have x1 := X0.out.cell 1
    have y0 := Y0.out.cell 0
    have y1 := Y0.out.cell 1
    simp only [List.getElem?_toArray, List.getElem?_cons_zero, List.getElem?_cons_succ] at x0 x1 y0 y1
    go_wp2_with fail
    refine C1.out.mono ?_
    rintro e u1 ⟨rfl, d1⟩
    have T1 := Lib.hid (step B0.out d1)
    have X1 := Lib.hid (X0.out.step d1)
    have Y1 := Lib.hid (Y0.out.step d1)
    clear d1 x0 x1 y0 y1
    have x0 := X1.out.cell 0
    have x1 := X1.out.cell 1
    have y0 := Y1.out.cell 0
    have y1 := Y1.out.cell 1
    simp only [List.getElem?_toArray, List.getElem?_cons_zero, List.getElem?_cons_succ] at x0 x1 y0 y1
    go_wp2_with fail
    refine (C2.out _ T1.out).mono ?_
    rintro e u2 ⟨rfl, d2⟩
    have T2 := Lib.hid (step T1.out d2)
    clear d2 x0 x1 y0 y1
    go_wp2
    go_ret
    exact ⟨rfl, T2.out⟩

set_option maxRecDepth 100000 in
set_option maxHeartbeats 1000000 in
theorem impl_IsEquivalent (S H A H' A' : Option Addr) (cs ch c ch' c' : Nat) (s h1 h2 : List Int) (l1 l2 : FL) (hls : s.length ≤ 1048576) (hh1 : h1.length ≤ 1048576) (hh2 : h2.length ≤ 1048576) (hz1 : szF l1 ≤ 1048576) (hz2 : szF l2 ≤ 1048576) (w : World) (hS : RI w S s) (hH : RI w H h1) (hA : RF w A l1) (hH' : RI w H' h2) (hA' : RF w A' l2) :
    Calls Try.prog 15 #[.slice S s.length cs, .agg #[.slice H h1.length ch, .slice A l1.length c], .agg #[.slice H' h2.length ch', .slice A' l2.length c']] w fun e w' => e = .returned (.bool (eqvB s h1 h2 l1 l2)) ∧ Below w.heap.size w w' := by
  have b1 := below_alloc w (.cells #[.slice H h1.length ch, .slice A l1.length c] 31)
  have b2 := below_alloc (w.alloc (.cells #[.slice H h1.length ch, .slice A l1.length c] 31)) (.cells #[.slice H' h2.length ch', .slice A' l2.length c'] 31)
  have B0 := Lib.hid (step b1 b2)
  have X0 := Lib.hid ((Box.new w #[.slice H h1.length ch, .slice A l1.length c] 31).step b2)
  have Y0 := Lib.hid (show Box ((w.alloc (.cells #[.slice H h1.length ch, .slice A l1.length c] 31)).alloc (.cells #[.slice H' h2.length ch', .slice A' l2.length c'] 31)) (w.heap.size + 1) #[.slice H' h2.length ch', .slice A' l2.length c'] 31 by
    have h := Box.new (w.alloc (.cells #[.slice H h1.length ch, .slice A l1.length c] 31)) #[.slice H' h2.length ch', .slice A' l2.length c'] 31
    rwa [al_size] at h)
  have C1 := Lib.hid (impl_IsContained S H A H' A' cs ch c ch' c' s h1 h2 l1 l2 hls hh1 hh2 hz1 hz2 _ (hS.step B0.out) (hH.step B0.out) (hA.step B0.out) (hH'.step B0.out) (hA'.step B0.out))
  have C2 := Lib.hid fun (W : World) (hW : Below w.heap.size w W) => impl_IsContained S H' A' H A cs ch' c' ch c s h2 h1 l2 l1 hls hh2 hh1 hz2 hz1 W (hS.step hW) (hH'.step hW) (hA'.step hW) (hH.step hW) (hA.step hW)
  have EQ := Lib.hid (show eqvB s h1 h2 l1 l2 = (conB s h1 h2 l1 l2 && conB s h2 h1 l2 l1) from rfl)
  rw [EQ.out]
  generalize conB s h1 h2 l1 l2 = r1 at C1 ⊢
  generalize conB s h2 h1 l2 l1 = r2 at C2 ⊢
  clear hS hH hA hH' hA' EQ b1 b2
  cases r1
  · go_enter Try.func15, Try.ntmps15
    have x0 := X0.out.cell 0
    have x1 := X0.out.cell 1
    have y0 := Y0.out.cell 0
    have y1 := Y0.out.cell 1
    simp only [List.getElem?_toArray, List.getElem?_cons_zero, List.getElem?_cons_succ] at x0 x1 y0 y1
    go_wp2_with fail
    refine C1.out.mono ?_
    rintro e u1 ⟨rfl, d1⟩
    have T1 := Lib.hid (step B0.out d1)
    clear d1 x0 x1 y0 y1
    go_wp2
    go_ret
    exact ⟨rfl, T1.out⟩
  · go_enter Try.func15, Try.ntmps15
    have x0 := X0.out.cell 0
    have x1 := X0.out.cell 1
    have y0 := Y0.out.cell 0
    have y1 := Y0.out.cell 1
    simp only [List.getElem?_toArray, List.getElem?_cons_zero, List.getElem?_cons_succ] at x0 x1 y0 y1
    go_wp2_with fail
    refine C1.out.mono ?_
    rintro e u1 ⟨rfl, d1⟩
    have T1 := Lib.hid (step B0.out d1)
    have X1 := Lib.hid (X0.out.step d1)
    have Y1 := Lib.hid (Y0.out.step d1)
    clear d1 x0 x1 y0 y1
    have x0 := X1.out.cell 0
    have x1 := X1.out.cell 1
    have y0 := Y1.out.cell 0
    have y1 := Y1.out.cell 1
    simp only [List.getElem?_toArray, List.getElem?_cons_zero, List.getElem?_cons_succ] at x0 x1 y0 y1
    go_wp2_with fail
    refine (C2.out _ T1.out).mono ?_
    rintro e u2 ⟨rfl, d2⟩
    have T2 := Lib.hid (step T1.out d2)
    clear d2 x0 x1 y0 y1
    go_wp2
    go_ret
    exact ⟨rfl, T2.out⟩
end Go.Proofs.Ytimlpdcambmcjaa

namespace Go.Proofs.Ytimlpdcambmcjaa
open Go.ChangeShapes Go.WideShapes Go.ChangeAt Go.RowKit Go.Sort
set_option linter.unusedVariables false
set_option linter.unusedSimpArgs false

/-- Is the query contained in the one with this number? -/
def inAtU (s h : List Int) (l : FL) (us : UL) (k : Nat) : Bool := conB s h (us.getD k noU).1 l (us.getD k noU).2
/-- Is it contained in none of the first n? -/
def noC (s h : List Int) (l : FL) (us : UL) (n : Nat) : Bool := (List.range n).all fun k => !inAtU s h l us k
theorem noC_succ (s h : List Int) (l : FL) (us : UL) (k : Nat) : noC s h l us (k + 1) = (noC s h l us k && !inAtU s h l us k) := by
  unfold noC
  rw [List.range_succ, List.all_append]
  simp
theorem noC_not (s h : List Int) (l : FL) (us : UL) (k n : Nat) (hk : k < n) (hi : inAtU s h l us k = true) : noC s h l us n = false := by
  unfold noC
  rw [List.all_eq_false]
  exact ⟨k, by simpa using hk, by rw [hi]; simp⟩
theorem noC_at {s h : List Int} {l : FL} {us : UL} {n : Nat} (hn : noC s h l us n = true) {k : Nat} (hk : k < n) : inAtU s h l us k = false := by
  unfold noC at hn
  rw [List.all_eq_true] at hn
  have := hn k (by simpa using hk)
  simpa using this
/-- Is the query contained in one of the list? -/
def cinB (s h : List Int) (l : FL) (us : UL) : Bool := !noC s h l us us.length

set_option maxHeartbeats 1000000 in
set_option maxRecDepth 100000 in
theorem spec_ContainedIn (S : Option Addr) (cs : Nat) (s : List Int) (H B : Option Addr) (ch cb : Nat) (h : List Int) (l : FL) (A : Option Addr) (c : Nat) (us : UL) (hls : s.length ≤ 1048576) (hh : h.length ≤ 1048576) (hl : szF l ≤ 1048576) (hz : szU us ≤ 1048576) (w : World) (hS : RI w S s) (hH : RI w H h) (hB : RF w B l) (hU : RU w A us) :
    Calls Try.prog 21 #[.slice S s.length cs, .agg #[.slice H h.length ch, .slice B l.length cb], .slice A us.length c] w fun e w' => e = .returned (.bool (cinB s h l us)) ∧ Below w.heap.size w w' := by
  have hul := szU_len hz
  have hul' : (us.length : Int) ≤ 1048576 := by omega
  have B0 := Lib.hid (below_alloc w (.cells #[.slice H h.length ch, .slice B l.length cb] 31))
  have X0 := Lib.hid (Box.new w #[.slice H h.length ch, .slice B l.length cb] 31)
  have HS := Lib.hid hS
  have HH := Lib.hid hH
  have HB := Lib.hid hB
  have HU := Lib.hid hU
  clear hS hH hB hU
  go_enter Try.func21, Try.ntmps21
  go_wp2
  go_loopw [7] (fun i wr => ∃ k : Nat, k ≤ us.length ∧ i = .int .i64 k ∧ Hid (noC s h l us k = true) ∧ Hid (Below w.heap.size w wr) ∧ Hid (Box wr w.heap.size #[.slice H h.length ch, .slice B l.length cb] 31)) (fun i _ => us.length - (intOf i).toNat)
  case atStart => exact ⟨0, by omega, rfl, Lib.hid rfl, B0, X0⟩
  case round =>
    obtain ⟨k, hk, rfl, HN, hb, hX⟩ := hrel
    have x0 := hX.out.cell 0
    have x1 := hX.out.cell 1
    simp only [List.getElem?_toArray, List.getElem?_cons_zero, List.getElem?_cons_succ] at x0 x1
    have xl := hX.out.lt
    by_cases hlt : k < us.length
    · generalize hf : us.getD k noU = f
      obtain ⟨h2, l2⟩ := f
      have HF := Lib.hid (show inAtU s h l us k = conB s h h2 l l2 by unfold inAtU; rw [hf])
      obtain ⟨_, hhl, hll⟩ := szU_elem hz hlt hf
      obtain ⟨b, off, H2, c2, B2, c3, rfl, n1, e0, e1, _, _, _, _, hI, hJ⟩ := (HU.out.step hb.out).at_ hlt hf
      have X1 := Lib.hid fun (W : World) (hW : Below wr.heap.size wr W) => spec_IsContained S H B H2 B2 cs ch cb c2 c3 s h h2 l l2 hls hh hhl hl hll W (HS.out.step (step hb.out hW)) (HH.out.step (step hb.out hW)) (HB.out.step (step hb.out hW)) (hI.step hW) (hJ.step hW)
      generalize conB s h h2 l l2 = res at X1 HF
      have k0 := cell_regrown e0
      have k1 := cell_regrown e1
      have k2 := cell_regrown x0
      have k3 := cell_regrown x1
      clear hf hI hJ
      have hk0 : (0 : Int) ≤ (k : Int) := by omega
      have hk1 : (k : Int) < (us.length : Int) := by omega
      go_wp2
      refine wp_region_quiet_below (by kernel_rfl) (by kernel_rfl) ?_
      repeat (go_big_quiet_step (first | (go_at_call 8; with_reducible exact Calls.regrown_of (X1.out _ (below_regrown _ _ _)))))
      refine wpQuiet_nil ?_
      intro u hw'
      have hb1 := (show Below wr.heap.size wr u by obtain ⟨⟨dq, osq⟩, rfl⟩ := hw'; exact below_regrown _ _ _)
      have hb2 := Lib.hid (step hb.out hb1)
      have hX2 := Lib.hid (hX.out.step hb1)
      clear hw' k0 k1 k2 k3 hb1
      cases res
      · go_wp2
        go_roundw
        case rel => exact ⟨k + 1, by omega, by go_num, Lib.hid (by rw [noC_succ, HN.out, HF.out]; rfl), hb2, hX2⟩
        case measure => simp [intOf]; omega
      · go_wp2
        go_ret
        exact ⟨ret_bool (by unfold cinB; rw [noC_not s h l us k _ hlt HF.out]; rfl), hb2.out⟩
    · obtain rfl : k = us.length := by omega
      go_wp2
      go_ret
      exact ⟨ret_bool (by unfold cinB; rw [HN.out]; rfl), hb.out⟩

set_option maxHeartbeats 1000000 in
set_option maxRecDepth 100000 in
theorem containedIn1_any (g : Nat) (S : Option Addr) (cs : Nat) (s : List Int) (H B : Option Addr) (ch cb : Nat) (h : List Int) (l : FL) (H2 B2 : Option Addr) (c2 c3 : Nat) (h2 : List Int) (l2 : FL) (hls : s.length ≤ 1048576) (hh : h.length ≤ 1048576) (hl : szF l ≤ 1048576) (hh2 : h2.length ≤ 1048576) (hl2 : szF l2 ≤ 1048576)
    (w : World) (hS : RI w S s) (hH : RI w H h) (hB : RF w B l) (hH2 : RI w H2 h2) (hB2 : RF w B2 l2) (b1 : Box w g #[.slice S s.length cs] 22) (b2 : Box w (g + 1) #[.slice H h.length ch, .slice B l.length cb] 31) :
    Calls Try.prog 42 #[.agg #[.slice H2 h2.length c2, .slice B2 l2.length c3], .pointer (some ⟨g, 0, none⟩), .pointer (some ⟨g + 1, 0, none⟩)] w fun e w' => e = .returned (.bool (conB s h h2 l l2)) ∧ Below w.heap.size w w' := by
  have ba := below_alloc w (.cells #[.slice H2 h2.length c2, .slice B2 l2.length c3] 31)
  have BA := Lib.hid ba
  have xq := (Box.new w #[.slice H2 h2.length c2, .slice B2 l2.length c3] 31).cell 0
  have xq1 := (Box.new w #[.slice H2 h2.length c2, .slice B2 l2.length c3] 31).cell 1
  have xs := (b1.step ba).cell 0
  have xu := (b2.step ba).cell 0
  have xu1 := (b2.step ba).cell 1
  have gl := b1.lt
  have gl2 := b2.lt
  simp only [List.getElem?_toArray, List.getElem?_cons_zero, List.getElem?_cons_succ] at xq xq1 xs xu xu1
  have XC := Lib.hid (impl_IsContained S H B H2 B2 cs ch cb c2 c3 s h h2 l l2 hls hh hh2 hl hl2 _ (hS.step ba) (hH.step ba) (hB.step ba) (hH2.step ba) (hB2.step ba))
  generalize conB s h h2 l l2 = res at XC ⊢
  clear hS hH hB hH2 hB2 b1 b2 ba
  go_enter Try.func42, Try.ntmps42
  go_wp2_with fail
  refine XC.out.mono ?_
  rintro e u ⟨rfl, d⟩
  have D := Lib.hid (step BA.out d)
  clear d xq xq1 xs xu xu1
  go_wp2
  go_ret
  exact ⟨rfl, D.out⟩

set_option maxHeartbeats 1000000 in
set_option maxRecDepth 100000 in
theorem indexFuncC_any (g : Nat) (S : Option Addr) (cs : Nat) (s : List Int) (H B : Option Addr) (ch cb : Nat) (h : List Int) (l : FL) (A : Option Addr) (c : Nat) (us : UL) (hls : s.length ≤ 1048576) (hh : h.length ≤ 1048576) (hl : szF l ≤ 1048576) (hz : szU us ≤ 1048576)
    (w : World) (hS : RI w S s) (hH : RI w H h) (hB : RF w B l) (hU : RU w A us) (b1 : Box w g #[.slice S s.length cs] 22) (b2 : Box w (g + 1) #[.slice H h.length ch, .slice B l.length cb] 31) :
    Calls Try.prog 68 #[.slice A us.length c, .func (.func 42) #[] #[.pointer (some ⟨g, 0, none⟩), .pointer (some ⟨g + 1, 0, none⟩)]] w fun e w' => ∃ n : Int, e = .returned (.int .i64 n) ∧ (0 ≤ n ↔ cinB s h l us = true) ∧ Below w.heap.size w w' := by
  have hul := szU_len hz
  have hul' : (us.length : Int) ≤ 1048576 := by omega
  have HS := Lib.hid hS
  have HH := Lib.hid hH
  have HB := Lib.hid hB
  have HU := Lib.hid hU
  have G1 := Lib.hid b1
  have G2 := Lib.hid b2
  clear hS hH hB hU b1 b2
  go_enter Try.func68, Try.ntmps68
  go_wp2
  go_loopw [5, 8] (fun _ i wr => ∃ k : Nat, k ≤ us.length ∧ i = .int .i64 k ∧ Hid (noC s h l us k = true) ∧ Hid (Below w.heap.size w wr)) (fun _ i _ => us.length - (intOf i).toNat)
  case atStart => exact ⟨0, by omega, rfl, Lib.hid rfl, Lib.hid (Below.refl _ _)⟩
  case round =>
    obtain ⟨k, hk, rfl, HN, hb⟩ := hrel
    by_cases hlt : k < us.length
    · generalize hf : us.getD k noU = f
      obtain ⟨h2, l2⟩ := f
      have HF := Lib.hid (show inAtU s h l us k = conB s h h2 l l2 by unfold inAtU; rw [hf])
      obtain ⟨_, hhl, hll⟩ := szU_elem hz hlt hf
      obtain ⟨b, off, H2, c2, B2, c3, hA, n1, e0, e1, _, _, _, _, hI, hJ⟩ := (HU.out.step hb.out).at_ hlt hf
      have XC := Lib.hid (containedIn1_any g S cs s H B ch cb h l H2 B2 c2 c3 h2 l2 hls hh hl hhl hll wr (HS.out.step hb.out) (HH.out.step hb.out) (HB.out.step hb.out) hI hJ (G1.out.step hb.out) (G2.out.step hb.out))
      generalize conB s h h2 l l2 = res at XC HF
      subst hA
      clear hf hI hJ
      have hk0 : (0 : Int) ≤ (k : Int) := by omega
      have hk1 : (k : Int) < (us.length : Int) := by omega
      go_wp2_with fail
      refine XC.out.mono ?_
      rintro e u ⟨rfl, d⟩
      have hb2 := step hb.out d
      clear d
      cases res
      · go_wp2
        go_roundw
        case rel => exact ⟨k + 1, by omega, by go_num, Lib.hid (by rw [noC_succ, HN.out, HF.out]; rfl), Lib.hid hb2⟩
        case measure => simp [intOf]; omega
      · go_wp2
        go_ret
        exact ⟨k, rfl, ⟨fun _ => by unfold cinB; rw [noC_not s h l us k _ hlt HF.out]; rfl, fun _ => hk0⟩, hb2⟩
    · obtain rfl : k = us.length := by omega
      go_wp2
      go_ret
      exact ⟨-1, rfl, ⟨fun hc => absurd hc (by omega), fun hc => by unfold cinB at hc; rw [HN.out] at hc; cases hc⟩, hb.out⟩

set_option maxHeartbeats 1000000 in
set_option maxRecDepth 100000 in
theorem containsFuncC_any (g : Nat) (S : Option Addr) (cs : Nat) (s : List Int) (H B : Option Addr) (ch cb : Nat) (h : List Int) (l : FL) (A : Option Addr) (c : Nat) (us : UL) (hls : s.length ≤ 1048576) (hh : h.length ≤ 1048576) (hl : szF l ≤ 1048576) (hz : szU us ≤ 1048576)
    (w : World) (hS : RI w S s) (hH : RI w H h) (hB : RF w B l) (hU : RU w A us) (b1 : Box w g #[.slice S s.length cs] 22) (b2 : Box w (g + 1) #[.slice H h.length ch, .slice B l.length cb] 31) :
    Calls Try.prog 41 #[.slice A us.length c, .func (.func 42) #[] #[.pointer (some ⟨g, 0, none⟩), .pointer (some ⟨g + 1, 0, none⟩)]] w fun e w' => e = .returned (.bool (cinB s h l us)) ∧ Below w.heap.size w w' := by
  have XI := Lib.hid (indexFuncC_any g S cs s H B ch cb h l A c us hls hh hl hz w hS hH hB hU b1 b2)
  generalize cinB s h l us = res at XI ⊢
  clear hS hH hB hU b1 b2
  go_enter Try.func41, Try.ntmps41
  go_wp2_with fail
  refine XI.out.mono ?_
  rintro e u ⟨n, rfl, hn, d⟩
  have D := Lib.hid d
  have HN := Lib.hid hn
  clear d hn
  go_wp2
  go_ret
  refine ⟨ret_bool ?_, D.out⟩
  have := HN.out
  cases res
  · simp at this; simp; omega
  · simp at this; simp; omega

set_option maxHeartbeats 1000000 in
set_option maxRecDepth 100000 in
theorem impl_ContainedIn (S : Option Addr) (cs : Nat) (s : List Int) (H B : Option Addr) (ch cb : Nat) (h : List Int) (l : FL) (A : Option Addr) (c : Nat) (us : UL) (hls : s.length ≤ 1048576) (hh : h.length ≤ 1048576) (hl : szF l ≤ 1048576) (hz : szU us ≤ 1048576) (w : World) (hS : RI w S s) (hH : RI w H h) (hB : RF w B l) (hU : RU w A us) :
    Calls Try.prog 22 #[.slice S s.length cs, .agg #[.slice H h.length ch, .slice B l.length cb], .slice A us.length c] w fun e w' => e = .returned (.bool (cinB s h l us)) ∧ Below w.heap.size w w' := by
  have b2 := below_alloc (w.alloc (.cells #[.slice S s.length cs] 22)) (.cells #[.slice H h.length ch, .slice B l.length cb] 31)
  have B0 := Lib.hid (step (below_alloc w (.cells #[.slice S s.length cs] 22)) b2)
  have X0 := Lib.hid ((Box.new w #[.slice S s.length cs] 22).step b2)
  have Y0 := Lib.hid (show Box ((w.alloc (.cells #[.slice S s.length cs] 22)).alloc (.cells #[.slice H h.length ch, .slice B l.length cb] 31)) (w.heap.size + 1) #[.slice H h.length ch, .slice B l.length cb] 31 by
    have h9 := Box.new (w.alloc (.cells #[.slice S s.length cs] 22)) #[.slice H h.length ch, .slice B l.length cb] 31
    rwa [al_size] at h9)
  have XA := Lib.hid (containsFuncC_any w.heap.size S cs s H B ch cb h l A c us hls hh hl hz _ (hS.step B0.out) (hH.step B0.out) (hB.step B0.out) (hU.step B0.out) X0.out Y0.out)
  generalize cinB s h l us = res at XA ⊢
  clear hS hH hB hU b2
  go_enter Try.func22, Try.ntmps22
  go_wp2_with fail
  refine XA.out.mono ?_
  rintro e u ⟨rfl, d⟩
  have D := Lib.hid (step B0.out d)
  clear d
  go_wp2
  go_ret
  exact ⟨rfl, D.out⟩
end Go.Proofs.Ytimlpdcambmcjaa
