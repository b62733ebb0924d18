/- What the two functions IsUnion answer. Conditions: none beyond each theorem's own. -/
import Derived.Test.YtimlpdcambmcjaaGreatS24
import Derived.Test.YtimlpdcambmcjaaGreatS21
import Derived.Lib.QuietBelow

namespace Go.Proofs.YtimlpdcambmcjaaGreat
open Go.ChangeShapes Go.WideShapes Go.ChangeAt Go.RowKit Go.Sort
set_option linter.unusedVariables false
set_option linter.unusedSimpArgs false

/-- Is the query q a part of a union that begins with f0? -/
def partB (s : List Int) (n : Nat) (q : Qr) : Bool := queryB s q.1 q.2 && decide (q.1.length = n)
/-- How long the first head is. -/
def hd0 (us : UL) : Nat := (us.getD 0 noU).1.length
/-- Are the first n of the list parts of a union? -/
def allU (s : List Int) (us : UL) (n : Nat) : Bool := (List.range n).all fun k => partB s (hd0 us) (us.getD k noU)
theorem allU_succ (s : List Int) (l : UL) (k : Nat) : allU s l (k + 1) = (allU s l k && partB s (hd0 l) (l.getD k noU)) := by
  unfold allU
  rw [List.range_succ, List.all_append]
  simp
theorem allU_not (s : List Int) (l : UL) (k n : Nat) (hk : k < n) (h : partB s (hd0 l) (l.getD k noU) = false) : allU s l n = false := by
  unfold allU
  rw [List.all_eq_false]
  exact ⟨k, by simpa using hk, by rw [h]; simp⟩
theorem allU_at {s : List Int} {l : UL} {n : Nat} (h : allU s l n = true) {k : Nat} (hk : k < n) : partB s (hd0 l) (l.getD k noU) = true := by
  unfold allU at h
  rw [List.all_eq_true] at h
  exact h k (by simpa using hk)
def unionB (s : List Int) (us : UL) : Bool := allU s us us.length && schB s && inB (us.length : Int) 1 3
theorem queryB_sch {s hs : List Int} {l : FL} (h : queryB s hs l = true) : schB s = true := by
  unfold queryB at h
  simp only [Bool.and_eq_true] at h
  exact h.1.1.2
theorem unionB_i (s : List Int) (us : UL) : unionB s us = (inB (us.length : Int) 1 3 && allU s us us.length) := by
  unfold unionB
  by_cases h1 : inB (us.length : Int) 1 3 = true
  · by_cases h2 : allU s us us.length = true
    · have h3 : 1 ≤ (us.length : Int) ∧ (us.length : Int) ≤ 3 := by simpa [inB] using h1
      have h4 := allU_at h2 (show 0 < us.length by omega)
      unfold partB at h4
      rw [Bool.and_eq_true] at h4
      rw [h1, h2, queryB_sch h4.1]
      rfl
    · have h2' : allU s us us.length = false := by simpa using h2
      simp [h2']
  · have h1' : inB (us.length : Int) 1 3 = false := by simpa using h1
    simp [h1']

set_option maxHeartbeats 1000000 in
set_option maxRecDepth 100000 in
theorem spec_IsUnion (S : Option Addr) (cs : Nat) (s : List Int) (A : Option Addr) (c : Nat) (l : UL) (hls : s.length ≤ 1048576) (hz : szU l ≤ 1048576) (w : World) (h : RI w S s) (h' : RU w A l) :
    Calls Tryz.prog 52 #[.slice S s.length cs, .slice A l.length c] w fun e w' => e = .returned (.bool (unionB s l)) ∧ Below w.heap.size w w' := by
  have hl := szU_len hz
  have hl' : (l.length : Int) ≤ 1048576 := by omega
  have hs' : (s.length : Int) ≤ 1048576 := by omega
  have HI := Lib.hid h
  have HJ := Lib.hid h'
  clear h h'
  go_enter Tryz.func52, Tryz.ntmps52
  go_wp2
  go_loopw [5] (fun i wr => ∃ k : Nat, k ≤ l.length ∧ i = .int .i64 k ∧ Hid (allU s l k = true) ∧ Hid (Below w.heap.size w wr)) (fun i _ => l.length - (intOf i).toNat)
  case atStart => exact ⟨0, by omega, rfl, Lib.hid rfl, Lib.hid (Below.refl _ _)⟩
  case round =>
    obtain ⟨k, hk, rfl, HA, hb⟩ := hrel
    by_cases hlt : k < l.length
    · generalize hf : l.getD k noU = f
      obtain ⟨hs, ats⟩ := f
      generalize hf0 : l.getD 0 noU = f0
      obtain ⟨hs0, ats0⟩ := f0
      have HF := Lib.hid (show partB s (hd0 l) (l.getD k noU) = (queryB s hs ats && decide (hs.length = hs0.length)) by unfold hd0; rw [hf, hf0]; rfl)
      obtain ⟨_, hhl, hll⟩ := szU_elem hz hlt hf
      obtain ⟨_, hhl0, _⟩ := szU_elem hz (show 0 < l.length by omega) hf0
      have hhl' : (hs.length : Int) ≤ 1048576 := by omega
      have hhl0' : (hs0.length : Int) ≤ 1048576 := by omega
      obtain ⟨b, off, H, ch, B, c2, hA1, n1, e0, e1, _, _, _, _, hI, hJ⟩ := (HJ.out.step hb.out).at_ hlt hf
      obtain ⟨b', off', H0, ch0, B0, c0, hA2, n2, e2, e3, _, _, _, _, _, _⟩ := (HJ.out.step hb.out).at_ (show 0 < l.length by omega) hf0
      subst hA1
      injection hA2 with hA2
      injection hA2 with i1 i2
      subst i1 i2
      simp only [Nat.zero_mul, Nat.add_zero] at e2 e3
      have XC := Lib.hid fun (W : World) (hW : Below wr.heap.size wr W) => spec_IsQuery S H B cs ch c2 s hs ats hls (by omega) hll W ((HI.out.step hb.out).step hW) (hI.step hW) (hJ.step hW)
      have k0 := cell_regrown e0
      have k1 := cell_regrown e1
      have k2 := cell_regrown e2
      clear hf hf0 hI hJ
      have hk0 : (0 : Int) ≤ (k : Int) := by omega
      have hk1 : (k : Int) < (l.length : Int) := by omega
      have hl0 : (0 : Int) < (l.length : Int) := by omega
      by_cases hq : queryB s hs ats = true
      · have HQ := Lib.hid hq
        have X1 := Lib.hid fun (W : World) (hW : Below wr.heap.size wr W) => (show Calls Tryz.prog 38 #[.slice S s.length cs, .agg #[.slice H hs.length ch, .slice B ats.length c2]] W fun e w' => e = .returned (.bool true) ∧ Below W.heap.size W w' by have := XC.out W hW; rwa [HQ.out] at this)
        clear hq XC
        by_cases hd : hs.length = hs0.length
        · have D := Lib.hid (show partB s (hd0 l) (l.getD k noU) = true by rw [HF.out, HQ.out, decide_eq_true hd]; rfl)
          have hdi : (hs.length : Int) = (hs0.length : Int) := by omega
          have hd1 : decide ((hs.length : Int) = (hs0.length : Int)) = true := decide_eq_true hdi
          have HD := Lib.hid hd
          clear hd
          go_wp2
          refine wp_region_quiet_below (by kernel_rfl) (by kernel_rfl) ?_
          repeat (go_big_quiet_step (first | (go_at_call 38; with_reducible exact Calls.regrown_of (X1.out _ (below_regrown _ _ _)))))
          refine wpQuiet_nil ?_
          intro u hw'
          have hb2 := step hb.out (show Below wr.heap.size wr u by obtain ⟨⟨dq, osq⟩, rfl⟩ := hw'; exact below_regrown _ _ _)
          clear hw' k0 k1 k2
          go_wp2
          go_roundw
          case rel => exact ⟨k + 1, by omega, by go_num, Lib.hid (by rw [allU_succ, HA.out, D.out]; rfl), Lib.hid hb2⟩
          case measure => simp [intOf]; omega
        · have D := Lib.hid (show partB s (hd0 l) (l.getD k noU) = false by rw [HF.out, decide_eq_false hd, Bool.and_false])
          have hdi : ¬ (hs.length : Int) = (hs0.length : Int) := by omega
          have hd1 : decide ((hs.length : Int) = (hs0.length : Int)) = false := decide_eq_false hdi
          have HD := Lib.hid hd
          clear hd
          go_wp2
          refine wp_region_quiet_below (by kernel_rfl) (by kernel_rfl) ?_
          repeat (go_big_quiet_step (first | (go_at_call 38; with_reducible exact Calls.regrown_of (X1.out _ (below_regrown _ _ _)))))
          refine wpQuiet_nil ?_
          intro u hw'
          have hb2 := step hb.out (show Below wr.heap.size wr u by obtain ⟨⟨dq, osq⟩, rfl⟩ := hw'; exact below_regrown _ _ _)
          clear hw' k0 k1 k2
          go_wp2
          go_ret
          exact ⟨ret_bool (by unfold unionB; rw [allU_not s l k _ hlt D.out]; rfl), hb2⟩
      · have HQ := Lib.hid (show queryB s hs ats = false by simpa using hq)
        have D := Lib.hid (show partB s (hd0 l) (l.getD k noU) = false by rw [HF.out, HQ.out, Bool.false_and])
        have X1 := Lib.hid fun (W : World) (hW : Below wr.heap.size wr W) => (show Calls Tryz.prog 38 #[.slice S s.length cs, .agg #[.slice H hs.length ch, .slice B ats.length c2]] W fun e w' => e = .returned (.bool false) ∧ Below W.heap.size W w' by have := XC.out W hW; rwa [HQ.out] at this)
        clear hq XC
        go_wp2
        refine wp_region_quiet_below (by kernel_rfl) (by kernel_rfl) ?_
        repeat (go_big_quiet_step (first | (go_at_call 38; with_reducible exact Calls.regrown_of (X1.out _ (below_regrown _ _ _)))))
        refine wpQuiet_nil ?_
        intro u hw'
        have hb2 := step hb.out (show Below wr.heap.size wr u by obtain ⟨⟨dq, osq⟩, rfl⟩ := hw'; exact below_regrown _ _ _)
        clear hw' k0 k1 k2
        go_wp2
        go_ret
        exact ⟨ret_bool (by unfold unionB; rw [allU_not s l k _ hlt D.out]; rfl), hb2⟩
    · obtain rfl : k = l.length := by omega
      have XC := Lib.hid (spec_IsSchema _ _ S cs s (by omega) wr (HI.out.step hb.out))
      have EH := Lib.hid (show unionB s l = (schB s && inB (l.length : Int) 1 3) by unfold unionB; rw [HA.out]; rfl)
      generalize schB s = res at XC EH
      cases res
      · go_wp2_with fail
        refine XC.out.mono ?_
        rintro e u ⟨rfl, rfl⟩
        go_wp2
        go_ret
        exact ⟨ret_bool (by rw [EH.out]; rfl), hb.out⟩
      · go_wp2_with fail
        refine XC.out.mono ?_
        rintro e u ⟨rfl, rfl⟩
        go_wp2_with fail
        refine (l1In_any (l.length : Int) 1 3 _).mono ?_
        rintro e w3 ⟨rfl, rfl⟩
        go_wp2
        go_ret
        exact ⟨ret_bool (by rw [EH.out]; rfl), hb.out⟩

set_option maxHeartbeats 1000000 in
set_option maxRecDepth 100000 in
theorem isUnion1_any (g : Nat) (S : Option Addr) (cs : Nat) (s : List Int) (A : Option Addr) (c : Nat) (us : UL) (H B : Option Addr) (ch c2 : Nat) (hs : List Int) (l : FL) (hls : s.length ≤ 1048576) (hz : szU us ≤ 1048576) (hp : 0 < us.length) (hh : hs.length ≤ 1048576) (hl : szF l ≤ 1048576)
    (w : World) (h : RI w S s) (h' : RU w A us) (hH : RI w H hs) (hB : RF w B l) (hb : Box w g #[.slice S s.length cs] 22) (hb2 : Box w (g + 1) #[.slice A us.length c] 44) :
    Calls Tryz.prog 101 #[.agg #[.slice H hs.length ch, .slice B l.length c2], .pointer (some ⟨g, 0, none⟩), .pointer (some ⟨g + 1, 0, none⟩)] w fun e w' => e = .returned (.bool (partB s (hd0 us) (hs, l))) ∧ Below w.heap.size w w' := by
  generalize hf0 : us.getD 0 noU = f0
  obtain ⟨hs0, ats0⟩ := f0
  have HF := Lib.hid (show partB s (hd0 us) (hs, l) = (queryB s hs l && decide (hs.length = hs0.length)) by unfold hd0; rw [hf0]; rfl)
  obtain ⟨_, hhl0, _⟩ := szU_elem hz hp hf0
  have hul := szU_len hz
  have hp' : (0 : Int) < (us.length : Int) := by omega
  have hhl' : (hs.length : Int) ≤ 1048576 := by omega
  have hhl0' : (hs0.length : Int) ≤ 1048576 := by omega
  have ba := below_alloc w (.cells #[.slice H hs.length ch, .slice B l.length c2] 29)
  obtain ⟨b', off', H0, ch0, B0, c0, rfl, n2, e2, e3, _, _, _, _, _, _⟩ := (h'.step ba).at_ hp hf0
  simp only [Nat.zero_mul, Nat.add_zero] at e2 e3
  have xq := (Box.new w #[.slice H hs.length ch, .slice B l.length c2] 29).cell 0
  have xq1 := (Box.new w #[.slice H hs.length ch, .slice B l.length c2] 29).cell 1
  have xs := (hb.step ba).cell 0
  have xu := (hb2.step ba).cell 0
  have gl := hb.lt
  have gl2 := hb2.lt
  simp only [List.getElem?_toArray, List.getElem?_cons_zero, List.getElem?_cons_succ] at xq xq1 xs xu
  have XC := Lib.hid fun (W : World) (hW : Below (w.alloc (.cells #[.slice H hs.length ch, .slice B l.length c2] 29)).heap.size (w.alloc (.cells #[.slice H hs.length ch, .slice B l.length c2] 29)) W) => impl_IsQuery S H B cs ch c2 s hs l hls (by omega) hl W ((h.step ba).step hW) ((hH.step ba).step hW) ((hB.step ba).step hW)
  have BA := Lib.hid ba
  have k0 := cell_regrown xq
  have k1 := cell_regrown xq1
  have k2 := cell_regrown xs
  have k3 := cell_regrown xu
  have k4 := cell_regrown e2
  clear hf0 h h' hH hB hb hb2 ba e3
  by_cases hq : queryB s hs l = true
  · have HQ := Lib.hid hq
    have X1 := Lib.hid fun (W : World) (hW : Below (w.alloc (.cells #[.slice H hs.length ch, .slice B l.length c2] 29)).heap.size (w.alloc (.cells #[.slice H hs.length ch, .slice B l.length c2] 29)) W) => (show Calls Tryz.prog 43 #[.slice S s.length cs, .agg #[.slice H hs.length ch, .slice B l.length c2]] W fun e w' => e = .returned (.bool true) ∧ Below W.heap.size W w' by have := XC.out W hW; rwa [HQ.out] at this)
    clear hq XC
    by_cases hd : hs.length = hs0.length
    · have D := Lib.hid (show partB s (hd0 us) (hs, l) = true by rw [HF.out, HQ.out, decide_eq_true hd]; rfl)
      have hdi : (hs.length : Int) = (hs0.length : Int) := by omega
      have hd1 : decide ((hs.length : Int) = (hs0.length : Int)) = true := decide_eq_true hdi
      have HD := Lib.hid hd
      clear hd
      rw [D.out]
      go_enter Tryz.func101, Tryz.ntmps101
      go_wp2
      refine wp_region_quiet_below (by kernel_rfl) (by kernel_rfl) ?_
      repeat (go_big_quiet_step (first | (go_at_call 43; with_reducible exact Calls.regrown_of (X1.out _ (below_regrown _ _ _)))))
      refine wpQuiet_nil ?_
      intro u hw'
      have hb2 := step BA.out (show Below _ _ u by obtain ⟨⟨dq, osq⟩, rfl⟩ := hw'; exact below_regrown _ _ _)
      clear hw' k0 k1 k2 k3 k4
      go_wp2
      go_ret
      exact ⟨rfl, hb2⟩
    · have D := Lib.hid (show partB s (hd0 us) (hs, l) = false by rw [HF.out, decide_eq_false hd, Bool.and_false])
      have hdi : ¬ (hs.length : Int) = (hs0.length : Int) := by omega
      have hd1 : decide ((hs.length : Int) = (hs0.length : Int)) = false := decide_eq_false hdi
      have HD := Lib.hid hd
      clear hd
      rw [D.out]
      go_enter Tryz.func101, Tryz.ntmps101
      go_wp2
      refine wp_region_quiet_below (by kernel_rfl) (by kernel_rfl) ?_
      repeat (go_big_quiet_step (first | (go_at_call 43; with_reducible exact Calls.regrown_of (X1.out _ (below_regrown _ _ _)))))
      refine wpQuiet_nil ?_
      intro u hw'
      have hb2 := step BA.out (show Below _ _ u by obtain ⟨⟨dq, osq⟩, rfl⟩ := hw'; exact below_regrown _ _ _)
      clear hw' k0 k1 k2 k3 k4
      go_wp2
      go_ret
      exact ⟨ret_bool (beq_eq_false_iff_ne.2 hdi), hb2⟩
  · have HQ := Lib.hid (show queryB s hs l = false by simpa using hq)
    have D := Lib.hid (show partB s (hd0 us) (hs, l) = false by rw [HF.out, HQ.out, Bool.false_and])
    have X1 := Lib.hid fun (W : World) (hW : Below (w.alloc (.cells #[.slice H hs.length ch, .slice B l.length c2] 29)).heap.size (w.alloc (.cells #[.slice H hs.length ch, .slice B l.length c2] 29)) W) => (show Calls Tryz.prog 43 #[.slice S s.length cs, .agg #[.slice H hs.length ch, .slice B l.length c2]] W fun e w' => e = .returned (.bool false) ∧ Below W.heap.size W w' by have := XC.out W hW; rwa [HQ.out] at this)
    clear hq XC
    rw [D.out]
    go_enter Tryz.func101, Tryz.ntmps101
    go_wp2
    refine wp_region_quiet_below (by kernel_rfl) (by kernel_rfl) ?_
    repeat (go_big_quiet_step (first | (go_at_call 43; with_reducible exact Calls.regrown_of (X1.out _ (below_regrown _ _ _)))))
    refine wpQuiet_nil ?_
    intro u hw'
    have hb2 := step BA.out (show Below _ _ u by obtain ⟨⟨dq, osq⟩, rfl⟩ := hw'; exact below_regrown _ _ _)
    clear hw' k0 k1 k2 k3 k4
    go_wp2
    go_ret
    exact ⟨rfl, hb2⟩

set_option maxHeartbeats 1000000 in
set_option maxRecDepth 100000 in
theorem areAllU_any (g : Nat) (S : Option Addr) (cs : Nat) (s : List Int) (A : Option Addr) (c : Nat) (l : UL) (hls : s.length ≤ 1048576) (hz : szU l ≤ 1048576) (w : World) (h : RI w S s) (h' : RU w A l) (hg : Box w g #[.slice S s.length cs] 22) (hg2 : Box w (g + 1) #[.slice A l.length c] 44) :
    Calls Tryz.prog 66 #[.slice A l.length c, .func (.func 101) #[] #[.pointer (some ⟨g, 0, none⟩), .pointer (some ⟨g + 1, 0, none⟩)]] w fun e w' => e = .returned (.bool (allU s l l.length)) ∧ Below w.heap.size w w' := by
  have hl := szU_len hz
  have hl' : (l.length : Int) ≤ 1048576 := by omega
  have HI := Lib.hid h
  have HJ := Lib.hid h'
  have HG := Lib.hid hg
  have HG2 := Lib.hid hg2
  clear h h' hg hg2
  go_enter Tryz.func66, Tryz.ntmps66
  go_wp2
  go_loopw [6, 9] (fun _ i wr => ∃ k : Nat, k ≤ l.length ∧ i = .int .i64 k ∧ Hid (allU s l k = true) ∧ Hid (Below w.heap.size w wr)) (fun _ i _ => l.length - (intOf i).toNat)
  case atStart => exact ⟨0, by omega, rfl, Lib.hid rfl, Lib.hid (Below.refl _ _)⟩
  case round =>
    obtain ⟨k, hk, rfl, HA, hb⟩ := hrel
    by_cases hlt : k < l.length
    · generalize hf : l.getD k noU = f
      obtain ⟨hs, ats⟩ := f
      have HF := Lib.hid (show partB s (hd0 l) (l.getD k noU) = partB s (hd0 l) (hs, ats) by rw [hf])
      obtain ⟨_, hhl, hll⟩ := szU_elem hz hlt hf
      obtain ⟨b, off, H, ch, B, c2, hA, n1, e0, e1, _, _, _, _, hI, hJ⟩ := (HJ.out.step hb.out).at_ hlt hf
      have bv := below_alloc wr (.cells #[.slice H hs.length ch, .slice B ats.length c2] 29)
      have XC := Lib.hid (isUnion1_any g S cs s A c l H B ch c2 hs ats hls hz (by omega) hhl hll _ ((HI.out.step hb.out).step bv) ((HJ.out.step hb.out).step bv) (hI.step bv) (hJ.step bv) ((HG.out.step hb.out).step bv) ((HG2.out.step hb.out).step bv))
      generalize partB s (hd0 l) (hs, ats) = res at XC HF
      subst hA
      clear hf hI hJ bv
      have hk0 : (0 : Int) ≤ (k : Int) := by omega
      have hk1 : (k : Int) < (l.length : Int) := by omega
      go_wp2_with fail
      refine XC.out.mono ?_
      rintro e u ⟨rfl, d⟩
      have hb2 := step hb.out (below_new d)
      clear d
      cases res
      · go_wp2
        go_ret
        exact ⟨ret_bool (allU_not s l k _ hlt HF.out).symm, hb2⟩
      · go_wp2
        go_roundw
        case rel => exact ⟨k + 1, by omega, by go_num, Lib.hid (by rw [allU_succ, HA.out, HF.out]; rfl), Lib.hid hb2⟩
        case measure => simp [intOf]; omega
    · obtain rfl : k = l.length := by omega
      go_wp2
      go_ret
      exact ⟨ret_bool HA.out.symm, hb.out⟩

set_option maxHeartbeats 1000000 in
set_option maxRecDepth 100000 in
theorem impl_IsUnion (S : Option Addr) (cs : Nat) (s : List Int) (A : Option Addr) (c : Nat) (l : UL) (hls : s.length ≤ 1048576) (hz : szU l ≤ 1048576) (w : World) (h : RI w S s) (h' : RU w A l) :
    Calls Tryz.prog 56 #[.slice S s.length cs, .slice A l.length c] w fun e w' => e = .returned (.bool (unionB s l)) ∧ Below w.heap.size w w' := by
  have hl := szU_len hz
  have hl' : (l.length : Int) ≤ 1048576 := by omega
  have b2 := below_alloc (w.alloc (.cells #[.slice S s.length cs] 22)) (.cells #[.slice A l.length c] 44)
  have B0 := Lib.hid (step (below_alloc w (.cells #[.slice S s.length cs] 22)) b2)
  have X0 := Lib.hid ((Box.new w #[.slice S s.length cs] 22).step b2)
  have Y0 := Lib.hid (show Box ((w.alloc (.cells #[.slice S s.length cs] 22)).alloc (.cells #[.slice A l.length c] 44)) (w.heap.size + 1) #[.slice A l.length c] 44 by
    have h := Box.new (w.alloc (.cells #[.slice S s.length cs] 22)) #[.slice A l.length c] 44
    rwa [al_size] at h)
  have XA := Lib.hid (areAllU_any w.heap.size S cs s A c l hls hz _ (h.step B0.out) (h'.step B0.out) X0.out Y0.out)
  have y0 := Y0.out.cell 0
  simp only [List.getElem?_toArray, List.getElem?_cons_zero, List.getElem?_cons_succ] at y0
  clear h h' b2
  rw [unionB_i]
  by_cases c1 : inB (l.length : Int) 1 3 = true
  · have C1 := Lib.hid c1
    have EH := Lib.hid (show (inB (l.length : Int) 1 3 && allU s l l.length) = allU s l l.length by rw [c1]; rfl)
    rw [EH.out]
    generalize allU s l l.length = res at XA ⊢
    clear c1 EH
    go_enter Tryz.func56, Tryz.ntmps56
    go_wp2_with fail
    refine (isBetween_any (l.length : Int) 1 3 _).mono ?_
    rintro e w1 ⟨he, rfl⟩
    rw [C1.out] at he
    subst he
    go_wp2_with fail
    refine XA.out.mono ?_
    rintro e u ⟨rfl, d⟩
    have D := Lib.hid (step B0.out d)
    clear d
    go_wp2
    go_ret
    exact ⟨rfl, D.out⟩
  · have C1 := Lib.hid (show inB (l.length : Int) 1 3 = false by simpa using c1)
    have EH := Lib.hid (show (inB (l.length : Int) 1 3 && allU s l l.length) = false by rw [C1.out]; rfl)
    rw [EH.out]
    clear c1 EH
    go_enter Tryz.func56, Tryz.ntmps56
    go_wp2_with fail
    refine (isBetween_any (l.length : Int) 1 3 _).mono ?_
    rintro e w1 ⟨he, rfl⟩
    rw [C1.out] at he
    subst he
    go_wp2
    go_ret
    exact ⟨rfl, B0.out⟩
end Go.Proofs.YtimlpdcambmcjaaGreat
