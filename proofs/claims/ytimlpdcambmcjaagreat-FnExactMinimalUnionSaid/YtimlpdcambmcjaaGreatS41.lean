/- What the two functions ContainedIn answer. Conditions: none beyond each theorem's own. What the two functions SameUnions answer. Conditions: none beyond each theorem's own. -/
import Derived.Test.YtimlpdcambmcjaaGreatSCnS
import Derived.Test.YtimlpdcambmcjaaGreatSCnI
import Derived.Test.YtimlpdcambmcjaaGreatS25

namespace Go.Proofs.YtimlpdcambmcjaaGreat
open Go.ChangeShapes Go.WideShapes Go.ChangeAt Go.RowKit Go.Sort
set_option linter.unusedVariables false
set_option linter.unusedSimpArgs false

/-- Is the query contained in the one with this number? -/
def inAtU (s h : List Int) (l : FL) (us : UL) (k : Nat) : Bool := conB s h (us.getD k noU).1 l (us.getD k noU).2
/-- Is it contained in none of the first n? -/
def noC (s h : List Int) (l : FL) (us : UL) (n : Nat) : Bool := (List.range n).all fun k => !inAtU s h l us k
theorem noC_succ (s h : List Int) (l : FL) (us : UL) (k : Nat) : noC s h l us (k + 1) = (noC s h l us k && !inAtU s h l us k) := by
  unfold noC
  rw [List.range_succ, List.all_append]
  simp
theorem noC_not (s h : List Int) (l : FL) (us : UL) (k n : Nat) (hk : k < n) (hi : inAtU s h l us k = true) : noC s h l us n = false := by
  unfold noC
  rw [List.all_eq_false]
  exact ⟨k, by simpa using hk, by rw [hi]; simp⟩
theorem noC_at {s h : List Int} {l : FL} {us : UL} {n : Nat} (hn : noC s h l us n = true) {k : Nat} (hk : k < n) : inAtU s h l us k = false := by
  unfold noC at hn
  rw [List.all_eq_true] at hn
  have := hn k (by simpa using hk)
  simpa using this
/-- Is the query contained in one of the list? -/
def cinB (s h : List Int) (l : FL) (us : UL) : Bool := !noC s h l us us.length

set_option maxHeartbeats 1000000 in
set_option maxRecDepth 100000 in
theorem spec_ContainedIn (S : Option Addr) (cs : Nat) (s : List Int) (H B : Option Addr) (ch cb : Nat) (h : List Int) (l : FL) (A : Option Addr) (c : Nat) (us : UL) (hls : s.length ≤ 1048576) (hh : h.length ≤ 1048576) (hl : szF l ≤ 1048576) (hz : szU us ≤ 1048576) (w : World) (hS : RI w S s) (hH : RI w H h) (hB : RF w B l) (hU : RU w A us) :
    Calls Tryz.prog 62 #[.slice S s.length cs, .agg #[.slice H h.length ch, .slice B l.length cb], .slice A us.length c] w fun e w' => e = .returned (.bool (cinB s h l us)) ∧ Below w.heap.size w w' := by
  have hul := szU_len hz
  have hul' : (us.length : Int) ≤ 1048576 := by omega
  have B0 := Lib.hid (below_alloc w (.cells #[.slice H h.length ch, .slice B l.length cb] 29))
  have X0 := Lib.hid (Box.new w #[.slice H h.length ch, .slice B l.length cb] 29)
  have HS := Lib.hid hS
  have HH := Lib.hid hH
  have HB := Lib.hid hB
  have HU := Lib.hid hU
  clear hS hH hB hU
  go_enter Tryz.func62, Tryz.ntmps62
  go_wp2
  go_loopw [7] (fun i wr => ∃ k : Nat, k ≤ us.length ∧ i = .int .i64 k ∧ Hid (noC s h l us k = true) ∧ Hid (Below w.heap.size w wr) ∧ Hid (Box wr w.heap.size #[.slice H h.length ch, .slice B l.length cb] 29)) (fun i _ => us.length - (intOf i).toNat)
  case atStart => exact ⟨0, by omega, rfl, Lib.hid rfl, B0, X0⟩
  case round =>
    obtain ⟨k, hk, rfl, HN, hb, hX⟩ := hrel
    have x0 := hX.out.cell 0
    have x1 := hX.out.cell 1
    simp only [List.getElem?_toArray, List.getElem?_cons_zero, List.getElem?_cons_succ] at x0 x1
    have xl := hX.out.lt
    by_cases hlt : k < us.length
    · generalize hf : us.getD k noU = f
      obtain ⟨h2, l2⟩ := f
      have HF := Lib.hid (show inAtU s h l us k = conB s h h2 l l2 by unfold inAtU; rw [hf])
      obtain ⟨_, hhl, hll⟩ := szU_elem hz hlt hf
      obtain ⟨b, off, H2, c2, B2, c3, rfl, n1, e0, e1, _, _, _, _, hI, hJ⟩ := (HU.out.step hb.out).at_ hlt hf
      have X1 := Lib.hid fun (W : World) (hW : Below wr.heap.size wr W) => spec_IsContained S H B H2 B2 cs ch cb c2 c3 s h h2 l l2 hls hh hhl hl hll W (HS.out.step (step hb.out hW)) (HH.out.step (step hb.out hW)) (HB.out.step (step hb.out hW)) (hI.step hW) (hJ.step hW)
      generalize conB s h h2 l l2 = res at X1 HF
      have k0 := cell_regrown e0
      have k1 := cell_regrown e1
      have k2 := cell_regrown x0
      have k3 := cell_regrown x1
      clear hf hI hJ
      have hk0 : (0 : Int) ≤ (k : Int) := by omega
      have hk1 : (k : Int) < (us.length : Int) := by omega
      go_wp2
      refine wp_region_quiet_below (by kernel_rfl) (by kernel_rfl) ?_
      repeat (go_big_quiet_step (first | (go_at_call 40; with_reducible exact Calls.regrown_of (X1.out _ (below_regrown _ _ _)))))
      refine wpQuiet_nil ?_
      intro u hw'
      have hb1 := (show Below wr.heap.size wr u by obtain ⟨⟨dq, osq⟩, rfl⟩ := hw'; exact below_regrown _ _ _)
      have hb2 := Lib.hid (step hb.out hb1)
      have hX2 := Lib.hid (hX.out.step hb1)
      clear hw' k0 k1 k2 k3 hb1
      cases res
      · go_wp2
        go_roundw
        case rel => exact ⟨k + 1, by omega, by go_num, Lib.hid (by rw [noC_succ, HN.out, HF.out]; rfl), hb2, hX2⟩
        case measure => simp [intOf]; omega
      · go_wp2
        go_ret
        exact ⟨ret_bool (by unfold cinB; rw [noC_not s h l us k _ hlt HF.out]; rfl), hb2.out⟩
    · obtain rfl : k = us.length := by omega
      go_wp2
      go_ret
      exact ⟨ret_bool (by unfold cinB; rw [HN.out]; rfl), hb.out⟩

set_option maxHeartbeats 1000000 in
set_option maxRecDepth 100000 in
theorem containedIn1_any (g : Nat) (S : Option Addr) (cs : Nat) (s : List Int) (H B : Option Addr) (ch cb : Nat) (h : List Int) (l : FL) (H2 B2 : Option Addr) (c2 c3 : Nat) (h2 : List Int) (l2 : FL) (hls : s.length ≤ 1048576) (hh : h.length ≤ 1048576) (hl : szF l ≤ 1048576) (hh2 : h2.length ≤ 1048576) (hl2 : szF l2 ≤ 1048576)
    (w : World) (hS : RI w S s) (hH : RI w H h) (hB : RF w B l) (hH2 : RI w H2 h2) (hB2 : RF w B2 l2) (b1 : Box w g #[.slice S s.length cs] 22) (b2 : Box w (g + 1) #[.slice H h.length ch, .slice B l.length cb] 29) :
    Calls Tryz.prog 113 #[.agg #[.slice H2 h2.length c2, .slice B2 l2.length c3], .pointer (some ⟨g, 0, none⟩), .pointer (some ⟨g + 1, 0, none⟩)] w fun e w' => e = .returned (.bool (conB s h h2 l l2)) ∧ Below w.heap.size w w' := by
  have ba := below_alloc w (.cells #[.slice H2 h2.length c2, .slice B2 l2.length c3] 29)
  have BA := Lib.hid ba
  have xq := (Box.new w #[.slice H2 h2.length c2, .slice B2 l2.length c3] 29).cell 0
  have xq1 := (Box.new w #[.slice H2 h2.length c2, .slice B2 l2.length c3] 29).cell 1
  have xs := (b1.step ba).cell 0
  have xu := (b2.step ba).cell 0
  have xu1 := (b2.step ba).cell 1
  have gl := b1.lt
  have gl2 := b2.lt
  simp only [List.getElem?_toArray, List.getElem?_cons_zero, List.getElem?_cons_succ] at xq xq1 xs xu xu1
  have XC := Lib.hid (impl_IsContained S H B H2 B2 cs ch cb c2 c3 s h h2 l l2 hls hh hh2 hl hl2 _ (hS.step ba) (hH.step ba) (hB.step ba) (hH2.step ba) (hB2.step ba))
  generalize conB s h h2 l l2 = res at XC ⊢
  clear hS hH hB hH2 hB2 b1 b2 ba
  go_enter Tryz.func113, Tryz.ntmps113
  go_wp2_with fail
  refine XC.out.mono ?_
  rintro e u ⟨rfl, d⟩
  have D := Lib.hid (step BA.out d)
  clear d xq xq1 xs xu xu1
  go_wp2
  go_ret
  exact ⟨rfl, D.out⟩

set_option maxHeartbeats 1000000 in
set_option maxRecDepth 100000 in
theorem indexFuncC_any (g : Nat) (S : Option Addr) (cs : Nat) (s : List Int) (H B : Option Addr) (ch cb : Nat) (h : List Int) (l : FL) (A : Option Addr) (c : Nat) (us : UL) (hls : s.length ≤ 1048576) (hh : h.length ≤ 1048576) (hl : szF l ≤ 1048576) (hz : szU us ≤ 1048576)
    (w : World) (hS : RI w S s) (hH : RI w H h) (hB : RF w B l) (hU : RU w A us) (b1 : Box w g #[.slice S s.length cs] 22) (b2 : Box w (g + 1) #[.slice H h.length ch, .slice B l.length cb] 29) :
    Calls Tryz.prog 147 #[.slice A us.length c, .func (.func 113) #[] #[.pointer (some ⟨g, 0, none⟩), .pointer (some ⟨g + 1, 0, none⟩)]] w fun e w' => ∃ n : Int, e = .returned (.int .i64 n) ∧ (0 ≤ n ↔ cinB s h l us = true) ∧ Below w.heap.size w w' := by
  have hul := szU_len hz
  have hul' : (us.length : Int) ≤ 1048576 := by omega
  have HS := Lib.hid hS
  have HH := Lib.hid hH
  have HB := Lib.hid hB
  have HU := Lib.hid hU
  have G1 := Lib.hid b1
  have G2 := Lib.hid b2
  clear hS hH hB hU b1 b2
  go_enter Tryz.func147, Tryz.ntmps147
  go_wp2
  go_loopw [5, 8] (fun _ i wr => ∃ k : Nat, k ≤ us.length ∧ i = .int .i64 k ∧ Hid (noC s h l us k = true) ∧ Hid (Below w.heap.size w wr)) (fun _ i _ => us.length - (intOf i).toNat)
  case atStart => exact ⟨0, by omega, rfl, Lib.hid rfl, Lib.hid (Below.refl _ _)⟩
  case round =>
    obtain ⟨k, hk, rfl, HN, hb⟩ := hrel
    by_cases hlt : k < us.length
    · generalize hf : us.getD k noU = f
      obtain ⟨h2, l2⟩ := f
      have HF := Lib.hid (show inAtU s h l us k = conB s h h2 l l2 by unfold inAtU; rw [hf])
      obtain ⟨_, hhl, hll⟩ := szU_elem hz hlt hf
      obtain ⟨b, off, H2, c2, B2, c3, hA, n1, e0, e1, _, _, _, _, hI, hJ⟩ := (HU.out.step hb.out).at_ hlt hf
      have XC := Lib.hid (containedIn1_any g S cs s H B ch cb h l H2 B2 c2 c3 h2 l2 hls hh hl hhl hll wr (HS.out.step hb.out) (HH.out.step hb.out) (HB.out.step hb.out) hI hJ (G1.out.step hb.out) (G2.out.step hb.out))
      generalize conB s h h2 l l2 = res at XC HF
      subst hA
      clear hf hI hJ
      have hk0 : (0 : Int) ≤ (k : Int) := by omega
      have hk1 : (k : Int) < (us.length : Int) := by omega
      go_wp2_with fail
      refine XC.out.mono ?_
      rintro e u ⟨rfl, d⟩
      have hb2 := step hb.out d
      clear d
      cases res
      · go_wp2
        go_roundw
        case rel => exact ⟨k + 1, by omega, by go_num, Lib.hid (by rw [noC_succ, HN.out, HF.out]; rfl), Lib.hid hb2⟩
        case measure => simp [intOf]; omega
      · go_wp2
        go_ret
        exact ⟨k, rfl, ⟨fun _ => by unfold cinB; rw [noC_not s h l us k _ hlt HF.out]; rfl, fun _ => hk0⟩, hb2⟩
    · obtain rfl : k = us.length := by omega
      go_wp2
      go_ret
      exact ⟨-1, rfl, ⟨fun hc => absurd hc (by omega), fun hc => by unfold cinB at hc; rw [HN.out] at hc; cases hc⟩, hb.out⟩

set_option maxHeartbeats 1000000 in
set_option maxRecDepth 100000 in
theorem containsFuncC_any (g : Nat) (S : Option Addr) (cs : Nat) (s : List Int) (H B : Option Addr) (ch cb : Nat) (h : List Int) (l : FL) (A : Option Addr) (c : Nat) (us : UL) (hls : s.length ≤ 1048576) (hh : h.length ≤ 1048576) (hl : szF l ≤ 1048576) (hz : szU us ≤ 1048576)
    (w : World) (hS : RI w S s) (hH : RI w H h) (hB : RF w B l) (hU : RU w A us) (b1 : Box w g #[.slice S s.length cs] 22) (b2 : Box w (g + 1) #[.slice H h.length ch, .slice B l.length cb] 29) :
    Calls Tryz.prog 112 #[.slice A us.length c, .func (.func 113) #[] #[.pointer (some ⟨g, 0, none⟩), .pointer (some ⟨g + 1, 0, none⟩)]] w fun e w' => e = .returned (.bool (cinB s h l us)) ∧ Below w.heap.size w w' := by
  have XI := Lib.hid (indexFuncC_any g S cs s H B ch cb h l A c us hls hh hl hz w hS hH hB hU b1 b2)
  generalize cinB s h l us = res at XI ⊢
  clear hS hH hB hU b1 b2
  go_enter Tryz.func112, Tryz.ntmps112
  go_wp2_with fail
  refine XI.out.mono ?_
  rintro e u ⟨n, rfl, hn, d⟩
  have D := Lib.hid d
  have HN := Lib.hid hn
  clear d hn
  go_wp2
  go_ret
  refine ⟨ret_bool ?_, D.out⟩
  have := HN.out
  cases res
  · simp at this; simp; omega
  · simp at this; simp; omega

set_option maxHeartbeats 1000000 in
set_option maxRecDepth 100000 in
theorem impl_ContainedIn (S : Option Addr) (cs : Nat) (s : List Int) (H B : Option Addr) (ch cb : Nat) (h : List Int) (l : FL) (A : Option Addr) (c : Nat) (us : UL) (hls : s.length ≤ 1048576) (hh : h.length ≤ 1048576) (hl : szF l ≤ 1048576) (hz : szU us ≤ 1048576) (w : World) (hS : RI w S s) (hH : RI w H h) (hB : RF w B l) (hU : RU w A us) :
    Calls Tryz.prog 64 #[.slice S s.length cs, .agg #[.slice H h.length ch, .slice B l.length cb], .slice A us.length c] w fun e w' => e = .returned (.bool (cinB s h l us)) ∧ Below w.heap.size w w' := by
  have b2 := below_alloc (w.alloc (.cells #[.slice S s.length cs] 22)) (.cells #[.slice H h.length ch, .slice B l.length cb] 29)
  have B0 := Lib.hid (step (below_alloc w (.cells #[.slice S s.length cs] 22)) b2)
  have X0 := Lib.hid ((Box.new w #[.slice S s.length cs] 22).step b2)
  have Y0 := Lib.hid (show Box ((w.alloc (.cells #[.slice S s.length cs] 22)).alloc (.cells #[.slice H h.length ch, .slice B l.length cb] 29)) (w.heap.size + 1) #[.slice H h.length ch, .slice B l.length cb] 29 by
    have h9 := Box.new (w.alloc (.cells #[.slice S s.length cs] 22)) #[.slice H h.length ch, .slice B l.length cb] 29
    rwa [al_size] at h9)
  have XA := Lib.hid (containsFuncC_any w.heap.size S cs s H B ch cb h l A c us hls hh hl hz _ (hS.step B0.out) (hH.step B0.out) (hB.step B0.out) (hU.step B0.out) X0.out Y0.out)
  generalize cinB s h l us = res at XA ⊢
  clear hS hH hB hU b2
  go_enter Tryz.func64, Tryz.ntmps64
  go_wp2_with fail
  refine XA.out.mono ?_
  rintro e u ⟨rfl, d⟩
  have D := Lib.hid (step B0.out d)
  clear d
  go_wp2
  go_ret
  exact ⟨rfl, D.out⟩
end Go.Proofs.YtimlpdcambmcjaaGreat

namespace Go.Proofs.YtimlpdcambmcjaaGreat
open Go.ChangeShapes Go.WideShapes Go.ChangeAt Go.RowKit Go.Sort
set_option linter.unusedVariables false
set_option linter.unusedSimpArgs false

/-- Is each of the first n queries of a contained in one of b? -/
def allIn (s : List Int) (a b : UL) (n : Nat) : Bool := (List.range n).all fun k => cinB s (a.getD k noU).1 (a.getD k noU).2 b
theorem allIn_succ (s : List Int) (a b : UL) (k : Nat) : allIn s a b (k + 1) = (allIn s a b k && cinB s (a.getD k noU).1 (a.getD k noU).2 b) := by
  unfold allIn
  rw [List.range_succ, List.all_append]
  simp
theorem allIn_not (s : List Int) (a b : UL) (k n : Nat) (hk : k < n) (h : cinB s (a.getD k noU).1 (a.getD k noU).2 b = false) : allIn s a b n = false := by
  unfold allIn
  rw [List.all_eq_false]
  exact ⟨k, by simpa using hk, by rw [h]; simp⟩
def smuB (s : List Int) (a b : UL) : Bool := allIn s a b a.length && allIn s b a b.length && (unionB s a && unionB s b)
theorem smuB_i (s : List Int) (a b : UL) : smuB s a b = (((unionB s a && unionB s b) && allIn s a b a.length) && allIn s b a b.length) := by
  unfold smuB
  cases allIn s a b a.length <;> cases allIn s b a b.length <;> cases unionB s a <;> cases unionB s b <;> rfl

set_option maxHeartbeats 2000000 in
set_option maxRecDepth 100000 in
theorem spec_SameUnions (S : Option Addr) (cs : Nat) (s : List Int) (A : Option Addr) (c : Nat) (a : UL) (A' : Option Addr) (c' : Nat) (b : UL) (hls : s.length ≤ 1048576) (hza : szU a ≤ 1048576) (hzb : szU b ≤ 1048576) (w : World) (hS : RI w S s) (hA : RU w A a) (hB : RU w A' b) :
    Calls Tryz.prog 30 #[.slice S s.length cs, .slice A a.length c, .slice A' b.length c'] w fun e w' => e = .returned (.bool (smuB s a b)) ∧ Below w.heap.size w w' := by
  have hla := szU_len hza
  have hlb := szU_len hzb
  have hla' : (a.length : Int) ≤ 1048576 := by omega
  have hlb' : (b.length : Int) ≤ 1048576 := by omega
  have HS := Lib.hid hS
  have HA := Lib.hid hA
  have HB := Lib.hid hB
  clear hS hA hB
  go_enter Tryz.func30, Tryz.ntmps30
  go_wp2
  go_loopw [7] (fun i wr => ∃ k : Nat, k ≤ a.length ∧ i = .int .i64 k ∧ Hid (allIn s a b k = true) ∧ Hid (Below w.heap.size w wr)) (fun i _ => a.length - (intOf i).toNat)
  case atStart => exact ⟨0, by omega, rfl, Lib.hid rfl, Lib.hid (Below.refl _ _)⟩
  case round =>
    obtain ⟨k, hk, rfl, HN, hb⟩ := hrel
    by_cases hlt : k < a.length
    · generalize hf : a.getD k noU = f
      obtain ⟨h2, l2⟩ := f
      have HF := Lib.hid (show cinB s (a.getD k noU).1 (a.getD k noU).2 b = cinB s h2 l2 b by rw [hf])
      obtain ⟨_, hhl, hll⟩ := szU_elem hza hlt hf
      obtain ⟨b1, off, H2, c2, B2, c3, rfl, n1, e0, e1, _, _, _, _, hI, hJ⟩ := (HA.out.step hb.out).at_ hlt hf
      have X1 := Lib.hid (spec_ContainedIn S cs s H2 B2 c2 c3 h2 l2 A' c' b hls hhl hll hzb wr (HS.out.step hb.out) hI hJ (HB.out.step hb.out))
      generalize cinB s h2 l2 b = res at X1 HF
      clear hf hI hJ
      have hk0 : (0 : Int) ≤ (k : Int) := by omega
      have hk1 : (k : Int) < (a.length : Int) := by omega
      go_wp2_with fail
      refine X1.out.mono ?_
      rintro e u ⟨rfl, d⟩
      have hb2 := Lib.hid (step hb.out d)
      clear d e0 e1
      cases res
      · go_wp2
        go_ret
        exact ⟨ret_bool (by unfold smuB; rw [allIn_not s a b k _ hlt HF.out]; rfl), hb2.out⟩
      · go_wp2
        go_roundw
        case rel => exact ⟨k + 1, by omega, by go_num, Lib.hid (by rw [allIn_succ, HN.out, HF.out]; rfl), hb2⟩
        case measure => simp [intOf]; omega
    · obtain rfl : k = a.length := by omega
      have HN1 := HN
      have hbA := hb
      clear HN hb
      generalize wr = wq at *
      go_wp2
      go_loopw [8] (fun i wr => ∃ k : Nat, k ≤ b.length ∧ i = .int .i64 k ∧ Hid (allIn s b a k = true) ∧ Hid (Below w.heap.size w wr)) (fun i _ => b.length - (intOf i).toNat)
      case atStart => exact ⟨0, by omega, rfl, Lib.hid rfl, hbA⟩
      case round =>
        clear hbA hlt
        obtain ⟨k, hk, rfl, HN, hb⟩ := hrel
        by_cases hlt : k < b.length
        · generalize hf : b.getD k noU = f
          obtain ⟨h2, l2⟩ := f
          have HF := Lib.hid (show cinB s (b.getD k noU).1 (b.getD k noU).2 a = cinB s h2 l2 a by rw [hf])
          obtain ⟨_, hhl, hll⟩ := szU_elem hzb hlt hf
          obtain ⟨b1, off, H2, c2, B2, c3, rfl, n1, e0, e1, _, _, _, _, hI, hJ⟩ := (HB.out.step hb.out).at_ hlt hf
          have X1 := Lib.hid (spec_ContainedIn S cs s H2 B2 c2 c3 h2 l2 A c a hls hhl hll hza wr (HS.out.step hb.out) hI hJ (HA.out.step hb.out))
          generalize cinB s h2 l2 a = res at X1 HF
          clear hf hI hJ
          have hk0 : (0 : Int) ≤ (k : Int) := by omega
          have hk1 : (k : Int) < (b.length : Int) := by omega
          go_wp2_with fail
          refine X1.out.mono ?_
          rintro e u ⟨rfl, d⟩
          have hb2 := Lib.hid (step hb.out d)
          clear d e0 e1
          cases res
          · go_wp2
            go_ret
            exact ⟨ret_bool (by unfold smuB; rw [allIn_not s b a k _ hlt HF.out, Bool.and_false]; rfl), hb2.out⟩
          · go_wp2
            go_roundw
            case rel => exact ⟨k + 1, by omega, by go_num, Lib.hid (by rw [allIn_succ, HN.out, HF.out]; rfl), hb2⟩
            case measure => simp [intOf]; omega
        · obtain rfl : k = b.length := by omega
          have EH := Lib.hid (show smuB s a b = (unionB s a && unionB s b) by unfold smuB; rw [HN1.out, HN.out]; rfl)
          have XA := Lib.hid (spec_IsUnion S cs s A c a hls hza wr (HS.out.step hb.out) (HA.out.step hb.out))
          have XB := Lib.hid fun (W : World) (hW : Below wr.heap.size wr W) => spec_IsUnion S cs s A' c' b hls hzb W (HS.out.step (step hb.out hW)) (HB.out.step (step hb.out hW))
          generalize unionB s a = r1 at XA EH
          generalize unionB s b = r2 at XB EH
          cases r1
          · go_wp2_with fail
            refine XA.out.mono ?_
            rintro e u ⟨rfl, d⟩
            have hb2 := Lib.hid (step hb.out d)
            clear d
            go_wp2
            go_ret
            exact ⟨ret_bool (by rw [EH.out]; rfl), hb2.out⟩
          · go_wp2_with fail
            refine XA.out.mono ?_
            rintro e u ⟨rfl, d⟩
            have D1 := Lib.hid d
            clear d
            go_wp2_with fail
            refine (XB.out _ D1.out).mono ?_
            rintro e u2 ⟨rfl, d⟩
            have hb2 := Lib.hid (step hb.out (step D1.out d))
            clear d
            go_wp2
            go_ret
            exact ⟨ret_bool (by rw [EH.out]; rfl), hb2.out⟩

set_option maxHeartbeats 1000000 in
set_option maxRecDepth 100000 in
theorem sameUnions1_any (g : Nat) (S : Option Addr) (cs : Nat) (s : List Int) (A : Option Addr) (c : Nat) (us : UL) (H2 B2 : Option Addr) (c2 c3 : Nat) (h2 : List Int) (l2 : FL) (hls : s.length ≤ 1048576) (hz : szU us ≤ 1048576) (hh2 : h2.length ≤ 1048576) (hl2 : szF l2 ≤ 1048576)
    (w : World) (hS : RI w S s) (hU : RU w A us) (hH2 : RI w H2 h2) (hB2 : RF w B2 l2) (b1 : Box w g #[.slice S s.length cs] 22) (b2 : Box w (g + 1) #[.slice A us.length c] 44) :
    Calls Tryz.prog 63 #[.agg #[.slice H2 h2.length c2, .slice B2 l2.length c3], .pointer (some ⟨g, 0, none⟩), .pointer (some ⟨g + 1, 0, none⟩)] w fun e w' => e = .returned (.bool (cinB s h2 l2 us)) ∧ Below w.heap.size w w' := by
  have ba := below_alloc w (.cells #[.slice H2 h2.length c2, .slice B2 l2.length c3] 29)
  have BA := Lib.hid ba
  have xq := (Box.new w #[.slice H2 h2.length c2, .slice B2 l2.length c3] 29).cell 0
  have xq1 := (Box.new w #[.slice H2 h2.length c2, .slice B2 l2.length c3] 29).cell 1
  have xs := (b1.step ba).cell 0
  have xu := (b2.step ba).cell 0
  have gl := b1.lt
  have gl2 := b2.lt
  simp only [List.getElem?_toArray, List.getElem?_cons_zero, List.getElem?_cons_succ] at xq xq1 xs xu
  have XC := Lib.hid (impl_ContainedIn S cs s H2 B2 c2 c3 h2 l2 A c us hls hh2 hl2 hz _ (hS.step ba) (hH2.step ba) (hB2.step ba) (hU.step ba))
  generalize cinB s h2 l2 us = res at XC ⊢
  clear hS hU hH2 hB2 b1 b2 ba
  go_enter Tryz.func63, Tryz.ntmps63
  go_wp2_with fail
  refine XC.out.mono ?_
  rintro e u ⟨rfl, d⟩
  have D := Lib.hid (step BA.out d)
  clear d xq xq1 xs xu
  go_wp2
  go_ret
  exact ⟨rfl, D.out⟩

set_option maxHeartbeats 1000000 in
set_option maxRecDepth 100000 in
theorem areAllS1_any (g : Nat) (S : Option Addr) (cs : Nat) (s : List Int) (A : Option Addr) (c : Nat) (us : UL) (A' : Option Addr) (c' : Nat) (l : UL) (hls : s.length ≤ 1048576) (hz : szU us ≤ 1048576) (hzl : szU l ≤ 1048576) (w : World) (h : RI w S s) (h' : RU w A us) (h'' : RU w A' l) (hg : Box w g #[.slice S s.length cs] 22) (hg2 : Box w (g + 1) #[.slice A us.length c] 44) :
    Calls Tryz.prog 66 #[.slice A' l.length c', .func (.func 63) #[] #[.pointer (some ⟨g, 0, none⟩), .pointer (some ⟨g + 1, 0, none⟩)]] w fun e w' => e = .returned (.bool (allIn s l us l.length)) ∧ Below w.heap.size w w' := by
  have hl := szU_len hzl
  have hl' : (l.length : Int) ≤ 1048576 := by omega
  have HI := Lib.hid h
  have HJ := Lib.hid h'
  have HK := Lib.hid h''
  have HG := Lib.hid hg
  have HG2 := Lib.hid hg2
  clear h h' h'' hg hg2
  go_enter Tryz.func66, Tryz.ntmps66
  go_wp2
  go_loopw [6, 9] (fun _ i wr => ∃ k : Nat, k ≤ l.length ∧ i = .int .i64 k ∧ Hid (allIn s l us k = true) ∧ Hid (Below w.heap.size w wr)) (fun _ i _ => l.length - (intOf i).toNat)
  case atStart => exact ⟨0, by omega, rfl, Lib.hid rfl, Lib.hid (Below.refl _ _)⟩
  case round =>
    obtain ⟨k, hk, rfl, HA, hb⟩ := hrel
    by_cases hlt : k < l.length
    · generalize hf : l.getD k noU = f
      obtain ⟨hs, ats⟩ := f
      have HF := Lib.hid (show cinB s (l.getD k noU).1 (l.getD k noU).2 us = cinB s hs ats us by rw [hf])
      obtain ⟨_, hhl, hll⟩ := szU_elem hzl hlt hf
      obtain ⟨b, off, H, ch, B, c2, hA, n1, e0, e1, _, _, _, _, hI, hJ⟩ := (HK.out.step hb.out).at_ hlt hf
      have bv := below_alloc wr (.cells #[.slice H hs.length ch, .slice B ats.length c2] 29)
      have XC := Lib.hid (sameUnions1_any g S cs s A c us H B ch c2 hs ats hls hz hhl hll _ ((HI.out.step hb.out).step bv) ((HJ.out.step hb.out).step bv) (hI.step bv) (hJ.step bv) ((HG.out.step hb.out).step bv) ((HG2.out.step hb.out).step bv))
      generalize cinB s hs ats us = res at XC HF
      subst hA
      clear hf hI hJ bv
      have hk0 : (0 : Int) ≤ (k : Int) := by omega
      have hk1 : (k : Int) < (l.length : Int) := by omega
      go_wp2_with fail
      refine XC.out.mono ?_
      rintro e u ⟨rfl, d⟩
      have hb2 := step hb.out (below_new d)
      clear d
      cases res
      · go_wp2
        go_ret
        exact ⟨ret_bool (allIn_not s l us k _ hlt HF.out).symm, hb2⟩
      · go_wp2
        go_roundw
        case rel => exact ⟨k + 1, by omega, by go_num, Lib.hid (by rw [allIn_succ, HA.out, HF.out]; rfl), Lib.hid hb2⟩
        case measure => simp [intOf]; omega
    · obtain rfl : k = l.length := by omega
      go_wp2
      go_ret
      exact ⟨ret_bool HA.out.symm, hb.out⟩

set_option maxHeartbeats 1000000 in
set_option maxRecDepth 100000 in
theorem sameUnions2_any (g : Nat) (S : Option Addr) (cs : Nat) (s : List Int) (A : Option Addr) (c : Nat) (us : UL) (H2 B2 : Option Addr) (c2 c3 : Nat) (h2 : List Int) (l2 : FL) (hls : s.length ≤ 1048576) (hz : szU us ≤ 1048576) (hh2 : h2.length ≤ 1048576) (hl2 : szF l2 ≤ 1048576)
    (w : World) (hS : RI w S s) (hU : RU w A us) (hH2 : RI w H2 h2) (hB2 : RF w B2 l2) (b1 : Box w g #[.slice S s.length cs] 22) (b2 : Box w (g + 2) #[.slice A us.length c] 44) :
    Calls Tryz.prog 65 #[.agg #[.slice H2 h2.length c2, .slice B2 l2.length c3], .pointer (some ⟨g, 0, none⟩), .pointer (some ⟨g + 2, 0, none⟩)] w fun e w' => e = .returned (.bool (cinB s h2 l2 us)) ∧ Below w.heap.size w w' := by
  have ba := below_alloc w (.cells #[.slice H2 h2.length c2, .slice B2 l2.length c3] 29)
  have BA := Lib.hid ba
  have xq := (Box.new w #[.slice H2 h2.length c2, .slice B2 l2.length c3] 29).cell 0
  have xq1 := (Box.new w #[.slice H2 h2.length c2, .slice B2 l2.length c3] 29).cell 1
  have xs := (b1.step ba).cell 0
  have xu := (b2.step ba).cell 0
  have gl := b1.lt
  have gl2 := b2.lt
  simp only [List.getElem?_toArray, List.getElem?_cons_zero, List.getElem?_cons_succ] at xq xq1 xs xu
  have XC := Lib.hid (impl_ContainedIn S cs s H2 B2 c2 c3 h2 l2 A c us hls hh2 hl2 hz _ (hS.step ba) (hH2.step ba) (hB2.step ba) (hU.step ba))
  generalize cinB s h2 l2 us = res at XC ⊢
  clear hS hU hH2 hB2 b1 b2 ba
  go_enter Tryz.func65, Tryz.ntmps65
  go_wp2_with fail
  refine XC.out.mono ?_
  rintro e u ⟨rfl, d⟩
  have D := Lib.hid (step BA.out d)
  clear d xq xq1 xs xu
  go_wp2
  go_ret
  exact ⟨rfl, D.out⟩

set_option maxHeartbeats 1000000 in
set_option maxRecDepth 100000 in
theorem areAllS2_any (g : Nat) (S : Option Addr) (cs : Nat) (s : List Int) (A : Option Addr) (c : Nat) (us : UL) (A' : Option Addr) (c' : Nat) (l : UL) (hls : s.length ≤ 1048576) (hz : szU us ≤ 1048576) (hzl : szU l ≤ 1048576) (w : World) (h : RI w S s) (h' : RU w A us) (h'' : RU w A' l) (hg : Box w g #[.slice S s.length cs] 22) (hg2 : Box w (g + 2) #[.slice A us.length c] 44) :
    Calls Tryz.prog 66 #[.slice A' l.length c', .func (.func 65) #[] #[.pointer (some ⟨g, 0, none⟩), .pointer (some ⟨g + 2, 0, none⟩)]] w fun e w' => e = .returned (.bool (allIn s l us l.length)) ∧ Below w.heap.size w w' := by
  have hl := szU_len hzl
  have hl' : (l.length : Int) ≤ 1048576 := by omega
  have HI := Lib.hid h
  have HJ := Lib.hid h'
  have HK := Lib.hid h''
  have HG := Lib.hid hg
  have HG2 := Lib.hid hg2
  clear h h' h'' hg hg2
  go_enter Tryz.func66, Tryz.ntmps66
  go_wp2
  go_loopw [6, 9] (fun _ i wr => ∃ k : Nat, k ≤ l.length ∧ i = .int .i64 k ∧ Hid (allIn s l us k = true) ∧ Hid (Below w.heap.size w wr)) (fun _ i _ => l.length - (intOf i).toNat)
  case atStart => exact ⟨0, by omega, rfl, Lib.hid rfl, Lib.hid (Below.refl _ _)⟩
  case round =>
    obtain ⟨k, hk, rfl, HA, hb⟩ := hrel
    by_cases hlt : k < l.length
    · generalize hf : l.getD k noU = f
      obtain ⟨hs, ats⟩ := f
      have HF := Lib.hid (show cinB s (l.getD k noU).1 (l.getD k noU).2 us = cinB s hs ats us by rw [hf])
      obtain ⟨_, hhl, hll⟩ := szU_elem hzl hlt hf
      obtain ⟨b, off, H, ch, B, c2, hA, n1, e0, e1, _, _, _, _, hI, hJ⟩ := (HK.out.step hb.out).at_ hlt hf
      have bv := below_alloc wr (.cells #[.slice H hs.length ch, .slice B ats.length c2] 29)
      have XC := Lib.hid (sameUnions2_any g S cs s A c us H B ch c2 hs ats hls hz hhl hll _ ((HI.out.step hb.out).step bv) ((HJ.out.step hb.out).step bv) (hI.step bv) (hJ.step bv) ((HG.out.step hb.out).step bv) ((HG2.out.step hb.out).step bv))
      generalize cinB s hs ats us = res at XC HF
      subst hA
      clear hf hI hJ bv
      have hk0 : (0 : Int) ≤ (k : Int) := by omega
      have hk1 : (k : Int) < (l.length : Int) := by omega
      go_wp2_with fail
      refine XC.out.mono ?_
      rintro e u ⟨rfl, d⟩
      have hb2 := step hb.out (below_new d)
      clear d
      cases res
      · go_wp2
        go_ret
        exact ⟨ret_bool (allIn_not s l us k _ hlt HF.out).symm, hb2⟩
      · go_wp2
        go_roundw
        case rel => exact ⟨k + 1, by omega, by go_num, Lib.hid (by rw [allIn_succ, HA.out, HF.out]; rfl), Lib.hid hb2⟩
        case measure => simp [intOf]; omega
    · obtain rfl : k = l.length := by omega
      go_wp2
      go_ret
      exact ⟨ret_bool HA.out.symm, hb.out⟩

set_option maxHeartbeats 2000000 in
set_option maxRecDepth 100000 in
theorem impl_SameUnions (S : Option Addr) (cs : Nat) (s : List Int) (A : Option Addr) (c : Nat) (a : UL) (A' : Option Addr) (c' : Nat) (b : UL) (hls : s.length ≤ 1048576) (hza : szU a ≤ 1048576) (hzb : szU b ≤ 1048576) (w : World) (hS : RI w S s) (hA : RU w A a) (hB : RU w A' b) :
    Calls Tryz.prog 31 #[.slice S s.length cs, .slice A a.length c, .slice A' b.length c'] w fun e w' => e = .returned (.bool (smuB s a b)) ∧ Below w.heap.size w w' := by
  have b2 := below_alloc (w.alloc (.cells #[.slice S s.length cs] 22)) (.cells #[.slice A a.length c] 44)
  have b3 := below_alloc ((w.alloc (.cells #[.slice S s.length cs] 22)).alloc (.cells #[.slice A a.length c] 44)) (.cells #[.slice A' b.length c'] 44)
  have B0 := Lib.hid (step (step (below_alloc w (.cells #[.slice S s.length cs] 22)) b2) b3)
  have X0 := Lib.hid (((Box.new w #[.slice S s.length cs] 22).step b2).step b3)
  have Y0 := Lib.hid (show Box (((w.alloc (.cells #[.slice S s.length cs] 22)).alloc (.cells #[.slice A a.length c] 44)).alloc (.cells #[.slice A' b.length c'] 44)) (w.heap.size + 1) #[.slice A a.length c] 44 by
    have h := Box.new (w.alloc (.cells #[.slice S s.length cs] 22)) #[.slice A a.length c] 44
    rw [al_size] at h
    exact h.step b3)
  have Z0 := Lib.hid (show Box (((w.alloc (.cells #[.slice S s.length cs] 22)).alloc (.cells #[.slice A a.length c] 44)).alloc (.cells #[.slice A' b.length c'] 44)) (w.heap.size + 2) #[.slice A' b.length c'] 44 by
    have h := Box.new ((w.alloc (.cells #[.slice S s.length cs] 22)).alloc (.cells #[.slice A a.length c] 44)) #[.slice A' b.length c'] 44
    rwa [al_size, al_size] at h)
  have XA := Lib.hid fun (W : World) (hW : Below w.heap.size w W) => impl_IsUnion S cs s A c a hls hza W (hS.step hW) (hA.step hW)
  have XB := Lib.hid fun (W : World) (hW : Below w.heap.size w W) => impl_IsUnion S cs s A' c' b hls hzb W (hS.step hW) (hB.step hW)
  have XI := Lib.hid fun (W : World) (hW : Below w.heap.size w W) (g1 : Box W w.heap.size #[.slice S s.length cs] 22) (g2 : Box W (w.heap.size + 2) #[.slice A' b.length c'] 44) => areAllS2_any w.heap.size S cs s A' c' b A c a hls hzb hza W (hS.step hW) (hB.step hW) (hA.step hW) g1 g2
  have XJ := Lib.hid fun (W : World) (hW : Below w.heap.size w W) (g1 : Box W w.heap.size #[.slice S s.length cs] 22) (g2 : Box W (w.heap.size + 1) #[.slice A a.length c] 44) => areAllS1_any w.heap.size S cs s A c a A' c' b hls hza hzb W (hS.step hW) (hA.step hW) (hB.step hW) g1 g2
  rw [smuB_i]
  generalize unionB s a = r1 at XA ⊢
  generalize unionB s b = r2 at XB ⊢
  generalize allIn s a b a.length = r3 at XI ⊢
  generalize allIn s b a b.length = r4 at XJ ⊢
  clear hS hA hB b2 b3
  cases r1
  · go_enter Tryz.func31, Tryz.ntmps31
    have x0 := X0.out.cell 0
    have y0 := Y0.out.cell 0
    have z0 := Z0.out.cell 0
    simp only [List.getElem?_toArray, List.getElem?_cons_zero, List.getElem?_cons_succ] at x0 y0 z0
    go_wp2_with fail
    refine (XA.out _ B0.out).mono ?_
    rintro e u1 ⟨rfl, d1⟩
    have T1 := Lib.hid (step B0.out d1)
    have X1 := Lib.hid (X0.out.step d1)
    have Y1 := Lib.hid (Y0.out.step d1)
    have Z1 := Lib.hid (Z0.out.step d1)
    clear d1 x0 y0 z0
    have x0 := X1.out.cell 0
    have y0 := Y1.out.cell 0
    have z0 := Z1.out.cell 0
    simp only [List.getElem?_toArray, List.getElem?_cons_zero, List.getElem?_cons_succ] at x0 y0 z0
    go_wp2
    go_ret
    exact ⟨rfl, T1.out⟩
  · skip
    cases r2
    · go_enter Tryz.func31, Tryz.ntmps31
      have x0 := X0.out.cell 0
      have y0 := Y0.out.cell 0
      have z0 := Z0.out.cell 0
      simp only [List.getElem?_toArray, List.getElem?_cons_zero, List.getElem?_cons_succ] at x0 y0 z0
      go_wp2_with fail
      refine (XA.out _ B0.out).mono ?_
      rintro e u1 ⟨rfl, d1⟩
      have T1 := Lib.hid (step B0.out d1)
      have X1 := Lib.hid (X0.out.step d1)
      have Y1 := Lib.hid (Y0.out.step d1)
      have Z1 := Lib.hid (Z0.out.step d1)
      clear d1 x0 y0 z0
      have x0 := X1.out.cell 0
      have y0 := Y1.out.cell 0
      have z0 := Z1.out.cell 0
      simp only [List.getElem?_toArray, List.getElem?_cons_zero, List.getElem?_cons_succ] at x0 y0 z0
      go_wp2_with fail
      refine (XB.out _ T1.out).mono ?_
      rintro e u2 ⟨rfl, d2⟩
      have T2 := Lib.hid (step T1.out d2)
      have X2 := Lib.hid (X1.out.step d2)
      have Y2 := Lib.hid (Y1.out.step d2)
      have Z2 := Lib.hid (Z1.out.step d2)
      clear d2 x0 y0 z0
      have x0 := X2.out.cell 0
      have y0 := Y2.out.cell 0
      have z0 := Z2.out.cell 0
      simp only [List.getElem?_toArray, List.getElem?_cons_zero, List.getElem?_cons_succ] at x0 y0 z0
      go_wp2
      go_ret
      exact ⟨rfl, T2.out⟩
    · skip
      cases r3
      · go_enter Tryz.func31, Tryz.ntmps31
        have x0 := X0.out.cell 0
        have y0 := Y0.out.cell 0
        have z0 := Z0.out.cell 0
        simp only [List.getElem?_toArray, List.getElem?_cons_zero, List.getElem?_cons_succ] at x0 y0 z0
        go_wp2_with fail
        refine (XA.out _ B0.out).mono ?_
        rintro e u1 ⟨rfl, d1⟩
        have T1 := Lib.hid (step B0.out d1)
        have X1 := Lib.hid (X0.out.step d1)
        have Y1 := Lib.hid (Y0.out.step d1)
        have Z1 := Lib.hid (Z0.out.step d1)
        clear d1 x0 y0 z0
        have x0 := X1.out.cell 0
        have y0 := Y1.out.cell 0
        have z0 := Z1.out.cell 0
        simp only [List.getElem?_toArray, List.getElem?_cons_zero, List.getElem?_cons_succ] at x0 y0 z0
        go_wp2_with fail
        refine (XB.out _ T1.out).mono ?_
        rintro e u2 ⟨rfl, d2⟩
        have T2 := Lib.hid (step T1.out d2)
        have X2 := Lib.hid (X1.out.step d2)
        have Y2 := Lib.hid (Y1.out.step d2)
        have Z2 := Lib.hid (Z1.out.step d2)
        clear d2 x0 y0 z0
        have x0 := X2.out.cell 0
        have y0 := Y2.out.cell 0
        have z0 := Z2.out.cell 0
        simp only [List.getElem?_toArray, List.getElem?_cons_zero, List.getElem?_cons_succ] at x0 y0 z0
        go_wp2_with fail
        refine (XI.out _ T2.out X2.out Z2.out).mono ?_
        rintro e u3 ⟨rfl, d3⟩
        have T3 := Lib.hid (step T2.out d3)
        have X3 := Lib.hid (X2.out.step d3)
        have Y3 := Lib.hid (Y2.out.step d3)
        have Z3 := Lib.hid (Z2.out.step d3)
        clear d3 x0 y0 z0
        have x0 := X3.out.cell 0
        have y0 := Y3.out.cell 0
        have z0 := Z3.out.cell 0
        simp only [List.getElem?_toArray, List.getElem?_cons_zero, List.getElem?_cons_succ] at x0 y0 z0
        go_wp2
        go_ret
        exact ⟨rfl, T3.out⟩
      · skip
        cases r4
        · go_enter Tryz.func31, Tryz.ntmps31
          have x0 := X0.out.cell 0
          have y0 := Y0.out.cell 0
          have z0 := Z0.out.cell 0
          simp only [List.getElem?_toArray, List.getElem?_cons_zero, List.getElem?_cons_succ] at x0 y0 z0
          go_wp2_with fail
          refine (XA.out _ B0.out).mono ?_
          rintro e u1 ⟨rfl, d1⟩
          have T1 := Lib.hid (step B0.out d1)
          have X1 := Lib.hid (X0.out.step d1)
          have Y1 := Lib.hid (Y0.out.step d1)
          have Z1 := Lib.hid (Z0.out.step d1)
          clear d1 x0 y0 z0
          have x0 := X1.out.cell 0
          have y0 := Y1.out.cell 0
          have z0 := Z1.out.cell 0
          simp only [List.getElem?_toArray, List.getElem?_cons_zero, List.getElem?_cons_succ] at x0 y0 z0
          go_wp2_with fail
          refine (XB.out _ T1.out).mono ?_
          rintro e u2 ⟨rfl, d2⟩
          have T2 := Lib.hid (step T1.out d2)
          have X2 := Lib.hid (X1.out.step d2)
          have Y2 := Lib.hid (Y1.out.step d2)
          have Z2 := Lib.hid (Z1.out.step d2)
          clear d2 x0 y0 z0
          have x0 := X2.out.cell 0
          have y0 := Y2.out.cell 0
          have z0 := Z2.out.cell 0
          simp only [List.getElem?_toArray, List.getElem?_cons_zero, List.getElem?_cons_succ] at x0 y0 z0
          go_wp2_with fail
          refine (XI.out _ T2.out X2.out Z2.out).mono ?_
          rintro e u3 ⟨rfl, d3⟩
          have T3 := Lib.hid (step T2.out d3)
          have X3 := Lib.hid (X2.out.step d3)
          have Y3 := Lib.hid (Y2.out.step d3)
          have Z3 := Lib.hid (Z2.out.step d3)
          clear d3 x0 y0 z0
          have x0 := X3.out.cell 0
          have y0 := Y3.out.cell 0
          have z0 := Z3.out.cell 0
          simp only [List.getElem?_toArray, List.getElem?_cons_zero, List.getElem?_cons_succ] at x0 y0 z0
          go_wp2_with fail
          refine (XJ.out _ T3.out X3.out Y3.out).mono ?_
          rintro e u4 ⟨rfl, d4⟩
          have T4 := Lib.hid (step T3.out d4)
          have X4 := Lib.hid (X3.out.step d4)
          have Y4 := Lib.hid (Y3.out.step d4)
          have Z4 := Lib.hid (Z3.out.step d4)
          clear d4 x0 y0 z0
          have x0 := X4.out.cell 0
          have y0 := Y4.out.cell 0
          have z0 := Z4.out.cell 0
          simp only [List.getElem?_toArray, List.getElem?_cons_zero, List.getElem?_cons_succ] at x0 y0 z0
          go_wp2
          go_ret
          exact ⟨rfl, T4.out⟩
        · go_enter Tryz.func31, Tryz.ntmps31
          have x0 := X0.out.cell 0
          have y0 := Y0.out.cell 0
          have z0 := Z0.out.cell 0
          simp only [List.getElem?_toArray, List.getElem?_cons_zero, List.getElem?_cons_succ] at x0 y0 z0
          go_wp2_with fail
          refine (XA.out _ B0.out).mono ?_
          rintro e u1 ⟨rfl, d1⟩
          have T1 := Lib.hid (step B0.out d1)
          have X1 := Lib.hid (X0.out.step d1)
          have Y1 := Lib.hid (Y0.out.step d1)
          have Z1 := Lib.hid (Z0.out.step d1)
          clear d1 x0 y0 z0
          have x0 := X1.out.cell 0
          have y0 := Y1.out.cell 0
          have z0 := Z1.out.cell 0
          simp only [List.getElem?_toArray, List.getElem?_cons_zero, List.getElem?_cons_succ] at x0 y0 z0
          go_wp2_with fail
          refine (XB.out _ T1.out).mono ?_
          rintro e u2 ⟨rfl, d2⟩
          have T2 := Lib.hid (step T1.out d2)
          have X2 := Lib.hid (X1.out.step d2)
          have Y2 := Lib.hid (Y1.out.step d2)
          have Z2 := Lib.hid (Z1.out.step d2)
          clear d2 x0 y0 z0
          have x0 := X2.out.cell 0
          have y0 := Y2.out.cell 0
          have z0 := Z2.out.cell 0
          simp only [List.getElem?_toArray, List.getElem?_cons_zero, List.getElem?_cons_succ] at x0 y0 z0
          go_wp2_with fail
          refine (XI.out _ T2.out X2.out Z2.out).mono ?_
          rintro e u3 ⟨rfl, d3⟩
          have T3 := Lib.hid (step T2.out d3)
          have X3 := Lib.hid (X2.out.step d3)
          have Y3 := Lib.hid (Y2.out.step d3)
          have Z3 := Lib.hid (Z2.out.step d3)
          clear d3 x0 y0 z0
          have x0 := X3.out.cell 0
          have y0 := Y3.out.cell 0
          have z0 := Z3.out.cell 0
          simp only [List.getElem?_toArray, List.getElem?_cons_zero, List.getElem?_cons_succ] at x0 y0 z0
          go_wp2_with fail
          refine (XJ.out _ T3.out X3.out Y3.out).mono ?_
          rintro e u4 ⟨rfl, d4⟩
          have T4 := Lib.hid (step T3.out d4)
          have X4 := Lib.hid (X3.out.step d4)
          have Y4 := Lib.hid (Y3.out.step d4)
          have Z4 := Lib.hid (Z3.out.step d4)
          clear d4 x0 y0 z0
          have x0 := X4.out.cell 0
          have y0 := Y4.out.cell 0
          have z0 := Z4.out.cell 0
          simp only [List.getElem?_toArray, List.getElem?_cons_zero, List.getElem?_cons_succ] at x0 y0 z0
          go_wp2
          go_ret
          exact ⟨rfl, T4.out⟩
end Go.Proofs.YtimlpdcambmcjaaGreat
