/- What the model's OpenAccesses returns. Conditions: none beyond each theorem's own. -/
import Derived.Test.YtnmhppiccganoaaDoorAg8
import Derived.Test.YtnmhppiccganoaaDoorAg9
import Derived.Test.YtnmhppiccganoaaDoorAg10

namespace Go.Proofs.YtnmhppiccganoaaDoor
open Go.ChangeShapes Go.WideShapes Go.ChangeAt Go.RowKit Go.Sort
set_option linter.unusedVariables false
set_option linter.unusedSimpArgs false

set_option maxHeartbeats 2000000 in
set_option maxRecDepth 100000 in
theorem l8Values_any (A : Option Addr) (c : Nat) (xs : List Int) (hl : xs.length ≤ 1048576) (w : World) (h : RI w A xs) :
    Calls Tryd.prog 25 #[.slice A xs.length c] w fun e w' => e = .returned (.bool (inpB 10 xs)) ∧ Below w.heap.size w w' := by
  have hx' : (xs.length : Int) ≤ 1048576 := by omega
  have HJ := Lib.hid h
  clear h
  go_enter Tryd.func25, Tryd.ntmps25
  go_wp2
  go_loopw [3] (fun i wr => ∃ j : Nat, j ≤ xs.length ∧ i = .int .i64 j ∧ inpN 10 xs j = true ∧ Hid (Below w.heap.size w wr)) (fun i _ => xs.length - (intOf i).toNat)
  case atStart => exact ⟨0, by omega, rfl, rfl, Lib.hid (Below.refl _ _)⟩
  case round =>
    obtain ⟨j, hj, rfl, ha, hb⟩ := hrel
    have HA := Lib.hid ha
    clear ha
    by_cases hlt : j < xs.length
    · obtain ⟨b2, off2, rfl, nb2, hc2⟩ := (HJ.out.step hb.out).at_ hlt
      generalize hx : xs.getD j 0 = x at hc2
      have HX := Lib.hid hx
      clear hx
      have hj0 : (0 : Int) ≤ (j : Int) := by omega
      have hj1 : (j : Int) < (xs.length : Int) := by omega
      have X1 := Lib.hid fun W => left_same (l1In_any x 0 9 W)
      by_cases hin : inB x 0 9 = true
      · have HN := Lib.hid hin
        rw [HN.out] at X1
        clear hin
        by_cases h0 : j = 0
        · have IA := Lib.hid (show inpAt 10 xs j = true by unfold inpAt; rw [HX.out, show (10 : Int) - 1 = 9 from rfl, HN.out, decide_eq_true h0]; rfl)
          have d0 : decide ((0 : Int) < (j : Int)) = false := by simp; omega
          have d0' : ¬ ((0 : Int) < (j : Int)) := by omega
          have d0n : decide (0 < j) = false := by simp; omega
          have d0m : ¬ (0 < j) := by omega
          clear h0
          go_wp2
          go_quiet ((first | (go_at_call 44; with_reducible exact Calls.quiet_of_same (X1.out _))))
          go_wp2
          go_roundw
          case rel => exact ⟨j + 1, by omega, by go_num, by rw [inpN_succ, HA.out, IA.out]; rfl, Lib.hid (below_drewN hb.out _)⟩
          case measure => simp [intOf]; omega
        · have hp : j - 1 < xs.length := by omega
          obtain ⟨b3, off3, hbb, _, hc3⟩ := (HJ.out.step hb.out).at_ hp
          injection hbb with hbb
          injection hbb with hb1 hb2
          subst hb1 hb2
          generalize hx' : xs.getD (j - 1) 0 = x' at hc3
          have HX' := Lib.hid hx'
          clear hx'
          have J0 := Lib.hid h0
          have d0 : decide ((0 : Int) < (j : Int)) = true := by simp; omega
          have d0' : (0 : Int) < (j : Int) := by omega
          have d0n : decide (0 < j) = true := by simp; omega
          have q0 : IntKind.i64.wrap ((j : Int) - 1) = (j : Int) - 1 := IntWalk.i64_in _ ⟨by omega, by omega⟩
          have q1 : (0 : Int) ≤ (j : Int) - 1 := by omega
          have q1' : (1 : Int) ≤ (j : Int) := by omega
          have q2 : ((j : Int) - 1).toNat = j - 1 := by omega
          have q3 : (j : Int) - 1 < (xs.length : Int) := by omega
          have q5 : j ≤ xs.length := by omega
          clear h0
          by_cases hlt2 : x' < x
          · have d4 : decide (x ≤ x') = false := by simp; omega
            have d4' : ¬ (x ≤ x') := by omega
            have IA := Lib.hid (show inpAt 10 xs j = true by unfold inpAt; rw [HX.out, HX'.out, show (10 : Int) - 1 = 9 from rfl, HN.out, decide_eq_true hlt2]; simp)
            clear hlt2
            go_wp2
            go_quiet ((first | (go_at_call 44; with_reducible exact Calls.quiet_of_same (X1.out _))))
            clear q0 q2
            go_wp2
            go_roundw
            case rel => exact ⟨j + 1, by omega, by go_num, by rw [inpN_succ, HA.out, IA.out]; rfl, Lib.hid (below_drewN hb.out _)⟩
            case measure => simp [intOf]; omega
          · have d4 : decide (x ≤ x') = true := by simp; omega
            have d4' : x ≤ x' := by omega
            have IA := Lib.hid (show inpAt 10 xs j = false by unfold inpAt; rw [HX.out, HX'.out, show (10 : Int) - 1 = 9 from rfl, HN.out, decide_eq_false hlt2, decide_eq_false J0.out]; rfl)
            clear hlt2
            go_wp2
            go_quiet ((first | (go_at_call 44; with_reducible exact Calls.quiet_of_same (X1.out _))))
            go_wp2
            go_ret
            exact ⟨ret_bool (by exact (inpN_not 10 xs j _ hlt IA.out).symm), below_drewN hb.out _⟩
      · have HN := Lib.hid (show inB x 0 9 = false by simpa using hin)
        rw [HN.out] at X1
        clear hin
        have IA := Lib.hid (show inpAt 10 xs j = false by unfold inpAt; rw [HX.out, show (10 : Int) - 1 = 9 from rfl, HN.out]; rfl)
        go_wp2
        go_quiet ((first | (go_at_call 44; with_reducible exact Calls.quiet_of_same (X1.out _))))
        go_wp2
        go_ret
        exact ⟨ret_bool (by exact (inpN_not 10 xs j _ hlt IA.out).symm), below_drewN hb.out _⟩
    · obtain rfl : j = xs.length := by omega
      go_wp2
      go_ret
      exact ⟨ret_bool HA.out.symm, hb.out⟩

set_option maxRecDepth 100000 in
theorem l8Access_any (r : Int) (A : Option Addr) (c : Nat) (xs : List Int) (hl : xs.length ≤ 1048576) (w : World) (h : RI w A xs) :
    Calls Tryd.prog 46 #[.int .i64 r, .slice A xs.length c] w (CopyF w r xs) := by
  obtain ⟨i0, hi, hz0, hz1, hz2⟩ := info_parts int_info
  have B1 := below_alloc w (.cells #[.int .i64 0, .slice none 0 0] 66)
  have HI := Lib.hid ((h.step B1).step (below_alloc _ (.cells #[] 3)))
  have HB1 := Lib.hid B1
  clear h B1
  go_enter Tryd.func46, Tryd.ntmps46
  go_wp2_with (at_builtin; refine wpList_append_nums rfl _ _ 22 rfl (w.heap.size + 1) 3 i0 Tryd.underlying22 hi hz0 hz1 hz2 (.slice (some ⟨w.heap.size + 1, 0, none⟩) 0 0) 0 [] rfl (by have := World.ownsRow_lit (base := w.heap.size + 1) (e := 3) (size := 1) (w.alloc (.cells #[.int .i64 0, .slice none 0 0] 66)) #[] 0 (by simp) (by unfold maxLen; omega) rfl; rw [al_size] at this; exact this) _ _ A c xs rfl HI.out (by omega) (by simp) ?_; intro v' w' hown hg hat
               have hown' : w'.ownsRow (w.heap.size + 1) 3 1 v' (0 + xs.length) (xs.map (Value.int .i64)) := by simpa using hown
               obtain ⟨q, hv⟩ := ownV_of_row hown'
               obtain ⟨A2, c2, rfl, _, _⟩ := hv.form
               have HV := Lib.hid hv
               have HG := Lib.hid hg
               have X4 : Box w' w.heap.size #[.int .i64 0, .slice none 0 0] 66 := (hg.block w.heap.size (by simp <;> omega) (by simp [Value.ownBlock])).trans ((Box.new w _ _).step (below_alloc _ _))
               have g0 := X4.cell 0
               have g1 := X4.cell 1
               have g2 := X4.frozen 0
               have g3 := X4.frozen 1
               simp only [List.getElem?_toArray, List.getElem?_cons_zero, List.getElem?_cons_succ] at g0 g1
               have HX4 := Lib.hid X4
               clear hown hown' hv hg hat X4)
  have hlt := HX4.out.lt
  have HB := Lib.hid (show Below w.heap.size w w' from (step HB1.out (below_alloc _ (.cells #[] 3))).grown HG.out (by (try simp) <;> omega) (fun k hk => by have := own_some hk; omega))
  refine bodyPost_ret (v := .agg #[.int .i64 r, .slice A2 xs.length c2]) (by simp [results, Tryd.results46, go_sem, g0, g1]) rfl ⟨A2, c2, q, rfl, ?_, ?_⟩
  · rw [size2]
    exact (HV.out.keep fun h1 _ _ => (Below.heap_setCell _ ⟨w.heap.size, 1, none⟩ _ q (by (try simp) <;> omega)).trans (Below.heap_setCell _ ⟨w.heap.size, 0, none⟩ _ q (by (try simp) <;> omega))).mono (by omega) (Nat.le_refl _)
  · exact Below.setCell (Below.setCell HB.out (by simp) _) (by simp) _


theorem mem_take {r : Int} {xs : List Int} {l : FL} {k : Nat} (hk : k < l.length) (h : (r, xs) ∉ l.take k) {f : Int × List Int} (hf : l.getD k (0, []) = f) (hs : ¬ f = (r, xs)) : (r, xs) ∉ l.take (k + 1) := by
  have e : l[k] = f := by rw [← hf]; simp [List.getD_eq_getElem?_getD, hk]
  rw [List.take_succ_eq_append_getElem hk, e]
  simp only [List.mem_append, List.mem_singleton, not_or]
  exact ⟨h, fun h => hs h.symm⟩
theorem mem_here {r : Int} {xs : List Int} {l : FL} {k : Nat} (hk : k < l.length) (hf : l.getD k (0, []) = (r, xs)) : (r, xs) ∈ l := by
  have e : l[k] = (r, xs) := by rw [← hf]; simp [List.getD_eq_getElem?_getD, hk]
  exact e ▸ List.getElem_mem hk

set_option maxRecDepth 100000 in
set_option maxHeartbeats 1000000 in
theorem l7Logged_any (A : Option Addr) (c : Nat) (l : FL) (r : Int) (xs : List Int) (B : Option Addr) (d : Nat) (hz : szF l ≤ 1048576) (hx : xs.length ≤ 1048576) (w : World) (h : RF w A l) (h' : RI w B xs) :
    Calls Tryd.prog 47 #[.slice A l.length c, .agg #[.int .i64 r, .slice B xs.length d]] w fun e w' => e = .returned (.bool (decide ((r, xs) ∈ l))) ∧ Below w.heap.size w w' := by
  have hl := szF_len hz
  have hl' : (l.length : Int) ≤ 1048576 := by omega
  have b0 := below_alloc w (.cells #[.int .i64 r, .slice B xs.length d] 66)
  have HI := Lib.hid h
  have HJ := Lib.hid h'
  have HX := Lib.hid (Box.new w #[.int .i64 r, .slice B xs.length d] 66)
  have B0 := Lib.hid b0
  clear h h' b0
  go_enter Tryd.func47, Tryd.ntmps47
  go_wp2
  go_loopw [5] (fun i wr => ∃ k : Nat, k ≤ l.length ∧ i = .int .i64 k ∧ Hid ((r, xs) ∉ l.take k) ∧ Hid (Box wr w.heap.size #[.int .i64 r, .slice B xs.length d] 66) ∧ Hid (Below w.heap.size w wr)) (fun i _ => l.length - (intOf i).toNat)
  case atStart => exact ⟨0, by omega, rfl, Lib.hid (by simp), HX, B0⟩
  case round =>
    obtain ⟨k, hk, rfl, ha, hX, hb⟩ := hrel
    have x0 := hX.out.cell 0
    have x1 := hX.out.cell 1
    simp only [List.getElem?_toArray, List.getElem?_cons_zero, List.getElem?_cons_succ] at x0 x1
    have k4 := cell_regrown x0
    have k5 := cell_regrown x1
    by_cases hlt : k < l.length
    · generalize hf : l.getD k (0, []) = f
      obtain ⟨r', ys⟩ := f
      have HF := Lib.hid hf
      have hyl : ys.length ≤ 1048576 := by have := szF_elem hz hlt; rw [hf] at this; exact this
      obtain ⟨b, off, C, c2, rfl, n1, e0, e1, hxc, hcm, hI⟩ := (HI.out.step hb.out).at_ hlt hf
      have k0 := cell_regrown e0
      have k1 := cell_regrown e1
      have HY := Lib.hid hI
      have hk0 : (0 : Int) ≤ (k : Int) := by omega
      have hk1 : (k : Int) < (l.length : Int) := by omega
      clear hI hf e0 e1
      generalize hq : sam1 r' ys r xs = q
      have HQ := Lib.hid hq
      clear hq
      have X1 := Lib.hid fun (W : World) (hW : Below wr.heap.size wr W) => (show Calls Tryd.prog 60 #[.agg #[.int .i64 r', .slice C ys.length c2], .agg #[.int .i64 r, .slice B xs.length d]] W fun e w' => e = .returned (.bool q) ∧ Below W.heap.size W w' by have := l5Same_any r' r ys xs C B c2 d hyl hx W (HY.out.step hW) ((HJ.out.step hb.out).step hW); rw [HQ.out] at this; exact this)
      cases q
      · go_wp2
        refine wp_region_quiet_below (by kernel_rfl) (by kernel_rfl) ?_
        repeat (go_big_quiet_step (first | (go_at_call 60; with_reducible exact Calls.regrown_of (X1.out _ (below_regrown _ _ _)))))
        refine wpQuiet_nil ?_
        intro u hw'
        have hbu := Lib.hid (show Below wr.heap.size wr u by obtain ⟨⟨dq, osq⟩, rfl⟩ := hw'; exact below_regrown _ _ _)
        have hX2 := Lib.hid (hX.out.step hbu.out)
        have hb2 := Lib.hid (step hb.out hbu.out)
        clear hw' k0 k1 k4 k5 x0 x1
        go_wp2
        go_roundw
        case rel => exact ⟨k + 1, by omega, by go_num, Lib.hid (mem_take hlt ha.out HF.out (fun e => by have := HQ.out; rw [Bool.eq_false_iff] at this; injection e with e1 e2; exact this (sam1_iff.2 ⟨e1, e2⟩))), hX2, hb2⟩
        case measure => simp [intOf]; omega
      · go_wp2
        refine wp_region_quiet_below (by kernel_rfl) (by kernel_rfl) ?_
        repeat (go_big_quiet_step (first | (go_at_call 60; with_reducible exact Calls.regrown_of (X1.out _ (below_regrown _ _ _)))))
        refine wpQuiet_nil ?_
        intro u hw'
        have hbu := Lib.hid (show Below wr.heap.size wr u by obtain ⟨⟨dq, osq⟩, rfl⟩ := hw'; exact below_regrown _ _ _)
        have hb2 := Lib.hid (step hb.out hbu.out)
        clear hw' k0 k1 k4 k5 x0 x1
        go_wp2
        go_ret
        exact ⟨ret_bool (decide_eq_true (mem_here hlt (by obtain ⟨e1, e2⟩ := sam1_iff.1 HQ.out; rw [← e1, ← e2]; exact HF.out))).symm, hb2.out⟩
    · obtain rfl : k = l.length := by omega
      go_wp2
      go_ret
      exact ⟨ret_bool (decide_eq_false (by have := ha.out; rwa [take_all] at this)).symm, hb.out⟩

/-- A row of lists is kept where all blocks of numbers and of lists are. -/
theorem OwnCT.typed {w w' : World} {lo hi : Nat} {v : Value} {ts : TL} {cs : List Value} {bs : Nat → Nat} (h : OwnCT w lo hi v ts cs bs) (hk : ∀ (b : Nat) (c : Array Value) (t : TypeId), (t = 3 ∨ t = 22) → w.heap[b]? = some (Obj.cells c t (0, 0)) → w'.heap[b]? = w.heap[b]?) : OwnCT w' lo hi v ts cs bs := by
  refine ⟨⟨h.1.1, ?_⟩, h.2.keep fun q _ _ ⟨c, hc⟩ => hk q c _ (.inl rfl) hc⟩
  rcases h.1.2 with h0 | ⟨g, cap, cur, hv, h1, h2, r⟩
  · exact .inl h0
  · exact .inr ⟨g, cap, cur, hv, h1, (hk g cur _ (.inr rfl) h2).trans h2, r⟩
theorem OwnCT.wide {w : World} {lo hi hi' : Nat} {v : Value} {ts : TL} {cs : List Value} {bs : Nat → Nat} (h : OwnCT w lo hi v ts cs bs) (a : hi ≤ hi') : OwnCT w lo hi' v ts cs bs := ⟨h.1, h.2.mono (Nat.le_refl _) a⟩
/-- Behind an append of an access all blocks of numbers and of lists are what they were. -/
theorem OwnCA.kept {w w' : World} {lo hi : Nat} {v : Value} {fs : FL} {cs : List Value} {bs : Nat → Nat} (h : OwnCA w lo hi v fs cs bs) (hg : w.grownBy w' v.ownBlock) (b : Nat) (c : Array Value) (t : TypeId) (ht : t = 3 ∨ t = 22) (hb : w.heap[b]? = some (Obj.cells c t (0, 0))) : w'.heap[b]? = w.heap[b]? := by
  refine hg.block b (Array.getElem?_eq_some_iff.1 hb).1 fun e => ?_
  rcases h.1.2 with ⟨rfl, _⟩ | ⟨g, cap, cur, rfl, _, hh, _⟩
  · simp [Value.ownBlock] at e
  · have : g = b := own_some e.symm
    subst this
    rw [hb] at hh
    injection hh with hh
    injection hh with _ ht'
    rcases ht with rfl | rfl <;> exact absurd ht' (by decide)
theorem apart_new {w : World} {lo hi mid top q : Nat} {fs : FL} {cs : List Value} {bs : Nat → Nat} {v : Value} {xs : List Int} (h : Items w lo hi fs cs bs) {w' : World} (hv : OwnV w' mid top v q xs) (hm : hi ≤ mid) : ∀ k, k < fs.length → 0 < (fs.getD k (0, [])).2.length → 0 < xs.length → bs k ≠ q := fun k hk h1 h2 => by
  have r1 := h.rng hk h1
  have r2 := hv.rng h2
  omega

theorem addOutA_lit {w w' : World} (h : Below w.heap.size w w') : AddOutA w [] (.returned (.slice (some ⟨w'.heap.size, 0, none⟩) 0 0)) (w'.alloc (.cells #[] 66)) :=
  ⟨some ⟨w'.heap.size, 0, none⟩, 0, [], fun _ => 0, rfl, ⟨World.ownsRow_lit (base := w.heap.size) (e := 66) (size := 2) w' #[] 0 h.size (by unfold maxLen; omega) rfl, Items.nil _ _ _⟩, step h (below_alloc _ _)⟩
theorem addOutA_nil {w w' : World} (h : Below w.heap.size w w') : AddOutA w [] (.returned (.slice none 0 0)) w' := ⟨none, 0, [], fun _ => 0, rfl, ⟨World.ownsRow_nil _ _ _ _, Items.nil _ _ _⟩, h⟩

set_option maxRecDepth 100000 in
set_option maxHeartbeats 4000000 in
theorem l8Open_any (M : Option Addr) (cm : Nat) (ms : ML) (A V G : Option Addr) (c d e' : Nat) (fs : FL) (vs : List Int) (log : FL) (n : Int) (hml : ms.length ≤ 5) (hmi : ∀ k, k < ms.length → (ms.getD k noM).2.1.length ≤ 3) (hv : vs.length ≤ 10) (hz : szF log ≤ 1048576)
    (w : World) (hM : RM w M ms) (hV : RI w V vs) (hG : RF w G log) :
    Calls Tryd.prog 26 #[.slice M ms.length cm, .agg #[.slice A fs.length c, .slice V vs.length d, .slice G log.length e', .int .i64 n]] w (AddOutA w (opnN ms vs log ms.length)) := by
  obtain ⟨i0, hi, hz0, hz1, hz2⟩ := info_parts access_info
  have hml' : (ms.length : Int) ≤ 5 := by omega
  have b0 := step (below_alloc w (.cells #[.slice A fs.length c, .slice V vs.length d, .slice G log.length e', .int .i64 n] 37)) (below_alloc _ (.cells #[] 66))
  have X0 := Lib.hid ((Box.new w #[.slice A fs.length c, .slice V vs.length d, .slice G log.length e', .int .i64 n] 37).step (below_alloc _ (.cells #[] 66)))
  have HM := Lib.hid hM
  have HV := Lib.hid hV
  have HG := Lib.hid hG
  have B0 := Lib.hid b0
  have ST := World.ownsRow_lit (base := w.heap.size) (e := 66) (size := 2) (w.alloc (.cells #[.slice A fs.length c, .slice V vs.length d, .slice G log.length e', .int .i64 n] 37)) #[] 0 (by rw [al_size]; omega) (by unfold maxLen; omega) rfl
  have ST2 := Lib.hid (show OwnCA ((w.alloc (.cells #[.slice A fs.length c, .slice V vs.length d, .slice G log.length e', .int .i64 n] 37)).alloc (.cells #[] 66)) w.heap.size ((w.alloc (.cells #[.slice A fs.length c, .slice V vs.length d, .slice G log.length e', .int .i64 n] 37)).alloc (.cells #[] 66)).heap.size (.slice (some ⟨w.heap.size + 1, 0, none⟩) 0 0) [] [] (fun _ => 0) from ⟨by rw [al_size] at ST; exact ST, Items.nil _ _ _⟩)
  clear hM hV hG b0 ST
  go_enter Tryd.func26, Tryd.ntmps26
  go_wp2
  go_loopw [5, 6, 7, 8, 9] (fun o i _ _ _ wr => ∃ (k : Nat) (A2 : Option Addr) (c2 : Nat) (out : FL) (cs : List Value) (bs : Nat → Nat), k ≤ ms.length ∧ i = .int .i64 k ∧ o = .slice A2 out.length c2 ∧ Hid (out = opnN ms vs log k) ∧ Hid (OwnCA wr w.heap.size wr.heap.size (.slice A2 out.length c2) out cs bs) ∧ Hid (Box wr w.heap.size #[.slice A fs.length c, .slice V vs.length d, .slice G log.length e', .int .i64 n] 37) ∧ Hid (Below w.heap.size w wr)) (fun _ i _ _ _ _ => ms.length - (intOf i).toNat)
  case atStart => exact ⟨0, _, 0, [], [], fun _ => 0, by omega, rfl, rfl, Lib.hid rfl, ST2, X0, B0⟩
  case round =>
    obtain ⟨k, A2, c2, out, cs, bs, hk, rfl, rfl, hE, hO, hX, hB⟩ := hrel
    have hk0 : (0 : Int) ≤ (k : Int) := by omega
    by_cases hlt : k < ms.length
    · have hk1 : (k : Int) < (ms.length : Int) := by omega
      have hin := hmi k hlt
      have hol := opnN_len log hv hmi k (by omega)
      rw [← hE.out] at hol
      have EN := Lib.hid (show opnN ms vs log (k + 1) = opnN ms vs log k ++ opnAt ms vs log k from rfl)
      generalize hf : ms.getD k noM = f at hin
      obtain ⟨r, xs, li, co, qu⟩ := f
      simp only at hin
      have EA := Lib.hid (show opnAt ms vs log k = if li = 0 then opnM log k (lst vs xs.length) else [] by unfold opnAt; rw [hf])
      obtain ⟨b, off, B, c4, rfl, nb, e0, e1, e2, e3, e4, hxc, hcm, hI⟩ := (HM.out.step hB.out).at_ hlt hf
      have hB0 := hB.out.size
      have g1 := hX.out.cell 1
      have g2 := hX.out.cell 2
      simp only [List.getElem?_toArray, List.getElem?_cons_zero, List.getElem?_cons_succ] at g1 g2
      have gn := hX.out.lt
      clear hf hI
      by_cases hli : li = 0
      · subst hli
        have XL := Lib.hid fun (W : World) (hW : Below wr.heap.size wr W) => l8Lists_any V d vs xs.length hv hin W ((HV.out.step hB.out).step hW)
        have hL := lst_le hv hin
        have EL := Lib.hid fun l (hl : l ∈ lst vs xs.length) => (lst_elem vs xs.length l hl).1
        rw [if_pos rfl] at EA
        generalize lst vs xs.length = L at XL hL EL EA
        have hL' : (L.length : Int) ≤ 1000 := by omega
        have hx' : (xs.length : Int) ≤ 3 := by omega
        go_wp2
        go_region_law (first
          | (refine callP2 rfl 45 _ _ _ _ rfl (.slice V vs.length d) (.int .i64 xs.length) rfl rfl (by kernel_rfl) (R := fun v w' => ∃ A c cs bs, v = .slice A L.length c ∧ OwnCT w' wr.heap.size w'.heap.size (.slice A L.length c) L cs bs ∧ Below wr.heap.size wr w') (by
               refine (XL.out _ (by first | exact Below.refl _ _ | exact below_drew _)).mono ?_
               rintro e w' ⟨A, c, cs, bs, rfl, h1, h2⟩
               exact ⟨_, rfl, A, c, cs, bs, rfl, by first | exact h1 | exact h1.lo (Nat.le_refl _), by first | exact h2 | exact und h2⟩) ?_
             rintro v3 u3 ⟨A3, c3, cs3, bs3, rfl, ho3, d3⟩
             have O3 := Lib.hid ho3
             have D3 := Lib.hid d3
             clear ho3 d3))
        all_goals
          clear g1 g2 e0 e1 e2 e3 e4
          have hX3 := Lib.hid (hX.out.step D3.out)
          have hO3 := Lib.hid (hO.out.step D3.out)
          have hB3 := Lib.hid (step hB.out D3.out)
          have hs3 := D3.out.size
          have E3 := Lib.hid (show out = opnN ms vs log k ++ opnM log k (L.take 0) by rw [hE.out]; simp [opnM])
          clear hX hO hB hE D3
          go_wp2
          go_loopw [5, 8, 9] (fun o i _ wr => ∃ (m : Nat) (A2 : Option Addr) (c2 : Nat) (out : FL) (cs : List Value) (bs : Nat → Nat), m ≤ L.length ∧ i = .int .i64 m ∧ o = .slice A2 out.length c2 ∧ Hid (out = opnN ms vs log k ++ opnM log k (L.take m)) ∧ Hid (OwnCA wr w.heap.size wr.heap.size (.slice A2 out.length c2) out cs bs) ∧ Hid (OwnCT wr w.heap.size u3.heap.size (.slice A3 L.length c3) L cs3 bs3) ∧ Hid (Box wr w.heap.size #[.slice A fs.length c, .slice V vs.length d, .slice G log.length e', .int .i64 n] 37) ∧ Hid (Below w.heap.size w wr) ∧ Hid (u3.heap.size ≤ wr.heap.size)) (fun _ i _ _ => L.length - (intOf i).toNat)
          case atStart => exact ⟨0, A2, c2, out, cs, bs, by omega, rfl, rfl, E3, hO3, Lib.hid (O3.out.lo (by omega)), hX3, hB3, Lib.hid (Nat.le_refl _)⟩
          case round =>
            obtain ⟨m, A2, c2, out, cs, bs, hm, rfl, rfl, hE, hO, hT, hX, hB, hS⟩ := hrel
            have hm0 : (0 : Int) ≤ (m : Int) := by omega
            by_cases hmt : m < L.length
            · have hm1 : (m : Int) < (L.length : Int) := by omega
              generalize hf : L.getD m [] = l
              have HL := Lib.hid (EL.out l (getD_mem' hmt hf))
              have EM := Lib.hid (opnM_take log k L hmt hf)
              have hll : l.length ≤ 1048576 := by rw [HL.out]; omega
              have hol2 : out.length ≤ 1048576 := by have h1 := opnN_len log hv hmi k (by omega); have h2 := opnM_len log k (L.take m); rw [hE.out, List.length_append]; rw [List.length_take] at h2; omega
              obtain ⟨b, off, B, c4, hA3, nb, e0, _, _, hI⟩ := (hT.out.wide hS.out).rt.at_ hmt hf
              subst hA3
              have XA := Lib.hid (l8Access_any k B c4 l hll wr hI)
              have hB0 := hB.out.size
              clear hf hI
              go_wp2_with fail
              refine XA.out.mono ?_
              rintro e w1 ⟨A4, c5, q4, rfl, hv4, d4⟩
              have V4 := Lib.hid hv4
              have D4 := Lib.hid d4
              have b5 := below_alloc w1 (.cells #[.int .i64 k, .slice A4 l.length c5] 66)
              have D5 := Lib.hid (step d4 b5)
              have V5 := Lib.hid (hv4.keep (w' := w1.alloc (.cells #[.int .i64 k, .slice A4 l.length c5] 66)) (fun _ h2 _ => b5.block _ h2))
              have B5 := Box.new w1 #[.int .i64 k, .slice A4 l.length c5] 66
              obtain ⟨w5, hw5⟩ : ∃ W, W = w1.alloc (.cells #[.int .i64 k, .slice A4 l.length c5] 66) := ⟨_, rfl⟩
              have hz5 : w1.heap.size + 1 = w5.heap.size := by rw [hw5, al_size]
              rw [← hw5] at D5 V5 B5
              have EW := Lib.hid hw5
              have B5' := Lib.hid B5
              have X5 := Lib.hid (hX.out.step D5.out)
              have x2 := (hX.out.step d4).cell 2
              simp only [List.getElem?_toArray, List.getElem?_cons_zero, List.getElem?_cons_succ] at x2
              have xn := (hX.out.step d4).lt
              have XG := Lib.hid (l7Logged_any G e' log k l A4 c5 hz hll w5 ((HG.out.step hB.out).step D5.out) (((V5.out.ints).2.2.2).mono (Nat.zero_le _) (by omega)))
              have zd4 := d4.size
              clear hv4 d4 b5 hw5 B5 e0
              go_wp2_with fail
              rw [← EW.out]
              refine XG.out.mono ?_
              rintro e w6 ⟨he, d6⟩
              have D6 := Lib.hid (step D5.out d6)
              have Y6 := Lib.hid (B5'.out.step d6)
              have z0 := Y6.out.cell 0
              have z1 := Y6.out.cell 1
              simp only [List.getElem?_toArray, List.getElem?_cons_zero, List.getElem?_cons_succ] at z0 z1
              have V6 := Lib.hid (V5.out.keep (w' := w6) (fun _ h2 _ => d6.block _ (by omega)))
              have s6 := d6.size
              have X6 := Lib.hid (hX.out.step D6.out)
              have O6 := Lib.hid (hO.out.cur (Nat.le_refl _) D6.out)
              have T6 := Lib.hid (hT.out.cur (by have := hS.out; omega) D6.out)
              have B6 := Lib.hid (step hB.out D6.out)
              clear d6 x2
              by_cases hq : decide (((k : Int), l) ∈ log) = true
              · rw [hq] at he
                subst he
                have E6 := Lib.hid (show out = opnN ms vs log k ++ opnM log k (L.take (m + 1)) by rw [EM.out, if_pos hq, hE.out]; simp)
                clear hq z0 z1
                go_wp2
                go_roundw
                case rel => exact ⟨m + 1, A2, c2, out, cs, bs, by omega, by go_num, rfl, E6, Lib.hid (O6.out.mono (by omega)), T6, X6, B6, Lib.hid (by have := hS.out; omega)⟩
                case measure => simp [intOf]; omega
              · have hq' : decide (((k : Int), l) ∈ log) = false := by simpa using hq
                rw [hq'] at he
                subst he
                have E6 := Lib.hid (show out ++ [((k : Int), l)] = opnN ms vs log k ++ opnM log k (L.take (m + 1)) by rw [EM.out, if_neg hq, hE.out, List.append_assoc])
                clear hq hq'
                go_wp2_with (at_builtin; refine wpList_pushA rfl _ _ 30 rfl i0 Tryd.underlying30 hi hz0 hz1 hz2 rfl rfl (O6.out.mono (hi' := w6.heap.size) (by omega)) (V6.out.mono (by omega) (by omega)) (apart_new hO.out.2 V6.out (Nat.le_refl _)) (by omega) (Nat.le_refl _) (by omega) ?_)
                intro v7 w7 hF7 hg7
                obtain ⟨A7, c7, rfl⟩ := hF7.form
                have F7 := Lib.hid hF7
                have O6w := O6.out.mono (hi' := w6.heap.size) (by omega)
                have G7 := Lib.hid (show Below w.heap.size w6 w7 from below_grown O6.out.1 hg7 (Nat.le_refl _) (by omega))
                have s7 := hg7.size
                have T7 := Lib.hid (T6.out.typed fun b c t ht hb => O6.out.kept hg7 b c t ht hb)
                have X7 := Lib.hid (show Box w7 w.heap.size _ _ from (hg7.block w.heap.size X6.out.lt (fun e => by
                  rcases O6.out.1.2 with ⟨hv0, _⟩ | ⟨g, cap, cur, hv0, _, hh, _⟩
                  · rw [hv0] at e; simp [Value.ownBlock] at e
                  · rw [hv0] at e
                    have eg : g = w.heap.size := own_some e.symm
                    subst eg
                    have := X6.out.symm.trans hh
                    injection this with this
                    injection this with _ ht'
                    exact absurd ht' (by decide))).trans X6.out)
                clear hF7 hg7
                go_wp2
                go_roundw
                case rel => exact ⟨m + 1, A7, c7, _, _, _, by omega, by go_num, by rw [List.length_append], E6, Lib.hid (F7.out.mono s7), T7, X7, Lib.hid (B6.out.trans G7.out), Lib.hid (by have := hS.out; omega)⟩
                case measure => simp [intOf]; omega
            · obtain rfl : m = L.length := by omega
              have E6 := Lib.hid (show out = opnN ms vs log (k + 1) by rw [EN.out, EA.out, hE.out, take_all])
              go_wp2
              go_roundw
              case rel => exact ⟨k + 1, A2, c2, out, cs, bs, by omega, by go_num, rfl, E6, hO, hX, hB⟩
              case measure => simp [intOf]; omega
      · have d1 : (li == 0) = false := by simpa using hli
        have d2 : (li != 0) = true := by simpa using hli
        have E6 := Lib.hid (show out = opnN ms vs log (k + 1) by rw [EN.out, EA.out, if_neg hli, hE.out]; simp)
        clear hli
        go_wp2
        go_roundw
        case rel => exact ⟨k + 1, A2, c2, out, cs, bs, by omega, by go_num, rfl, E6, hO, hX, hB⟩
        case measure => simp [intOf]; omega
    · obtain rfl : k = ms.length := by omega
      go_wp2
      go_ret
      exact ⟨A2, c2, cs, bs, congrArg (fun o : FL => Ending.returned (.slice A2 o.length c2)) hE.out, by rw [← hE.out]; exact hO.out, hB.out⟩

set_option maxRecDepth 100000 in
set_option maxHeartbeats 2000000 in
theorem spec_OpenAccesses (S : Option Addr) (cs : Nat) (s : List Int) (M : Option Addr) (cm : Nat) (ms : ML) (A V G : Option Addr) (c d e' : Nat) (fs : FL) (vs : List Int) (log : FL) (n : Int) (hls : s.length ≤ 1048576) (hzm : szM ms ≤ 1048576) (hlv : vs.length ≤ 1048576) (hz : szF log ≤ 1048576)
    (w : World) (hS : RI w S s) (hM : RM w M ms) (hV : RI w V vs) (hG : RF w G log) :
    Calls Tryd.prog 6 #[.slice S s.length cs, .slice M ms.length cm, .agg #[.slice A fs.length c, .slice V vs.length d, .slice G log.length e', .int .i64 n]] w (AddOutA w (opnA s ms vs log)) := by
  have b0 := below_alloc w (.cells #[.slice A fs.length c, .slice V vs.length d, .slice G log.length e', .int .i64 n] 37)
  have B0 := Lib.hid b0
  have X0 := Lib.hid (Box.new w #[.slice A fs.length c, .slice V vs.length d, .slice G log.length e', .int .i64 n] 37)
  have XM := Lib.hid (spec_AreMethods S cs s M cm ms hls hzm _ (hS.step b0) (hM.step b0))
  have XV := Lib.hid fun (W : World) (hW : RI W V vs) => l8Values_any V d vs hlv W hW
  have HM := Lib.hid (hM.step b0)
  have HV := Lib.hid (hV.step b0)
  have HG := Lib.hid (hG.step b0)
  clear hS hM hV hG b0
  by_cases c1 : aremB s ms = true
  · have C1 := Lib.hid c1
    by_cases c2 : inpB 10 vs = true
    · have C2 := Lib.hid c2
      have E := Lib.hid (opnA_yes (log := log) c1 c2)
      have XO := Lib.hid fun (W : World) (h1 : RM W M ms) (h2 : RI W V vs) (h3 : RF W G log) => l8Open_any M cm ms A V G c d e' fs vs log n (arem_len c1) (fun k hk => arem_inp c1 hk) (inpB_len (a := 10) c2) hz W h1 h2 h3
      rw [E.out]
      clear c1 c2
      go_enter Tryd.func6, Tryd.ntmps6
      go_wp2_with fail
      refine XM.out.mono ?_
      rintro e w1 ⟨he, d1⟩
      rw [C1.out] at he
      subst he
      have X1 := Lib.hid (X0.out.step d1)
      have D1 := Lib.hid (step B0.out d1)
      have M1 := Lib.hid (HM.out.step d1)
      have V1 := Lib.hid (HV.out.step d1)
      have G1 := Lib.hid (HG.out.step d1)
      have x1 := X1.out.cell 1
      simp only [List.getElem?_toArray, List.getElem?_cons_zero, List.getElem?_cons_succ] at x1
      clear d1
      go_wp2_with fail
      refine (XV.out _ V1.out).mono ?_
      rintro e w2 ⟨he, d2⟩
      rw [C2.out] at he
      subst he
      have X2 := Lib.hid (X1.out.step d2)
      have D2 := Lib.hid (step D1.out d2)
      have M2 := Lib.hid (M1.out.step d2)
      have V2 := Lib.hid (V1.out.step d2)
      have G2 := Lib.hid (G1.out.step d2)
      have y0 := X2.out.cell 0
      have y1 := X2.out.cell 1
      have y2 := X2.out.cell 2
      have y3 := X2.out.cell 3
      simp only [List.getElem?_toArray, List.getElem?_cons_zero, List.getElem?_cons_succ] at y0 y1 y2 y3
      clear d2 x1
      go_wp2_with fail
      refine (XO.out _ M2.out V2.out G2.out).mono ?_
      rintro e w3 ⟨A3, c3, cs3, bs3, rfl, hO, d3⟩
      have O3 := Lib.hid (hO.lo D2.out.size)
      have D3 := Lib.hid (step D2.out d3)
      clear hO d3 y0 y1 y2 y3
      go_wp2
      go_ret
      exact ⟨A3, c3, cs3, bs3, rfl, O3.out, D3.out⟩
    · have C2 := Lib.hid (show inpB 10 vs = false by simpa using c2)
      have E := Lib.hid (opnA_no (s := s) (ms := ms) (vs := vs) (log := log) (fun h => c2 h.2))
      rw [E.out]
      clear c1 c2
      go_enter Tryd.func6, Tryd.ntmps6
      go_wp2_with fail
      refine XM.out.mono ?_
      rintro e w1 ⟨he, d1⟩
      rw [C1.out] at he
      subst he
      have X1 := Lib.hid (X0.out.step d1)
      have D1 := Lib.hid (step B0.out d1)
      have V1 := Lib.hid (HV.out.step d1)
      have x1 := X1.out.cell 1
      simp only [List.getElem?_toArray, List.getElem?_cons_zero, List.getElem?_cons_succ] at x1
      clear d1
      go_wp2_with fail
      refine (XV.out _ V1.out).mono ?_
      rintro e w2 ⟨he, d2⟩
      rw [C2.out] at he
      subst he
      have D2 := Lib.hid (step D1.out d2)
      clear d2 x1
      go_wp2
      go_ret
      exact addOutA_lit D2.out
  · have C1 := Lib.hid (show aremB s ms = false by simpa using c1)
    have E := Lib.hid (opnA_no (s := s) (ms := ms) (vs := vs) (log := log) (fun h => c1 h.1))
    rw [E.out]
    clear c1
    go_enter Tryd.func6, Tryd.ntmps6
    go_wp2_with fail
    refine XM.out.mono ?_
    rintro e w1 ⟨he, d1⟩
    rw [C1.out] at he
    subst he
    have D1 := Lib.hid (step B0.out d1)
    clear d1
    go_wp2
    go_ret
    exact addOutA_lit D1.out
end Go.Proofs.YtnmhppiccganoaaDoor
