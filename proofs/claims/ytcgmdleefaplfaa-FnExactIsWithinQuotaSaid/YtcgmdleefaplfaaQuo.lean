/- What the two functions IsWithinQuota answer. Conditions: none beyond each theorem's own. -/
import Derived.Test.YtcgmdleefaplfaaUso
import Derived.Test.YtcgmdleefaplfaaOC
import Derived.Lib.QuietBelow
namespace Go.Proofs.Ytcgmdleefaplfaa
open Go.ChangeShapes Go.WideShapes Go.ChangeAt Go.RowKit Go.Sort
set_option linter.unusedVariables false
set_option linter.unusedSimpArgs false

/-- Is each call of p one of a method of ms, which p calls at most as often as its quota says? -/
def quoA (ms : ML) (p : FL) (x : Int) : Bool := inB x 0 ((ms.length : Int) - 1) && decide ((usesN p x : Int) ≤ (ms.getD x.toNat noM).2.2.2.2)
def quoB (ms : ML) (p : FL) : Bool := p.all fun a => quoA ms p a.1
theorem quo_mono {ms : ML} {p q : FL} (h : quoB ms (p ++ q) = true) : quoB ms p = true := by
  unfold quoB quoA at *
  rw [List.all_eq_true] at *
  intro a ha
  have := h a (by simp [ha])
  simp only [Bool.and_eq_true, decide_eq_true_eq] at this ⊢
  have e : usesN (p ++ q) a.1 = usesN p a.1 + usesN q a.1 := by unfold usesN; rw [List.countP_append]
  exact ⟨this.1, by have := this.2; rw [e] at this; omega⟩
theorem quo_snoc (ms : ML) (p : FL) (x : Int) (vs : List Int) : quoB ms (p ++ [(x, vs)]) = (quoB ms p && quoA ms (p ++ [(x, vs)]) x) := by
  rw [Bool.eq_iff_iff]
  constructor
  · intro h
    rw [quo_mono h, Bool.true_and]
    unfold quoB at h
    rw [List.all_eq_true] at h
    exact h (x, vs) (by simp)
  · intro h
    rw [Bool.and_eq_true] at h
    obtain ⟨h1, h2⟩ := h
    unfold quoB at *
    rw [List.all_eq_true] at *
    intro a ha
    by_cases e : a.1 = x
    · rw [e]; exact h2
    · rw [List.mem_append] at ha
      rcases ha with ha | ha
      · have := h1 a ha
        unfold quoA at *
        rw [usesN_snoc, if_neg (fun h => e h.symm), Nat.add_zero]
        exact this
      · simp at ha
        subst ha
        exact absurd rfl e
theorem quo_take (ms : ML) (p : FL) {k : Nat} (hk : k < p.length) {x : Int} {vs : List Int} (hf : p.getD k (0, []) = (x, vs)) : quoB ms (p.take (k + 1)) = (quoB ms (p.take k) && quoA ms (p.take (k + 1)) x) := by
  have e : p[k] = p.getD k (0, []) := by simp [List.getD_eq_getElem?_getD, hk]
  rw [List.take_succ_eq_append_getElem hk, e, hf, quo_snoc]
theorem quo_not (ms : ML) (p : FL) (k : Nat) (h : quoB ms (p.take k) = false) : quoB ms p = false := by
  rw [Bool.eq_false_iff]
  intro h'
  rw [← List.take_append_drop k p] at h'
  rw [quo_mono h'] at h
  cases h
/-- The first k calls keep the quotas of the whole log. -/
def quoN (ms : ML) (p : FL) (n : Nat) : Bool := (List.range n).all fun k => quoA ms p (p.getD k (0, [])).1
theorem quoN_succ (ms : ML) (p : FL) (k : Nat) : quoN ms p (k + 1) = (quoN ms p k && quoA ms p (p.getD k (0, [])).1) := by
  unfold quoN
  rw [List.range_succ, List.all_append]
  simp
theorem quoN_all (ms : ML) (p : FL) : quoN ms p p.length = quoB ms p := by
  unfold quoN quoB
  rw [Bool.eq_iff_iff, List.all_eq_true, List.all_eq_true]
  constructor
  · intro h a ha
    obtain ⟨k, hk, rfl⟩ := List.getElem_of_mem ha
    have := h k (by simpa using hk)
    simpa [List.getD_eq_getElem?_getD, hk] using this
  · intro h k hk
    have hk : k < p.length := by simpa using hk
    have := h p[k] (List.getElem_mem hk)
    simpa [List.getD_eq_getElem?_getD, hk] using this
theorem quoN_not (ms : ML) (p : FL) (k : Nat) (hk : k < p.length) (h : quoA ms p (p.getD k (0, [])).1 = false) : quoB ms p = false := by
  rw [← quoN_all]
  unfold quoN
  rw [List.all_eq_false]
  exact ⟨k, by simpa using hk, by rw [h]; simp⟩

set_option maxRecDepth 100000 in
set_option maxHeartbeats 1000000 in
theorem spec_IsWithinQuota (A : Option Addr) (c : Nat) (ms : ML) (A' : Option Addr) (c' : Nat) (l : FL) (hz : szM ms ≤ 1048576) (hl : l.length ≤ 1048576) (w : World) (h : RM w A ms) (h' : RF w A' l) :
    Calls Try.prog 23 #[.slice A ms.length c, .slice A' l.length c'] w fun e w' => e = .returned (.bool (quoB ms l)) ∧ Below w.heap.size w w' := by
  have hl1 := szM_len hz
  have hl1' : (ms.length : Int) ≤ 1048576 := by omega
  have hl' : (l.length : Int) ≤ 1048576 := by omega
  have HI := Lib.hid h
  have HJ := Lib.hid h'
  clear h h'
  go_enter Try.func23, Try.ntmps23
  go_wp2
  go_loopw [5] (fun i wr => ∃ (k : Nat), k ≤ l.length ∧ i = .int .i64 k ∧ Hid (quoN ms l k = true) ∧ Hid (Below w.heap.size w wr)) (fun i _ => l.length - (intOf i).toNat)
  case atStart => exact ⟨0, by omega, rfl, Lib.hid rfl, Lib.hid (Below.refl _ _)⟩
  case round =>
    obtain ⟨k, hk, rfl, ha, hb⟩ := hrel
    by_cases hlt : k < l.length
    · generalize hf : l.getD k (0, []) = f
      obtain ⟨x, vs⟩ := f
      have HF := Lib.hid (show (l.getD k (0, [])).1 = x by rw [hf])
      obtain ⟨b, off, V, cv, rfl, hb1, e0, e1, _, _, _⟩ := (HJ.out.step hb.out).at_ hlt hf
      clear hf
      have hk0 : (0 : Int) ≤ (k : Int) := by omega
      have hk1 : (k : Int) < (l.length : Int) := by omega
      by_cases hin : inB x 0 ((ms.length : Int) - 1) = true
      · have HN := Lib.hid hin
        obtain ⟨m, rfl, hm⟩ := inB_nat hin
        generalize hg : ms.getD m noM = g
        obtain ⟨r2, xs, li, co, qu⟩ := g
        have HG := Lib.hid hg
        obtain ⟨b2, off2, B, c2, rfl, nb, g0, g1, g2, g3, g4, _, _, _⟩ := (HI.out.step hb.out).at_ hm hg
        have hm0 : (0 : Int) ≤ (m : Int) := by omega
        have hm1 : (m : Int) < (ms.length : Int) := by omega
        have k0 := cell_regrown e0
        have k4 := cell_regrown g4
        have Y2 := Lib.hid fun (W : World) => (show Calls Try.prog 62 #[.int .i64 (m : Int), .int .i64 0, .int .i64 ((ms.length : Int) - 1)] W fun e w' => e = .returned (.bool true) ∧ Below W.heap.size W w' from (l1In_any (m : Int) 0 ((ms.length : Int) - 1) W).mono (by rintro e w' ⟨he, rfl⟩; rw [HN.out] at he; exact ⟨he, Below.refl _ _⟩))
        have XU := Lib.hid fun (W : World) (hW : Below wr.heap.size wr W) => spec_UsesOf (some ⟨b, off, none⟩) c' l (m : Int) hl W (HJ.out.step (step hb.out hW))
        clear hin hg e0 e1 g0 g1 g2 g3 g4
        generalize hu : usesN l (m : Int) = n at XU
        by_cases hc : qu < (n : Int)
        · have HC := Lib.hid (show quoA ms l (l.getD k (0, [])).1 = false by rw [HF.out]; unfold quoA; rw [hu, Int.toNat_natCast, HG.out]; simp; omega)
          have O := Lib.hid (quoN_not ms l k hlt HC.out)
          have dc : decide (qu < (n : Int)) = true := by simpa using hc
          clear hu
          go_wp2
          refine wp_region_quiet_below (by kernel_rfl) (by kernel_rfl) ?_
          repeat (go_big_quiet_step (first | (go_at_call 62; with_reducible exact Calls.regrown_of (Y2.out _)) | (go_at_call 14; with_reducible exact Calls.regrown_of (XU.out _ (below_regrown _ _ _)))))
          refine wpQuiet_nil ?_
          intro u hw'
          have D := Lib.hid (step hb.out (show Below wr.heap.size wr u by obtain ⟨⟨dq, osq⟩, rfl⟩ := hw'; exact below_regrown _ _ _))
          clear hw' k0 k4
          go_wp2
          go_ret
          exact ⟨ret_bool O.out.symm, D.out⟩
        · have HC := Lib.hid (show quoA ms l (l.getD k (0, [])).1 = true by rw [HF.out]; unfold quoA; rw [hu, Int.toNat_natCast, HG.out, HN.out]; simp; omega)
          have dc : decide (qu < (n : Int)) = false := by simpa using hc
          clear hu
          go_wp2
          refine wp_region_quiet_below (by kernel_rfl) (by kernel_rfl) ?_
          repeat (go_big_quiet_step (first | (go_at_call 62; with_reducible exact Calls.regrown_of (Y2.out _)) | (go_at_call 14; with_reducible exact Calls.regrown_of (XU.out _ (below_regrown _ _ _)))))
          refine wpQuiet_nil ?_
          intro u hw'
          have D := Lib.hid (step hb.out (show Below wr.heap.size wr u by obtain ⟨⟨dq, osq⟩, rfl⟩ := hw'; exact below_regrown _ _ _))
          clear hw' k0 k4
          go_wp2
          go_roundw
          case rel => exact ⟨k + 1, by omega, by go_num, Lib.hid (by rw [quoN_succ, ha.out, HC.out]; rfl), D⟩
          case measure => simp [intOf]; omega
      · have HN := Lib.hid (show inB x 0 ((ms.length : Int) - 1) = false by simpa using hin)
        have O := Lib.hid (quoN_not ms l k hlt (by rw [HF.out]; unfold quoA; rw [HN.out]; rfl))
        have k0 := cell_regrown e0
        have Y2 := Lib.hid fun (W : World) => (show Calls Try.prog 62 #[.int .i64 x, .int .i64 0, .int .i64 ((ms.length : Int) - 1)] W fun e w' => e = .returned (.bool false) ∧ Below W.heap.size W w' from (l1In_any x 0 ((ms.length : Int) - 1) W).mono (by rintro e w' ⟨he, rfl⟩; rw [HN.out] at he; exact ⟨he, Below.refl _ _⟩))
        clear hin e0 e1
        go_wp2
        refine wp_region_quiet_below (by kernel_rfl) (by kernel_rfl) ?_
        repeat (go_big_quiet_step (first | (go_at_call 62; with_reducible exact Calls.regrown_of (Y2.out _))))
        refine wpQuiet_nil ?_
        intro u hw'
        have D := Lib.hid (step hb.out (show Below wr.heap.size wr u by obtain ⟨⟨dq, osq⟩, rfl⟩ := hw'; exact below_regrown _ _ _))
        clear hw' k0
        go_wp2
        go_ret
        exact ⟨ret_bool O.out.symm, D.out⟩
    · obtain rfl : k = l.length := by omega
      have O := Lib.hid (show true = quoB ms l by rw [← quoN_all]; exact ha.out.symm)
      go_wp2
      go_ret
      exact ⟨ret_bool O.out, hb.out⟩

/-- The counts of the methods, in a row. -/
def cntF (p : FL) : Nat → Value := fun j => .int .i64 (usesN p (j : Int) : Nat)

set_option maxRecDepth 100000 in
set_option maxHeartbeats 1000000 in
theorem impl_IsWithinQuota (A : Option Addr) (c : Nat) (ms : ML) (A' : Option Addr) (c' : Nat) (l : FL) (hz : szM ms ≤ 1048576) (hl : l.length ≤ 1048576) (w : World) (h : RM w A ms) (h' : RF w A' l) :
    Calls Try.prog 24 #[.slice A ms.length c, .slice A' l.length c'] w fun e w' => e = .returned (.bool (quoB ms l)) ∧ Below w.heap.size w w' := by
  have hl1 := szM_len hz
  have hl1' : (ms.length : Int) ≤ 1048576 := by omega
  have hl' : (l.length : Int) ≤ 1048576 := by omega
  obtain ⟨C, hC, hCs, hmk⟩ := makeInts ms.length hl1 w
  have HI := Lib.hid h
  have HJ := Lib.hid h'
  have HC := Lib.hid hC
  have HS := Lib.hid hCs
  clear h h' hC hCs
  go_enter Try.func24, Try.ntmps24
  go_wp2
  go_loopw [7, 13] (fun _ i wr => ∃ (k : Nat), k ≤ l.length ∧ i = .int .i64 k ∧ Hid (quoB ms (l.take k) = true) ∧ wr.rowIs w.heap.size 3 ms.length (cntF (l.take k)) ∧ Hid (Below w.heap.size w wr) ∧ w.heap.size < wr.heap.size) (fun _ i _ => l.length - (intOf i).toNat)
  case atStart => exact ⟨0, by omega, rfl, Lib.hid rfl, ⟨C, by rw [heap_alloc_new], HS.out, fun i hi => HC.out i hi⟩, Lib.hid (below_alloc _ _), by simp⟩
  case round =>
    obtain ⟨k, hk, rfl, ha, hr, hb, hsz⟩ := hrel
    have HR := Lib.hid hr
    clear hr
    by_cases hlt : k < l.length
    · generalize hf : l.getD k (0, []) = f
      obtain ⟨x, vs⟩ := f
      obtain ⟨b, off, V, cv, rfl, hb1, e0, e1, _, _, _⟩ := (HJ.out.step hb.out).at_ hlt hf
      have QT := Lib.hid (quo_take ms l hlt hf)
      have UT := Lib.hid fun (m : Int) => usesN_take l hlt hf m
      have UL := usesN_len (l.take k) x
      clear hf
      have hk0 : (0 : Int) ≤ (k : Int) := by omega
      have hk1 : (k : Int) < (l.length : Int) := by omega
      have ba := below_alloc wr (.cells #[.int .i64 x, .slice V vs.length cv] 68)
      have B2 := Lib.hid (step hb.out ba)
      by_cases hin : inB x 0 ((ms.length : Int) - 1) = true
      · have HN := Lib.hid hin
        obtain ⟨m, rfl, hm⟩ := inB_nat hin
        generalize hg : ms.getD m noM = g
        obtain ⟨r2, xs, li, co, qu⟩ := g
        have HG := Lib.hid hg
        have hm0 : (0 : Int) ≤ (m : Int) := by omega
        have hm1 : (m : Int) < (ms.length : Int) := by omega
        have HR2 := Lib.hid (World.rowIs.of_block HR.out (ba.block _ hsz))
        have hz1 := HR2.out.cell hm
        have hz2 := HR2.out.frozen m
        have hls : (l.take k).length ≤ k := by rw [List.length_take]; omega
        unfold cntF at hz1
        generalize hu : usesN (l.take k) (m : Int) = n at hz1 UL
        have hu2 : usesN (l.take (k + 1)) (m : Int) = n + 1 := by rw [UT.out, if_pos rfl, hu]
        have hn : n ≤ 1048576 := by omega
        have CF := Lib.hid (show ∀ j, j < ms.length → (if j = m then Value.int .i64 ((n : Int) + 1) else cntF (l.take k) j) = cntF (l.take (k + 1)) j by
          intro j hj
          unfold cntF
          by_cases e : j = m
          · subst e
            rw [if_pos rfl, hu2]
            rfl
          · rw [if_neg e, UT.out, if_neg (by omega)]
            rfl)
        have hsz3 : w.heap.size < wr.heap.size + 1 := by omega
        obtain ⟨b2, off2, B, c2, rfl, nb, g0, g1, g2, g3, g4, _, _, _⟩ := (HI.out.step B2.out).at_ hm HG.out
        obtain ⟨W1, hW1⟩ : ∃ W1, W1 = wr.setCell ⟨w.heap.size, m, none⟩ (.int .i64 ((n : Int) + 1)) := ⟨_, rfl⟩
        have hs1 : wr.heap.size = W1.heap.size := by rw [hW1, set_size]
        have hr1 : W1.rowIs w.heap.size 3 ms.length (cntF (l.take (k + 1))) := by rw [hW1]; exact (HR.out.set m _).congr (fun j hj => CF.out j hj)
        have d1 : Below w.heap.size w W1 := by rw [hW1]; exact hb.out.setCell (Nat.le_refl _) _
        have X0 := Box.new W1 #[.int .i64 (m : Int), .slice V vs.length cv] 68
        rw [← hs1] at X0
        have dA := below_alloc W1 (.cells #[.int .i64 (m : Int), .slice V vs.length cv] 68)
        obtain ⟨U, hU⟩ : ∃ U, U = W1.alloc (.cells #[.int .i64 (m : Int), .slice V vs.length cv] 68) := ⟨_, rfl⟩
        have HSU := Lib.hid (show wr.heap.size + 1 = U.heap.size by rw [hU, al_size, ← hs1])
        rw [← hU] at X0 dA
        have HR3 := Lib.hid (show U.rowIs w.heap.size 3 ms.length (cntF (l.take (k + 1))) from World.rowIs.of_block hr1 (dA.block _ (by rw [← hs1]; exact hsz)))
        have DU := Lib.hid (show Below w.heap.size w U from step d1 dA)
        have x0 := X0.cell 0
        simp only [List.getElem?_toArray, List.getElem?_cons_zero] at x0
        rw [hW1] at hU
        clear hs1 hr1 d1 dA
        have y0 := HR3.out.cell hm
        unfold cntF at y0
        rw [hu2] at y0
        have z0 := (DU.out.cell (p := ⟨b2, off2 + m * 5 + 4, none⟩) (by have := (HI.out).at_ hm HG.out; obtain ⟨b3, off3, _, _, e3, n3, _⟩ := this; injection e3 with e3; injection e3 with e3 _; subst e3; exact n3)).trans ((B2.out.cell (p := ⟨b2, off2 + m * 5 + 4, none⟩) (by have := (HI.out).at_ hm HG.out; obtain ⟨b3, off3, _, _, e3, n3, _⟩ := this; injection e3 with e3; injection e3 with e3 _; subst e3; exact n3)).symm.trans g4)
        have k0 := cell_regrown x0
        have k1 := cell_regrown y0
        have k2 := cell_regrown z0
        have EU := Lib.hid hU
        clear hin hg hu ba UT g0 g1 g2 g3 g4 X0 x0 y0 z0 hU hW1
        by_cases hc : qu < (n : Int) + 1
        · have O := Lib.hid (quo_not ms l (k + 1) (by rw [QT.out]; unfold quoA; rw [hu2, Int.toNat_natCast, HG.out]; simp; omega))
          have dc : decide (qu < (n : Int) + 1) = true := by simpa using hc
          clear hu2
          go_wp2_with fail
          refine (hasMethod_any _ c ms.length (m : Int) hl1 _).mono ?_
          rintro e w' ⟨he, rfl⟩
          rw [HN.out] at he
          subst he
          go_wp2
          rw [← EU.out]
          refine wp_region_quiet_below (by kernel_rfl) (by kernel_rfl) ?_
          repeat (go_big_quiet_step (fail))
          refine wpQuiet_nil ?_
          intro u hw'
          have d : Below U.heap.size U u := by obtain ⟨⟨dq, osq⟩, rfl⟩ := hw'; exact below_regrown _ _ _
          have D := Lib.hid (step DU.out d)
          have HR4 := Lib.hid (World.rowIs.of_block HR3.out (d.block _ (by rw [← HSU.out]; omega)))
          have hsu : w.heap.size < u.heap.size := by have := d.size; have := HSU.out; omega
          clear hw' k0 k1 k2 d
          go_wp2
          go_ret
          exact ⟨ret_bool O.out.symm, D.out⟩
        · have O := Lib.hid (show quoB ms (l.take (k + 1)) = true by rw [QT.out, ha.out]; unfold quoA; rw [hu2, Int.toNat_natCast, HG.out, HN.out]; simp; omega)
          have dc : decide (qu < (n : Int) + 1) = false := by simpa using hc
          clear hu2
          go_wp2_with fail
          refine (hasMethod_any _ c ms.length (m : Int) hl1 _).mono ?_
          rintro e w' ⟨he, rfl⟩
          rw [HN.out] at he
          subst he
          go_wp2
          rw [← EU.out]
          refine wp_region_quiet_below (by kernel_rfl) (by kernel_rfl) ?_
          repeat (go_big_quiet_step (fail))
          refine wpQuiet_nil ?_
          intro u hw'
          have d : Below U.heap.size U u := by obtain ⟨⟨dq, osq⟩, rfl⟩ := hw'; exact below_regrown _ _ _
          have D := Lib.hid (step DU.out d)
          have HR4 := Lib.hid (World.rowIs.of_block HR3.out (d.block _ (by rw [← HSU.out]; omega)))
          have hsu : w.heap.size < u.heap.size := by have := d.size; have := HSU.out; omega
          clear hw' k0 k1 k2 d
          go_wp2
          go_roundw
          case rel => exact ⟨k + 1, by omega, by go_num, O, HR4.out, D, hsu⟩
          case measure => simp [intOf]; omega
      · have HN := Lib.hid (show inB x 0 ((ms.length : Int) - 1) = false by simpa using hin)
        have O := Lib.hid (quo_not ms l (k + 1) (by rw [QT.out]; unfold quoA; rw [HN.out]; simp))
        clear hin ba
        go_wp2_with fail
        refine (hasMethod_any _ c ms.length x hl1 _).mono ?_
        rintro e w' ⟨he, rfl⟩
        rw [HN.out] at he
        subst he
        go_wp2
        go_ret
        exact ⟨ret_bool O.out.symm, B2.out⟩
    · obtain rfl : k = l.length := by omega
      have O := Lib.hid (show true = quoB ms l by have := ha.out; rw [take_all] at this; exact this.symm)
      go_wp2
      go_ret
      exact ⟨ret_bool O.out, hb.out⟩
end Go.Proofs.Ytcgmdleefaplfaa
