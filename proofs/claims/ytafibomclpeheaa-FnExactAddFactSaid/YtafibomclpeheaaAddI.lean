/- What impl.AddFact answers. Conditions: none beyond each theorem's own. -/
import Derived.Test.YtafibomclpeheaaAddM
namespace Go.Proofs.Ytafibomclpeheaa
open Go.ChangeShapes Go.WideShapes Go.ChangeAt Go.RowKit Go.Sort
set_option linter.unusedVariables false
set_option linter.unusedSimpArgs false

theorem items_one {w : World} {lo hi : Nat} {fs : FL} {cs : List Value} {bs : Nat → Nat} (h : Items w lo hi fs cs bs) : ∀ x ∈ cs, x.oneCell' = true := fun x hx => by
  obtain ⟨j, hj⟩ := List.getElem?_of_mem hx
  have hlt : j < fs.length * 2 := by have := (List.getElem?_eq_some_iff.1 hj).1; have := h.1; omega
  obtain ⟨e0, v1, e1, hv⟩ := h.2.1 (j / 2) (by omega)
  rcases Nat.mod_two_eq_zero_or_one j with hm | hm
  · rw [show j / 2 * 2 = j by omega, hj] at e0
    injection e0 with e0
    subst e0
    rfl
  · rw [show j / 2 * 2 + 1 = j by omega, hj] at e1
    injection e1 with e1
    subst e1
    obtain ⟨A, c, rfl, _⟩ := hv
    rfl

set_option maxRecDepth 100000 in
set_option maxHeartbeats 3000000 in
theorem impl_AddFact (b off c : Nat) (l : FL) (r : Int) (xs : List Int) (A' : Option Addr) (c' : Nat) (hlc : l.length ≤ c) (hc : c ≤ 17592186044416) (hz : szF l ≤ 1048576) (hl2 : xs.length ≤ 1048576) (hc2 : xs.length ≤ c') (hm2 : c' ≤ maxLen) (w : World) (h : RF w (some ⟨b, off, none⟩) l) (h' : RI w A' xs) :
    Calls Try.prog 27 #[.slice (some ⟨b, off, none⟩) l.length c, .agg #[.int .i64 r, .slice A' xs.length c']] w (AddOut w (addF l r xs)) := by
  obtain ⟨i0, hi, hz0, hz1, hz2⟩ := info_parts fact_info
  have hl := szF_len hz
  have hl' : (l.length : Int) ≤ 1048576 := by omega
  have hc' : (c : Int) ≤ 17592186044416 := by omega
  have hlc' : (l.length : Int) ≤ (c : Int) := by omega
  have HI := Lib.hid h
  have HJ := Lib.hid h'
  clear h h'
  by_cases hhas : hasB l r xs = true
  · have HH := Lib.hid hhas
    rw [addF_yes hhas]
    clear hhas
    go_enter Try.func27, Try.ntmps27
    go_wp2_with fail
    refine (impl_HasFact _ c l r xs A' c' hz hl2 hc2 hm2 _ (HI.out.step (below_alloc _ _)) (HJ.out.step (below_alloc _ _))).mono ?_
    rintro e u ⟨he, d⟩
    rw [HH.out] at he
    subst he
    have b1 := below_new d
    clear d
    go_wp2_with fail
    refine (copyFacts_n _ c l.length l rfl hz _ (HI.out.step b1)).mono ?_
    rintro e u2 ⟨rfl, ⟨cs, bs, ho⟩, d⟩
    have HO := Lib.hid ho
    have HB := Lib.hid (step b1 d)
    have HS := Lib.hid b1.size
    clear ho d
    go_wp2
    go_ret
    exact ⟨_, _, cs, bs, rfl, ⟨by
      obtain ⟨h1, h2⟩ := HO.out.1
      refine ⟨h1, ?_⟩
      rcases h2 with h2 | ⟨g, cap, cur, hv, hb, hr⟩
      · exact .inl h2
      · exact .inr ⟨g, cap, cur, hv, Nat.le_trans HS.out hb, hr⟩, HO.out.2.mono HS.out (Nat.le_refl _)⟩, HB.out⟩
  · have HH := Lib.hid (show hasB l r xs = false by simpa using hhas)
    rw [addF_no HH.out]
    clear hhas
    go_enter Try.func27, Try.ntmps27
    go_wp2_with fail
    refine (impl_HasFact _ c l r xs A' c' hz hl2 hc2 hm2 _ (HI.out.step (below_alloc _ _)) (HJ.out.step (below_alloc _ _))).mono ?_
    rintro e u ⟨he, d⟩
    rw [HH.out] at he
    subst he
    have b1 := Lib.hid (below_new d)
    have X0 := Lib.hid (Box.of_new d)
    clear d
    go_wp2
    go_loopw [5] (fun i wr => ∃ k : Nat, k ≤ l.length ∧ i = .int .i64 k ∧ (∀ j, j < k → ltAt l r xs j) ∧ Below u.heap.size u wr) (fun i _ => l.length - (intOf i).toNat)
    case atStart => exact ⟨0, by omega, rfl, fun j hj => by omega, Below.refl _ _⟩
    case round =>
      obtain ⟨k, hk, rfl, ha, hb⟩ := hrel
      have HA := Lib.hid ha
      clear ha
      have Z := Lib.hid (X0.out.step hb)
      have g0 := Z.out.cell 0
      have g1 := Z.out.cell 1
      have gn := Z.out.lt
      simp only [List.getElem?_toArray, List.getElem?_cons_zero, List.getElem?_cons_succ] at g0 g1
      have k2 := cell_regrown g0
      have k3 := cell_regrown g1
      have HY := Lib.hid (HJ.out.step (step b1.out hb))
      have hk0 : (0 : Int) ≤ (k : Int) := by omega
      by_cases hlt : k < l.length
      · generalize hf : l.getD k (0, []) = f
        obtain ⟨r2, ys⟩ := f
        have HF := Lib.hid hf
        have hyl : ys.length ≤ 1048576 := by have := szF_elem hz hlt; rw [hf] at this; exact this
        obtain ⟨b', off', B, c2, hA, n1, e0, e1, hxc, hcm, hI⟩ := (HI.out.step (step b1.out hb)).at_ hlt hf
        injection hA with hA
        injection hA with hA1 hA2
        subst hA1 hA2
        have k0 := cell_regrown e0
        have k1 := cell_regrown e1
        have HX := Lib.hid hI
        have hk1 : (k : Int) < (l.length : Int) := by omega
        generalize hq : cmpF r2 ys r xs = q
        have HQ := Lib.hid hq
        clear hI hf hq e0 e1
        have X1 := Lib.hid fun (W : World) (hW : Below wr.heap.size wr W) => (show Calls Try.prog 25 #[.agg #[.int .i64 r2, .slice B ys.length c2], .agg #[.int .i64 r, .slice A' xs.length c']] W fun e w' => e = .returned (.int .i64 q) ∧ Below W.heap.size W w' by have := impl_CompareFacts r2 r ys xs B A' c2 c' (by omega) (by omega) W (HX.out.step hW) (HY.out.step hW); rw [HQ.out] at this; exact this)
        have dk : decide (k < l.length) = true := by simpa using hlt
        have dk2 : decide ((k : Int) < (l.length : Int)) = true := by simp; omega
        have hck : ¬ c = k := by omega
        by_cases hs : q < 0
        · have HL := Lib.hid (show ltAt l r xs k by unfold ltAt; rw [HF.out]; show cmpF r2 ys r xs < 0; rw [HQ.out]; exact hs)
          have dq : decide (q < 0) = true := by simpa using hs
          go_wp2
          refine wp_region_quiet_below (by kernel_rfl) (by kernel_rfl) ?_
          repeat (go_big_quiet_step (first | (go_at_call 25; with_reducible exact Calls.regrown_of (X1.out _ (below_regrown _ _ _)))))
          refine wpQuiet_nil ?_
          intro u1 hw'
          have hb2 : Below u.heap.size u u1 := step hb (show Below wr.heap.size wr u1 by obtain ⟨⟨dq, osq⟩, rfl⟩ := hw'; exact below_regrown _ _ _)
          clear hw' k0 k1 k2 k3 g0 g1 dk dk2
          go_wp2
          go_roundw
          case rel => exact ⟨k + 1, by omega, by go_num, fun j hj => by
            by_cases e : j = k
            · subst e; exact HL.out
            · exact HA.out j (by omega), hb2⟩
          case measure => simp [intOf]; omega
        · have HE := Lib.hid (show k < l.length → ¬ ltAt l r xs k from fun _ => by unfold ltAt; rw [HF.out]; show ¬ cmpF r2 ys r xs < 0; rw [HQ.out]; exact hs)
          have dq : decide (q < 0) = false := by simpa using hs
          go_wp2
          refine wp_region_quiet_below (by kernel_rfl) (by kernel_rfl) ?_
          repeat (go_big_quiet_step (first | (go_at_call 25; with_reducible exact Calls.regrown_of (X1.out _ (below_regrown _ _ _)))))
          refine wpQuiet_nil ?_
          intro u1 hw'
          have hb2 : Below u.heap.size u u1 := step hb (show Below wr.heap.size wr u1 by obtain ⟨⟨dq, osq⟩, rfl⟩ := hw'; exact below_regrown _ _ _)
          have TB := step b1.out hb2
          clear hw' k0 k1 k2 k3 g0 g1 dk dk2 gn dq hs
          go_wp2
          have htl : (l.take k).length = k := by rw [List.length_take]; omega
          have HTL := Lib.hid htl
          have HIu := Lib.hid (HI.out.step TB)
          have HYu := Lib.hid (HJ.out.step TB)
          have Zu := Lib.hid (X0.out.step hb2)
          have g0 := Zu.out.cell 0
          have g1 := Zu.out.cell 1
          have gn := Zu.out.lt
          simp only [List.getElem?_toArray, List.getElem?_cons_zero, List.getElem?_cons_succ] at g0 g1
          have hkc : (k : Int) ≤ (c : Int) := by omega
          have hkn : (k : Int) ≤ (l.length : Int) := by omega
          have hkn' : k ≤ l.length := by omega
          have hkc' : k ≤ c := by omega
          have AI := Lib.hid (show addI l r xs = (l.take k ++ [(r, xs)]) ++ l.drop k by rw [addI_at l r xs k hkn' HA.out HE.out]; simp)
          clear htl
          have tok1 : True := trivial
          go_region_held3 (fun w' => w'.cell? ⟨w.heap.size, 0, none⟩ = some (.int .i64 r) ∧ w'.cell? ⟨w.heap.size, 1, none⟩ = some (.slice A' xs.length c'))
            (first
              | go_keep
              | (go_split_ands; refine ⟨?_, ?_⟩ <;> (rw [d1.cell (by (try simp) <;> omega)]; assumption))
              | (go_split_ands; refine ⟨?_, ?_⟩ <;> (rw [d2.cell (by (try simp) <;> omega)]; assumption))
              | (go_split_ands; refine ⟨?_, ?_⟩ <;> (rw [d3.cell (by (try simp) <;> omega)]; first | assumption | go_keep)))
            (first
              | (go_at_call 44
                 clear tok1
                 refine (copyFacts_n (some ⟨b, off, none⟩) c k (l.take k) HTL.out (by have := szF_take l k; omega) _ (by first | exact HIu.out.take k | exact (HIu.out.take k).step (below_drew _))).mono ?_
                 rintro e v1 ⟨rfl, ⟨cs1, bs1, ho1⟩, d1⟩
                 have b1' : Below u1.heap.size u1 v1 := by first | exact d1 | exact und d1
                 have HO1 := Lib.hid (show OwnC v1 u1.heap.size v1.heap.size (.slice (some ⟨u1.heap.size, 0, none⟩) k k) (l.take k) cs1 bs1 from ho1)
                 have n1 := b1'.size
                 clear ho1)
              | (go_at_call 45
                 refine (copyFact_any r A' c' xs hl2 _ (by first | exact HYu.out.step b1' | exact (HYu.out.step b1').step (below_drew _))).mono ?_
                 rintro e v2 ⟨A2, c2, q2, rfl, hv2, d2⟩
                 have b2' : Below v1.heap.size v1 v2 := by first | exact d2 | exact und d2
                 have HO2 := Lib.hid ((HO1.out.cur (Nat.le_refl _) b2').cur b2'.size (below_alloc v2 (.cells #[.int .i64 r, .slice A2 xs.length c2] 30)))
                 have HV2 := Lib.hid (show OwnV (v2.alloc (.cells #[.int .i64 r, .slice A2 xs.length c2] 30)) v1.heap.size (v2.alloc (.cells #[.int .i64 r, .slice A2 xs.length c2] 30)).heap.size (.slice A2 xs.length c2) q2 xs from OwnV.step (show OwnV v2 v1.heap.size v2.heap.size (.slice A2 xs.length c2) q2 xs from hv2) (below_alloc v2 (.cells #[.int .i64 r, .slice A2 xs.length c2] 30)))
                 have n2 := b2'.size
                 clear hv2)
              | (refine step_append_lies _ (by rfl) _ _ _ (by rfl) u1.heap.size 30 i0 _ 2 32 Try.underlying37 hi hz0 hz1 hz2 rfl (by omega) (.slice (some ⟨u1.heap.size, 0, none⟩) k k) (l.take k).length cs1 (by rfl) (by first | exact HO2.out.1 | exact HO2.out.1.drew)
                   ⟨v2.heap.size, 0, none⟩ 1 1 [.int .i64 r, .slice A2 xs.length c2] (by rfl) (by rfl) (World.news_of_block (cs := #[.int .i64 r, .slice A2 xs.length c2]) (t := 30) (fr := (0, 0)) (heap_alloc_new v2 _)) (by simp [Value.oneCell']) (by omega) (by rw [HTL.out]; unfold maxLen; omega) (by rw [HTL.out]; omega) (by (try simp) <;> omega) (v2.heap.size + 1) (by simp) ?_
                 intro g3 cap3 v3 hown3 hgrow3 hat3 hlt3
                 have hg3 : (v2.alloc (.cells #[.int .i64 r, .slice A2 xs.length c2] 30)).grownBy v3 (Value.slice (some ⟨u1.heap.size, 0, none⟩) k k).ownBlock := ⟨hgrow3.os, hgrow3.tape, hgrow3.output, hgrow3.size, hgrow3.block⟩
                 have d3 : Below u1.heap.size (v2.alloc (.cells #[.int .i64 r, .slice A2 xs.length c2] 30)) v3 := (Below.refl _ _).grown hg3 (by (try simp) <;> omega) (fun q hq => (HO2.out.1.lt q hq).1)
                 obtain ⟨bs3, ho3⟩ := own_append HO2.out (Items.one HV2.out) n1 (by (try simp) <;> omega) hown3 hg3
                 have HO3 := Lib.hid (show OwnC v3 u1.heap.size v3.heap.size (.slice (some ⟨g3, 0, none⟩) (k + 1) cap3) (l.take k ++ [(r, xs)]) (cs1 ++ [.int .i64 r, .slice A2 xs.length c2]) bs3 by rw [HTL.out] at ho3; exact ho3)
                 have b3' : Below u1.heap.size u1 v3 := (step b1' (step b2' (below_alloc v2 (.cells #[.int .i64 r, .slice A2 xs.length c2] 30)))).trans d3
                 have n3 : v2.heap.size + 1 ≤ v3.heap.size := by have := d3.size; rwa [al_size] at this
                 clear hown3 hgrow3 hat3 ho3))
          have HB3 := Lib.hid (show Below w.heap.size w v3 from step TB b3')
          have HI3 := Lib.hid (HIu.out.step b3')
          have HLD := Lib.hid (show (l.drop k).length = (l.length - k) from by first | exact List.length_drop | (rw [List.length_drop]; omega))
          have HLF := Lib.hid (show (l.take k ++ [(r, xs)]).length = k + 1 by rw [List.length_append, HTL.out]; rfl)
          clear hg3 hlt3
          go_wp2_with fail
          refine (copyFacts_n (some ⟨b, off + k * 2, none⟩) (c - k) (l.length - k) (l.drop k) HLD.out (by have := szF_drop l k; omega) _ (by first | exact HI3.out.drop k | exact (HI3.out.drop k).step (below_drew _))).mono ?_
          rintro e v4 ⟨rfl, ⟨cs4, bs4, ho4⟩, d4⟩
          have b4' : Below v3.heap.size v3 v4 := by first | exact d4 | exact und d4
          have HO4 := Lib.hid (show OwnC v4 v3.heap.size v4.heap.size (.slice (some ⟨v3.heap.size, 0, none⟩) (l.length - k) (l.length - k)) (l.drop k) cs4 bs4 from ho4)
          have HO5 := Lib.hid (HO3.out.cur (Nat.le_refl _) b4')
          have n4 := b4'.size
          have HSRC := Lib.hid (show ∀ j x, cs4[j]? = some x → v4.cell? ((⟨v3.heap.size, 0, none⟩ : Addr).add j) = some x from HO4.out.1.cells (g := v3.heap.size) rfl)
          have HONE := Lib.hid (items_one HO4.out.2)
          have HCL := Lib.hid (show cs4.length = (l.length - k) * 2 by rw [HO4.out.2.1, HLD.out])
          clear ho4
          go_wp2_with (at_builtin; refine wpList_append_own_at v4 rfl _ _ 37 rfl u1.heap.size 30 i0 _ 2 32 Try.underlying37 hi hz0 hz1 hz2 rfl (by omega) (.slice (some ⟨g3, 0, none⟩) (k + 1) cap3) (l.take k ++ [(r, xs)]).length _ rfl HO5.out.1 ⟨v3.heap.size, 0, none⟩ (l.length - k) (l.length - k) cs4 rfl HCL.out HSRC.out HONE.out (by rw [HLF.out]; unfold maxLen; omega) (by rw [HLF.out]; omega) (by omega) ?_; intro v5 w5 hown5 hgrow5 _ _
                       obtain ⟨bs5, ho5⟩ := own_append HO5.out HO4.out.2 (by omega) n4 (by rw [HLD.out]; exact hown5) hgrow5
                       have HG5 := Lib.hid (show Below u1.heap.size v4 w5 from (Below.refl _ _).grown hgrow5 (by omega) (fun q hq => (HO5.out.1.lt q hq).1))
                       obtain ⟨A5, c5, hv5⟩ := ho5.form
                       rw [← AI.out] at hv5
                       subst hv5
                       have HO6 := Lib.hid ho5
                       clear hown5 hgrow5 ho5)
          go_ret
          refine ⟨A5, c5, (cs1 ++ [.int .i64 r, .slice A2 xs.length c2]) ++ cs4, bs5, rfl, ?_, ?_⟩
          · have := HO6.out
            rw [← AI.out] at this
            exact OwnC.lo this (by have := TB.size; omega)
          · exact (step HB3.out b4').trans (HG5.out.mono (by have := TB.size; omega))
      · have dk : decide (k < l.length) = false := by simpa using hlt
        have dk2 : decide ((k : Int) < (l.length : Int)) = false := by simp; omega
        have HE := Lib.hid (show k < l.length → ¬ ltAt l r xs k from fun h => absurd h hlt)
        by_cases hck : c = k
        · have hcn : c = l.length := by omega
          have HCN := Lib.hid hcn
          obtain rfl : k = c := hck.symm
          clear hcn
          go_wp2
          refine wp_region_quiet_below (by kernel_rfl) (by kernel_rfl) ?_
          repeat (go_big_quiet_step (fail))
          refine wpQuiet_nil ?_
          intro u1 hw'
          have hb2 : Below u.heap.size u u1 := step hb (show Below wr.heap.size wr u1 by obtain ⟨⟨dq, osq⟩, rfl⟩ := hw'; exact below_regrown _ _ _)
          have TB := step b1.out hb2
          clear hw' k2 k3 g0 g1 dk dk2 gn
          go_wp2
          have htl : (l.take k).length = k := by rw [List.length_take]; omega
          have HTL := Lib.hid htl
          have HIu := Lib.hid (HI.out.step TB)
          have HYu := Lib.hid (HJ.out.step TB)
          have Zu := Lib.hid (X0.out.step hb2)
          have g0 := Zu.out.cell 0
          have g1 := Zu.out.cell 1
          have gn := Zu.out.lt
          simp only [List.getElem?_toArray, List.getElem?_cons_zero, List.getElem?_cons_succ] at g0 g1
          have hkc : (k : Int) ≤ (k : Int) := by omega
          have hkn : (k : Int) ≤ (l.length : Int) := by omega
          have hkn' : k ≤ l.length := by omega
          have hkc' : k ≤ k := by omega
          have AI := Lib.hid (show addI l r xs = (l.take k ++ [(r, xs)]) ++ l.drop k by rw [addI_at l r xs k hkn' HA.out HE.out]; simp)
          clear htl
          have tok1 : True := trivial
          go_region_held3 (fun w' => w'.cell? ⟨w.heap.size, 0, none⟩ = some (.int .i64 r) ∧ w'.cell? ⟨w.heap.size, 1, none⟩ = some (.slice A' xs.length c'))
            (first
              | go_keep
              | (go_split_ands; refine ⟨?_, ?_⟩ <;> (rw [d1.cell (by (try simp) <;> omega)]; assumption))
              | (go_split_ands; refine ⟨?_, ?_⟩ <;> (rw [d2.cell (by (try simp) <;> omega)]; assumption))
              | (go_split_ands; refine ⟨?_, ?_⟩ <;> (rw [d3.cell (by (try simp) <;> omega)]; first | assumption | go_keep)))
            (first
              | (go_at_call 44
                 clear tok1
                 refine (copyFacts_n (some ⟨b, off, none⟩) k k (l.take k) HTL.out (by have := szF_take l k; omega) _ (by first | exact HIu.out.take k | exact (HIu.out.take k).step (below_drew _))).mono ?_
                 rintro e v1 ⟨rfl, ⟨cs1, bs1, ho1⟩, d1⟩
                 have b1' : Below u1.heap.size u1 v1 := by first | exact d1 | exact und d1
                 have HO1 := Lib.hid (show OwnC v1 u1.heap.size v1.heap.size (.slice (some ⟨u1.heap.size, 0, none⟩) k k) (l.take k) cs1 bs1 from ho1)
                 have n1 := b1'.size
                 clear ho1)
              | (go_at_call 45
                 refine (copyFact_any r A' c' xs hl2 _ (by first | exact HYu.out.step b1' | exact (HYu.out.step b1').step (below_drew _))).mono ?_
                 rintro e v2 ⟨A2, c2, q2, rfl, hv2, d2⟩
                 have b2' : Below v1.heap.size v1 v2 := by first | exact d2 | exact und d2
                 have HO2 := Lib.hid ((HO1.out.cur (Nat.le_refl _) b2').cur b2'.size (below_alloc v2 (.cells #[.int .i64 r, .slice A2 xs.length c2] 30)))
                 have HV2 := Lib.hid (show OwnV (v2.alloc (.cells #[.int .i64 r, .slice A2 xs.length c2] 30)) v1.heap.size (v2.alloc (.cells #[.int .i64 r, .slice A2 xs.length c2] 30)).heap.size (.slice A2 xs.length c2) q2 xs from OwnV.step (show OwnV v2 v1.heap.size v2.heap.size (.slice A2 xs.length c2) q2 xs from hv2) (below_alloc v2 (.cells #[.int .i64 r, .slice A2 xs.length c2] 30)))
                 have n2 := b2'.size
                 clear hv2)
              | (refine step_append_lies _ (by rfl) _ _ _ (by rfl) u1.heap.size 30 i0 _ 2 32 Try.underlying37 hi hz0 hz1 hz2 rfl (by omega) (.slice (some ⟨u1.heap.size, 0, none⟩) k k) (l.take k).length cs1 (by rfl) (by first | exact HO2.out.1 | exact HO2.out.1.drew)
                   ⟨v2.heap.size, 0, none⟩ 1 1 [.int .i64 r, .slice A2 xs.length c2] (by rfl) (by rfl) (World.news_of_block (cs := #[.int .i64 r, .slice A2 xs.length c2]) (t := 30) (fr := (0, 0)) (heap_alloc_new v2 _)) (by simp [Value.oneCell']) (by omega) (by rw [HTL.out]; unfold maxLen; omega) (by rw [HTL.out]; omega) (by (try simp) <;> omega) (v2.heap.size + 1) (by simp) ?_
                 intro g3 cap3 v3 hown3 hgrow3 hat3 hlt3
                 have hg3 : (v2.alloc (.cells #[.int .i64 r, .slice A2 xs.length c2] 30)).grownBy v3 (Value.slice (some ⟨u1.heap.size, 0, none⟩) k k).ownBlock := ⟨hgrow3.os, hgrow3.tape, hgrow3.output, hgrow3.size, hgrow3.block⟩
                 have d3 : Below u1.heap.size (v2.alloc (.cells #[.int .i64 r, .slice A2 xs.length c2] 30)) v3 := (Below.refl _ _).grown hg3 (by (try simp) <;> omega) (fun q hq => (HO2.out.1.lt q hq).1)
                 obtain ⟨bs3, ho3⟩ := own_append HO2.out (Items.one HV2.out) n1 (by (try simp) <;> omega) hown3 hg3
                 have HO3 := Lib.hid (show OwnC v3 u1.heap.size v3.heap.size (.slice (some ⟨g3, 0, none⟩) (k + 1) cap3) (l.take k ++ [(r, xs)]) (cs1 ++ [.int .i64 r, .slice A2 xs.length c2]) bs3 by rw [HTL.out] at ho3; exact ho3)
                 have b3' : Below u1.heap.size u1 v3 := (step b1' (step b2' (below_alloc v2 (.cells #[.int .i64 r, .slice A2 xs.length c2] 30)))).trans d3
                 have n3 : v2.heap.size + 1 ≤ v3.heap.size := by have := d3.size; rwa [al_size] at this
                 clear hown3 hgrow3 hat3 ho3))
          have HB3 := Lib.hid (show Below w.heap.size w v3 from step TB b3')
          have HI3 := Lib.hid (HIu.out.step b3')
          have HLD := Lib.hid (show (l.drop k).length = 0 from by first | exact List.length_drop | (rw [List.length_drop]; omega))
          have HLF := Lib.hid (show (l.take k ++ [(r, xs)]).length = k + 1 by rw [List.length_append, HTL.out]; rfl)
          clear hg3 hlt3
          go_wp2_with fail
          refine (copyFacts_n (some ⟨b, off, none⟩) 0 0 (l.drop k) HLD.out (by have := szF_drop l k; omega) _ (by first | exact (show RF v3 (some ⟨b, off, none⟩) (l.drop k) by rw [show l.drop k = [] from List.drop_eq_nil_of_le (by have := HCN.out; omega)]; exact RF.empty _ _) | exact ((show RF v3 (some ⟨b, off, none⟩) (l.drop k) by rw [show l.drop k = [] from List.drop_eq_nil_of_le (by have := HCN.out; omega)]; exact RF.empty _ _)).step (below_drew _))).mono ?_
          rintro e v4 ⟨rfl, ⟨cs4, bs4, ho4⟩, d4⟩
          have b4' : Below v3.heap.size v3 v4 := by first | exact d4 | exact und d4
          have HO4 := Lib.hid (show OwnC v4 v3.heap.size v4.heap.size (.slice (some ⟨v3.heap.size, 0, none⟩) 0 0) (l.drop k) cs4 bs4 from ho4)
          have HO5 := Lib.hid (HO3.out.cur (Nat.le_refl _) b4')
          have n4 := b4'.size
          have HSRC := Lib.hid (show ∀ j x, cs4[j]? = some x → v4.cell? ((⟨v3.heap.size, 0, none⟩ : Addr).add j) = some x from HO4.out.1.cells (g := v3.heap.size) rfl)
          have HONE := Lib.hid (items_one HO4.out.2)
          have HCL := Lib.hid (show cs4.length = 0 * 2 by rw [HO4.out.2.1, HLD.out])
          clear ho4
          go_wp2_with (at_builtin; refine wpList_append_own_at v4 rfl _ _ 37 rfl u1.heap.size 30 i0 _ 2 32 Try.underlying37 hi hz0 hz1 hz2 rfl (by omega) (.slice (some ⟨g3, 0, none⟩) (k + 1) cap3) (l.take k ++ [(r, xs)]).length _ rfl HO5.out.1 ⟨v3.heap.size, 0, none⟩ 0 0 cs4 rfl HCL.out HSRC.out HONE.out (by rw [HLF.out]; unfold maxLen; omega) (by rw [HLF.out]; omega) (by omega) ?_; intro v5 w5 hown5 hgrow5 _ _
                       obtain ⟨bs5, ho5⟩ := own_append HO5.out HO4.out.2 (by omega) n4 (by rw [HLD.out]; exact hown5) hgrow5
                       have HG5 := Lib.hid (show Below u1.heap.size v4 w5 from (Below.refl _ _).grown hgrow5 (by omega) (fun q hq => (HO5.out.1.lt q hq).1))
                       obtain ⟨A5, c5, hv5⟩ := ho5.form
                       rw [← AI.out] at hv5
                       subst hv5
                       have HO6 := Lib.hid ho5
                       clear hown5 hgrow5 ho5)
          go_ret
          refine ⟨A5, c5, (cs1 ++ [.int .i64 r, .slice A2 xs.length c2]) ++ cs4, bs5, rfl, ?_, ?_⟩
          · have := HO6.out
            rw [← AI.out] at this
            exact OwnC.lo this (by have := TB.size; omega)
          · exact (step HB3.out b4').trans (HG5.out.mono (by have := TB.size; omega))
        · go_wp2
          refine wp_region_quiet_below (by kernel_rfl) (by kernel_rfl) ?_
          repeat (go_big_quiet_step (fail))
          refine wpQuiet_nil ?_
          intro u1 hw'
          have hb2 : Below u.heap.size u u1 := step hb (show Below wr.heap.size wr u1 by obtain ⟨⟨dq, osq⟩, rfl⟩ := hw'; exact below_regrown _ _ _)
          have TB := step b1.out hb2
          clear hw' k2 k3 g0 g1 dk dk2 gn
          go_wp2
          have htl : (l.take k).length = k := by rw [List.length_take]; omega
          have HTL := Lib.hid htl
          have HIu := Lib.hid (HI.out.step TB)
          have HYu := Lib.hid (HJ.out.step TB)
          have Zu := Lib.hid (X0.out.step hb2)
          have g0 := Zu.out.cell 0
          have g1 := Zu.out.cell 1
          have gn := Zu.out.lt
          simp only [List.getElem?_toArray, List.getElem?_cons_zero, List.getElem?_cons_succ] at g0 g1
          have hkc : (k : Int) ≤ (c : Int) := by omega
          have hkn : (k : Int) ≤ (l.length : Int) := by omega
          have hkn' : k ≤ l.length := by omega
          have hkc' : k ≤ c := by omega
          have AI := Lib.hid (show addI l r xs = (l.take k ++ [(r, xs)]) ++ l.drop k by rw [addI_at l r xs k hkn' HA.out HE.out]; simp)
          clear htl
          have tok1 : True := trivial
          go_region_held3 (fun w' => w'.cell? ⟨w.heap.size, 0, none⟩ = some (.int .i64 r) ∧ w'.cell? ⟨w.heap.size, 1, none⟩ = some (.slice A' xs.length c'))
            (first
              | go_keep
              | (go_split_ands; refine ⟨?_, ?_⟩ <;> (rw [d1.cell (by (try simp) <;> omega)]; assumption))
              | (go_split_ands; refine ⟨?_, ?_⟩ <;> (rw [d2.cell (by (try simp) <;> omega)]; assumption))
              | (go_split_ands; refine ⟨?_, ?_⟩ <;> (rw [d3.cell (by (try simp) <;> omega)]; first | assumption | go_keep)))
            (first
              | (go_at_call 44
                 clear tok1
                 refine (copyFacts_n (some ⟨b, off, none⟩) c k (l.take k) HTL.out (by have := szF_take l k; omega) _ (by first | exact HIu.out.take k | exact (HIu.out.take k).step (below_drew _))).mono ?_
                 rintro e v1 ⟨rfl, ⟨cs1, bs1, ho1⟩, d1⟩
                 have b1' : Below u1.heap.size u1 v1 := by first | exact d1 | exact und d1
                 have HO1 := Lib.hid (show OwnC v1 u1.heap.size v1.heap.size (.slice (some ⟨u1.heap.size, 0, none⟩) k k) (l.take k) cs1 bs1 from ho1)
                 have n1 := b1'.size
                 clear ho1)
              | (go_at_call 45
                 refine (copyFact_any r A' c' xs hl2 _ (by first | exact HYu.out.step b1' | exact (HYu.out.step b1').step (below_drew _))).mono ?_
                 rintro e v2 ⟨A2, c2, q2, rfl, hv2, d2⟩
                 have b2' : Below v1.heap.size v1 v2 := by first | exact d2 | exact und d2
                 have HO2 := Lib.hid ((HO1.out.cur (Nat.le_refl _) b2').cur b2'.size (below_alloc v2 (.cells #[.int .i64 r, .slice A2 xs.length c2] 30)))
                 have HV2 := Lib.hid (show OwnV (v2.alloc (.cells #[.int .i64 r, .slice A2 xs.length c2] 30)) v1.heap.size (v2.alloc (.cells #[.int .i64 r, .slice A2 xs.length c2] 30)).heap.size (.slice A2 xs.length c2) q2 xs from OwnV.step (show OwnV v2 v1.heap.size v2.heap.size (.slice A2 xs.length c2) q2 xs from hv2) (below_alloc v2 (.cells #[.int .i64 r, .slice A2 xs.length c2] 30)))
                 have n2 := b2'.size
                 clear hv2)
              | (refine step_append_lies _ (by rfl) _ _ _ (by rfl) u1.heap.size 30 i0 _ 2 32 Try.underlying37 hi hz0 hz1 hz2 rfl (by omega) (.slice (some ⟨u1.heap.size, 0, none⟩) k k) (l.take k).length cs1 (by rfl) (by first | exact HO2.out.1 | exact HO2.out.1.drew)
                   ⟨v2.heap.size, 0, none⟩ 1 1 [.int .i64 r, .slice A2 xs.length c2] (by rfl) (by rfl) (World.news_of_block (cs := #[.int .i64 r, .slice A2 xs.length c2]) (t := 30) (fr := (0, 0)) (heap_alloc_new v2 _)) (by simp [Value.oneCell']) (by omega) (by rw [HTL.out]; unfold maxLen; omega) (by rw [HTL.out]; omega) (by (try simp) <;> omega) (v2.heap.size + 1) (by simp) ?_
                 intro g3 cap3 v3 hown3 hgrow3 hat3 hlt3
                 have hg3 : (v2.alloc (.cells #[.int .i64 r, .slice A2 xs.length c2] 30)).grownBy v3 (Value.slice (some ⟨u1.heap.size, 0, none⟩) k k).ownBlock := ⟨hgrow3.os, hgrow3.tape, hgrow3.output, hgrow3.size, hgrow3.block⟩
                 have d3 : Below u1.heap.size (v2.alloc (.cells #[.int .i64 r, .slice A2 xs.length c2] 30)) v3 := (Below.refl _ _).grown hg3 (by (try simp) <;> omega) (fun q hq => (HO2.out.1.lt q hq).1)
                 obtain ⟨bs3, ho3⟩ := own_append HO2.out (Items.one HV2.out) n1 (by (try simp) <;> omega) hown3 hg3
                 have HO3 := Lib.hid (show OwnC v3 u1.heap.size v3.heap.size (.slice (some ⟨g3, 0, none⟩) (k + 1) cap3) (l.take k ++ [(r, xs)]) (cs1 ++ [.int .i64 r, .slice A2 xs.length c2]) bs3 by rw [HTL.out] at ho3; exact ho3)
                 have b3' : Below u1.heap.size u1 v3 := (step b1' (step b2' (below_alloc v2 (.cells #[.int .i64 r, .slice A2 xs.length c2] 30)))).trans d3
                 have n3 : v2.heap.size + 1 ≤ v3.heap.size := by have := d3.size; rwa [al_size] at this
                 clear hown3 hgrow3 hat3 ho3))
          have HB3 := Lib.hid (show Below w.heap.size w v3 from step TB b3')
          have HI3 := Lib.hid (HIu.out.step b3')
          have HLD := Lib.hid (show (l.drop k).length = (l.length - k) from by first | exact List.length_drop | (rw [List.length_drop]; omega))
          have HLF := Lib.hid (show (l.take k ++ [(r, xs)]).length = k + 1 by rw [List.length_append, HTL.out]; rfl)
          clear hg3 hlt3
          go_wp2_with fail
          refine (copyFacts_n (some ⟨b, off + k * 2, none⟩) (c - k) (l.length - k) (l.drop k) HLD.out (by have := szF_drop l k; omega) _ (by first | exact HI3.out.drop k | exact (HI3.out.drop k).step (below_drew _))).mono ?_
          rintro e v4 ⟨rfl, ⟨cs4, bs4, ho4⟩, d4⟩
          have b4' : Below v3.heap.size v3 v4 := by first | exact d4 | exact und d4
          have HO4 := Lib.hid (show OwnC v4 v3.heap.size v4.heap.size (.slice (some ⟨v3.heap.size, 0, none⟩) (l.length - k) (l.length - k)) (l.drop k) cs4 bs4 from ho4)
          have HO5 := Lib.hid (HO3.out.cur (Nat.le_refl _) b4')
          have n4 := b4'.size
          have HSRC := Lib.hid (show ∀ j x, cs4[j]? = some x → v4.cell? ((⟨v3.heap.size, 0, none⟩ : Addr).add j) = some x from HO4.out.1.cells (g := v3.heap.size) rfl)
          have HONE := Lib.hid (items_one HO4.out.2)
          have HCL := Lib.hid (show cs4.length = (l.length - k) * 2 by rw [HO4.out.2.1, HLD.out])
          clear ho4
          go_wp2_with (at_builtin; refine wpList_append_own_at v4 rfl _ _ 37 rfl u1.heap.size 30 i0 _ 2 32 Try.underlying37 hi hz0 hz1 hz2 rfl (by omega) (.slice (some ⟨g3, 0, none⟩) (k + 1) cap3) (l.take k ++ [(r, xs)]).length _ rfl HO5.out.1 ⟨v3.heap.size, 0, none⟩ (l.length - k) (l.length - k) cs4 rfl HCL.out HSRC.out HONE.out (by rw [HLF.out]; unfold maxLen; omega) (by rw [HLF.out]; omega) (by omega) ?_; intro v5 w5 hown5 hgrow5 _ _
                       obtain ⟨bs5, ho5⟩ := own_append HO5.out HO4.out.2 (by omega) n4 (by rw [HLD.out]; exact hown5) hgrow5
                       have HG5 := Lib.hid (show Below u1.heap.size v4 w5 from (Below.refl _ _).grown hgrow5 (by omega) (fun q hq => (HO5.out.1.lt q hq).1))
                       obtain ⟨A5, c5, hv5⟩ := ho5.form
                       rw [← AI.out] at hv5
                       subst hv5
                       have HO6 := Lib.hid ho5
                       clear hown5 hgrow5 ho5)
          go_ret
          refine ⟨A5, c5, (cs1 ++ [.int .i64 r, .slice A2 xs.length c2]) ++ cs4, bs5, rfl, ?_, ?_⟩
          · have := HO6.out
            rw [← AI.out] at this
            exact OwnC.lo this (by have := TB.size; omega)
          · exact (step HB3.out b4').trans (HG5.out.mono (by have := TB.size; omega))
end Go.Proofs.Ytafibomclpeheaa
