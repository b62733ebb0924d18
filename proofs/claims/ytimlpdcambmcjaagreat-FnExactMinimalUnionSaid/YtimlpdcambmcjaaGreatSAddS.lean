/- What spec.AddFact answers. Conditions: none beyond each theorem's own. -/
import Derived.Test.YtimlpdcambmcjaaGreatS12

namespace Go.Proofs.YtimlpdcambmcjaaGreat
open Go.ChangeShapes Go.WideShapes Go.ChangeAt Go.RowKit Go.Sort
set_option linter.unusedVariables false
set_option linter.unusedSimpArgs false

/-- Where the model's loop stands. -/
def AddSt (l : FL) (r : Int) (xs : List Int) (k : Nat) (pb : Bool) (out : FL) : Prop :=
  (pb = true ∧ hasB l r xs = true ∧ out = l.take k) ∨ (pb = false ∧ hasB l r xs = false ∧ out = l.take k ∧ ∀ j, j < k → ltAt l r xs j) ∨
  (pb = true ∧ hasB l r xs = false ∧ ∃ p, p ≤ k ∧ addI l r xs = l.take p ++ (r, xs) :: l.drop p ∧ out = l.take p ++ (r, xs) :: (l.take k).drop p)
theorem AddSt.start (l : FL) (r : Int) (xs : List Int) : AddSt l r xs 0 (hasB l r xs) [] := by
  cases h : hasB l r xs
  · exact .inr (.inl ⟨rfl, h, rfl, fun j hj => by omega⟩)
  · exact .inl ⟨rfl, h, rfl⟩
theorem take_one (l : FL) (k : Nat) (hk : k < l.length) : l.take (k + 1) = l.take k ++ [l.getD k (0, [])] := by
  rw [List.take_succ_eq_append_getElem hk]
  simp [List.getD_eq_getElem?_getD, hk]
theorem AddSt.push {l : FL} {r : Int} {xs : List Int} {k : Nat} {pb : Bool} {out : FL} (h : AddSt l r xs k pb out) (hk : k < l.length) (hp : pb = true ∨ ltAt l r xs k) {f : Int × List Int} (hf : l.getD k (0, []) = f) : AddSt l r xs (k + 1) pb (out ++ [f]) := by
  subst hf
  rcases h with ⟨h1, h2, rfl⟩ | ⟨h1, h2, rfl, h3⟩ | ⟨h1, h2, p, hpk, h3, rfl⟩
  · exact .inl ⟨h1, h2, (take_one l k hk).symm⟩
  · refine .inr (.inl ⟨h1, h2, (take_one l k hk).symm, fun j hj => ?_⟩)
    by_cases e : j = k
    · subst e
      rcases hp with hp | hp
      · rw [h1] at hp; cases hp
      · exact hp
    · exact h3 j (by omega)
  · refine .inr (.inr ⟨h1, h2, p, by omega, h3, ?_⟩)
    rw [take_one l k hk, List.drop_append_of_le_length (by rw [List.length_take]; omega)]
    simp
theorem AddSt.place {l : FL} {r : Int} {xs : List Int} {k : Nat} {out : FL} (h : AddSt l r xs k false out) (hk : k < l.length) (hp : ¬ ltAt l r xs k) : AddSt l r xs k true (out ++ [(r, xs)]) := by
  rcases h with ⟨h1, _⟩ | ⟨h1, h2, rfl, h3⟩ | ⟨h1, _⟩
  · cases h1
  · refine .inr (.inr ⟨rfl, h2, k, Nat.le_refl _, addI_at l r xs k (by omega) h3 (fun _ => hp), ?_⟩)
    rw [List.drop_eq_nil_of_le (by rw [List.length_take]; omega)]
  · cases h1
theorem AddSt.done {l : FL} {r : Int} {xs : List Int} {out : FL} (h : AddSt l r xs l.length true out) : out = addF l r xs := by
  rcases h with ⟨_, h2, rfl⟩ | ⟨h1, _⟩ | ⟨_, h2, p, _, h3, rfl⟩
  · rw [addF_yes h2, List.take_length]
  · cases h1
  · rw [addF_no h2, h3, List.take_length]
theorem AddSt.last {l : FL} {r : Int} {xs : List Int} {out : FL} (h : AddSt l r xs l.length false out) : out ++ [(r, xs)] = addF l r xs := by
  rcases h with ⟨h1, _⟩ | ⟨_, h2, rfl, h3⟩ | ⟨h1, _⟩
  · cases h1
  · rw [addF_no h2, addI_at l r xs l.length (Nat.le_refl _) h3 (fun h => by omega), List.take_length, List.drop_length]
  · cases h1
theorem AddSt.has {l : FL} {r : Int} {xs : List Int} {k : Nat} {out : FL} (h : AddSt l r xs k false out) : hasB l r xs = false := by
  rcases h with ⟨h1, _⟩ | ⟨_, h2, _⟩ | ⟨h1, _⟩
  · cases h1
  · exact h2
  · cases h1
theorem AddSt.len {l : FL} {r : Int} {xs : List Int} {k : Nat} {pb : Bool} {out : FL} (h : AddSt l r xs k pb out) : out.length ≤ k + 1 := by
  rcases h with ⟨_, _, rfl⟩ | ⟨_, _, rfl, _⟩ | ⟨_, _, p, hp, _, rfl⟩
  · rw [List.length_take]; omega
  · rw [List.length_take]; omega
  · rw [List.length_append, List.length_cons, List.length_drop, List.length_take, List.length_take]; omega

set_option maxRecDepth 100000 in
set_option maxHeartbeats 4000000 in
theorem spec_AddFact (A : Option Addr) (c : Nat) (l : FL) (r : Int) (xs : List Int) (A' : Option Addr) (c' : Nat) (hz : szF l ≤ 1048576) (hl2 : xs.length ≤ 1048576) (w : World) (h : RF w A l) (h' : RI w A' xs) :
    Calls Tryz.prog 150 #[.slice A l.length c, .agg #[.int .i64 r, .slice A' xs.length c']] w (AddOut w (addF l r xs)) := by
  obtain ⟨i0, hi, hz0, hz1, hz2⟩ := info_parts fact_info
  have hl := szF_len hz
  have hl' : (l.length : Int) ≤ 1048576 := by omega
  have B0 := Lib.hid (step (below_alloc w (.cells #[.int .i64 r, .slice A' xs.length c'] 77)) (below_alloc _ (.cells #[] 77)))
  have HI := Lib.hid (h.step B0.out)
  have HJ := Lib.hid (h'.step B0.out)
  have X0 := Lib.hid ((Box.new w #[.int .i64 r, .slice A' xs.length c'] 77).step (below_alloc _ (.cells #[] 77)))
  have O0 := Lib.hid (show OwnC ((w.alloc (.cells #[.int .i64 r, .slice A' xs.length c'] 77)).alloc (.cells #[] 77)) (w.heap.size + 1) ((w.alloc (.cells #[.int .i64 r, .slice A' xs.length c'] 77)).alloc (.cells #[] 77)).heap.size (.slice (some ⟨w.heap.size + 1, 0, none⟩) 0 0) [] [] (fun _ => 0) from
    ⟨by have := World.ownsRow_lit (base := w.heap.size + 1) (e := 77) (size := 2) (w.alloc (.cells #[.int .i64 r, .slice A' xs.length c'] 77)) #[] 0 (by simp) (by unfold maxLen; omega) rfl; rw [al_size] at this; exact this, Items.nil _ _ _⟩)
  have H0 := Lib.hid h
  have J0 := Lib.hid h'
  clear h h'
  go_enter Tryz.func150, Tryz.ntmps150
  go_wp2_with fail
  refine (spec_HasFact _ c l r xs A' c' hz hl2 _ HI.out HJ.out).mono ?_
  rintro e u ⟨rfl, d⟩
  have D := Lib.hid d
  have Xu := Lib.hid (X0.out.step d)
  have Ou := Lib.hid (OwnC.step O0.out d)
  have TBu := Lib.hid (step B0.out d)
  have SZ := d.size
  simp at SZ
  clear d
  go_wp2
  go_loopw [5, 6, 7] (fun v p i wr => ∃ (k : Nat) (pb : Bool) (out : FL) (cs : List Value) (bs : Nat → Nat) (A2 : Option Addr) (c2 : Nat), k ≤ l.length ∧ i = .int .i64 k ∧ p = .bool pb ∧ v = .slice A2 out.length c2 ∧ OwnC wr (w.heap.size + 1) wr.heap.size (.slice A2 out.length c2) out cs bs ∧ AddSt l r xs k pb out ∧ Below (w.heap.size + 1) u wr) (fun _ _ i _ => l.length - (intOf i).toNat)
  case atStart => exact ⟨0, hasB l r xs, [], [], _, _, 0, by omega, rfl, rfl, rfl, Ou.out, AddSt.start l r xs, Below.refl _ _⟩
  case round =>
    obtain ⟨k, pb, out, cs, bs, A2, c2, hk, rfl, rfl, rfl, ho, hst, hb⟩ := hrel
    have TW := Lib.hid (TBu.out.trans (hb.mono (by omega)))
    have HO := Lib.hid ho
    have ST := Lib.hid hst
    have LW := Lib.hid (show w.heap.size + 1 ≤ wr.heap.size by have := hb.size; omega)
    have hlen := hst.len
    have Zw : Box wr w.heap.size #[.int .i64 r, .slice A' xs.length c'] 77 := (hb.block w.heap.size (by omega)).trans Xu.out
    have HZ := Lib.hid Zw
    clear ho hst
    by_cases hlt : k < l.length
    · generalize hf : l.getD k (0, []) = f
      obtain ⟨r2, ys⟩ := f
      have HF := Lib.hid hf
      have hyl : ys.length ≤ 1048576 := by have := szF_elem hz hlt; rw [hf] at this; exact this
      obtain ⟨b, off, B, c5, rfl, n1, E0, E1, hxc, hcm, hX⟩ := H0.out.at_ hlt hf
      have F0 := Lib.hid E0
      have F1 := Lib.hid E1
      have HX := Lib.hid hX
      have k0 := cell_regrown ((TW.out.cell (p := ⟨b, off + k * 2, none⟩) n1).trans E0)
      have k1 := cell_regrown ((TW.out.cell (p := ⟨b, off + k * 2 + 1, none⟩) n1).trans E1)
      have g0 := Zw.cell 0
      have g1 := Zw.cell 1
      simp only [List.getElem?_toArray, List.getElem?_cons_zero, List.getElem?_cons_succ] at g0 g1
      have k2 := cell_regrown g0
      have k3 := cell_regrown g1
      have hk0 : (0 : Int) ≤ (k : Int) := by omega
      have hk1 : (k : Int) < (l.length : Int) := by omega
      have AN := Lib.hid fun (h : hasB l r xs = false) => ltAt_anti h hlt
      rw [hf] at AN
      generalize hq : cmpF r xs r2 ys = q at AN
      have HQ := Lib.hid hq
      clear hX hf hq E0 E1 g0 g1 Zw
      have X1 := Lib.hid fun (W : World) (hW : Below wr.heap.size wr W) => (show Calls Tryz.prog 135 #[.agg #[.int .i64 r, .slice A' xs.length c'], .agg #[.int .i64 r2, .slice B ys.length c5]] W fun e w' => e = .returned (.int .i64 q) ∧ Below W.heap.size W w' by have := spec_CompareFacts r r2 xs ys A' B c' c5 (by omega) (by omega) W ((J0.out.step TW.out).step hW) ((HX.out.step TW.out).step hW); rw [HQ.out] at this; exact this)
      cases pb
      · by_cases hs : q < 0
        · have dq : decide (q < 0) = true := by simpa using hs
          have NL := Lib.hid (show ¬ ltAt l r xs k from fun h => (AN.out ST.out.has).1 h hs)
          clear hs
          obtain ⟨out2, ho2⟩ : ∃ o, o = out ++ [(r, xs)] := ⟨_, rfl⟩
          have HO2' := Lib.hid ho2
          have hlen2 : out2.length ≤ k + 2 := by rw [ho2, List.length_append]; simp; omega
          have SP := Lib.hid (AddSt.push (by rw [ho2]; exact ST.out.place hlt NL.out) hlt (.inl rfl) HF.out : AddSt l r xs (k + 1) true (out2 ++ [(r2, ys)]))
          clear ho2
          go_wp2
          refine wp_region_quiet_below (by kernel_rfl) (by kernel_rfl) ?_
          repeat (go_big_quiet_step (first | (go_at_call 135; with_reducible exact Calls.regrown_of (X1.out _ (below_regrown _ _ _)))))
          refine wpQuiet_nil ?_
          intro u1 hw'
          have b6 : Below wr.heap.size wr u1 := by obtain ⟨⟨dq, osq⟩, rfl⟩ := hw'; exact below_regrown _ _ _
          have O6 := Lib.hid (OwnC.step HO.out b6)
          have T6 := Lib.hid (hb.trans (b6.mono LW.out))
          have TW6 := Lib.hid (step TW.out b6)
          have LOW1 := Lib.hid (show w.heap.size + 1 ≤ u1.heap.size by have := LW.out; have := b6.size; omega)
          have n6 := LOW1.out
          clear hw' k0 k1 k2 k3
          clear dq
          have Zx := HZ.out.step b6
          have g0 := Zx.cell 0
          have g1 := Zx.cell 1
          simp only [List.getElem?_toArray, List.getElem?_cons_zero, List.getElem?_cons_succ] at g0 g1
          clear Zx
          go_wp2_with fail
          refine (l2One_any r A' c' xs hl2 _ (J0.out.step TW6.out)).mono ?_
          rintro e v7 ⟨A7, c7, q7, rfl, hv7, d7⟩
          have HO7 := Lib.hid ((OwnC.cur O6.out (Nat.le_refl _) d7).cur d7.size (below_alloc v7 (.cells #[.int .i64 r, .slice A7 xs.length c7] 77)))
          have HV7 := Lib.hid (OwnV.step (show OwnV v7 u1.heap.size v7.heap.size (.slice A7 xs.length c7) q7 xs from hv7) (below_alloc v7 (.cells #[.int .i64 r, .slice A7 xs.length c7] 77)))
          have n7 := d7.size
          have D7 := Lib.hid d7
          have E8 := Lib.hid (show out.length + 1 = out2.length from by rw [HO2'.out, List.length_append]; rfl)
          clear hv7 d7
          go_wp2_with (at_builtin; refine wpList_append_lies _ rfl _ _ 46 rfl (w.heap.size + 1) 77 i0 _ 2 32 Tryz.underlying46 hi hz0 hz1 hz2 rfl (by omega) (.slice A2 out.length c2) out.length cs rfl HO7.out.1 ⟨v7.heap.size, 0, none⟩ 1 1 [.int .i64 r, .slice A7 xs.length c7] rfl rfl (World.news_of_block (cs := #[.int .i64 r, .slice A7 xs.length c7]) (t := 77) (fr := (0, 0)) (heap_alloc_new v7 _)) (by simp [Value.oneCell']) (by omega) (by unfold maxLen; omega) (by omega) (by (try simp) <;> omega) (v7.heap.size + 1) (by simp) ?_; intro g8 cap8 v8 hown8 hgrow8 hat8 hlt8
                       have d8 : Below (w.heap.size + 1) (v7.alloc (.cells #[.int .i64 r, .slice A7 xs.length c7] 77)) v8 := (Below.refl _ _).grown hgrow8 (by (try simp) <;> omega) (fun q hq => (HO7.out.1.lt q hq).1)
                       obtain ⟨bs8, ho8⟩ := own_append HO7.out (Items.one HV7.out) LOW1.out (by (try simp) <;> omega) hown8 hgrow8
                       have O8 := Lib.hid ho8
                       have b8 := Lib.hid (((step D7.out (below_alloc v7 (.cells #[.int .i64 r, .slice A7 xs.length c7] 77))).mono LOW1.out).trans d8)
                       rw [E8.out]
                       clear hown8 hgrow8 hat8 ho8 d8)
          have LOW8 := Lib.hid (show w.heap.size + 1 ≤ v8.heap.size by have := b8.out.size; have := LOW1.out; omega)
          have n8 := LOW8.out
          clear hlt8
          have O9 := Lib.hid (show OwnC v8 (w.heap.size + 1) v8.heap.size (.slice (some ⟨g8, 0, none⟩) out2.length cap8) out2 (cs ++ [.int .i64 r, .slice A7 xs.length c7]) bs8 by
            have := O8.out
            rw [E8.out, ← HO2'.out] at this
            exact this)
          have T9 := Lib.hid (T6.out.trans b8.out)
          have TW9 := Lib.hid (TW6.out.trans (b8.out.mono (by omega)))
          have LOW2 := Lib.hid LOW8.out
          go_wp2
          have e0 := (TW9.out.cell (p := ⟨b, off + k * 2, none⟩) n1).trans F0.out
          have e1 := (TW9.out.cell (p := ⟨b, off + k * 2 + 1, none⟩) n1).trans F1.out
          have HX9 := Lib.hid (HX.out.step TW9.out)
          have tk2 : True := trivial
          go_region_held3 (fun w' => w'.cell? ⟨b, off + k * 2, none⟩ = some (.int .i64 r2) ∧ w'.cell? ⟨b, off + k * 2 + 1, none⟩ = some (.slice B ys.length c5))
            (first
              | go_keep
              | (go_split_ands; refine ⟨?_, ?_⟩ <;> (rw [d22.cell (by (try simp) <;> omega)]; assumption))
              | (go_split_ands; refine ⟨?_, ?_⟩ <;> (rw [d32.cell (by (try simp) <;> omega)]; first | assumption | go_keep)))
            (first
              | (go_at_call 172
                 clear tk2
                 refine (l2One_any r2 B c5 ys hyl _ (by first | exact HX9.out | exact HX9.out.step (below_drew _))).mono ?_
                 rintro e v22 ⟨A32, c32, q32, rfl, hv22, d22⟩
                 have b22 : Below v8.heap.size v8 v22 := by first | exact d22 | exact und d22
                 have HO22 := Lib.hid ((OwnC.cur O9.out (Nat.le_refl _) b22).cur b22.size (below_alloc v22 (.cells #[.int .i64 r2, .slice A32 ys.length c32] 77)))
                 have HV22 := Lib.hid (show OwnV (v22.alloc (.cells #[.int .i64 r2, .slice A32 ys.length c32] 77)) v8.heap.size (v22.alloc (.cells #[.int .i64 r2, .slice A32 ys.length c32] 77)).heap.size (.slice A32 ys.length c32) q32 ys from OwnV.step (show OwnV v22 v8.heap.size v22.heap.size (.slice A32 ys.length c32) q32 ys from hv22) (below_alloc v22 (.cells #[.int .i64 r2, .slice A32 ys.length c32] 77)))
                 have n22 := b22.size
                 clear hv22)
              | (refine step_append_lies _ (by rfl) _ _ _ (by rfl) (w.heap.size + 1) 77 i0 _ 2 32 Tryz.underlying46 hi hz0 hz1 hz2 rfl (by omega) (.slice (some ⟨g8, 0, none⟩) out2.length cap8) out2.length (cs ++ [.int .i64 r, .slice A7 xs.length c7]) (by rfl) (by first | exact HO22.out.1 | exact HO22.out.1.drew)
                   ⟨v22.heap.size, 0, none⟩ 1 1 [.int .i64 r2, .slice A32 ys.length c32] (by rfl) (by rfl) (World.news_of_block (cs := #[.int .i64 r2, .slice A32 ys.length c32]) (t := 77) (fr := (0, 0)) (heap_alloc_new v22 _)) (by simp [Value.oneCell']) (by omega) (by unfold maxLen; omega) (by omega) (by (try simp) <;> omega) (v22.heap.size + 1) (by simp) ?_
                 intro g32 cap32 v32 hown32 hgrow32 hat32 hlt32
                 have hg32 : (v22.alloc (.cells #[.int .i64 r2, .slice A32 ys.length c32] 77)).grownBy v32 (Value.slice (some ⟨g8, 0, none⟩) out2.length cap8).ownBlock := ⟨hgrow32.os, hgrow32.tape, hgrow32.output, hgrow32.size, hgrow32.block⟩
                 have d32 : Below (w.heap.size + 1) (v22.alloc (.cells #[.int .i64 r2, .slice A32 ys.length c32] 77)) v32 := (Below.refl _ _).grown hg32 (by (try simp) <;> omega) (fun q hq => (HO22.out.1.lt q hq).1)
                 obtain ⟨bs32, ho32⟩ := own_append HO22.out (Items.one HV22.out) LOW2.out (by (try simp) <;> omega) hown32 hg32
                 have HO32 := Lib.hid ho32
                 have b32 : Below (w.heap.size + 1) v8 v32 := ((step b22 (below_alloc v22 (.cells #[.int .i64 r2, .slice A32 ys.length c32] 77))).mono LOW2.out).trans d32
                 clear hown32 hgrow32 hat32 ho32))
          have TB32 := Lib.hid (T9.out.trans b32)
          clear hg32 hlt32
          go_wp2
          go_roundw
          case rel => exact ⟨k + 1, true, out2 ++ [(r2, ys)], _, bs32, _, _, by omega, by go_num, rfl, by rw [List.length_append]; rfl, by have := HO32.out; rw [List.length_append]; exact this, SP.out, TB32.out⟩
          case measure => simp [intOf]; omega
        · have dq : decide (q < 0) = false := by simpa using hs
          have SP := Lib.hid (ST.out.push hlt (.inr ((AN.out ST.out.has).2 hs)) HF.out)
          clear hs
          go_wp2
          refine wp_region_quiet_below (by kernel_rfl) (by kernel_rfl) ?_
          repeat (go_big_quiet_step (first | (go_at_call 135; with_reducible exact Calls.regrown_of (X1.out _ (below_regrown _ _ _)))))
          refine wpQuiet_nil ?_
          intro u1 hw'
          have b6 : Below wr.heap.size wr u1 := by obtain ⟨⟨dq, osq⟩, rfl⟩ := hw'; exact below_regrown _ _ _
          have O6 := Lib.hid (OwnC.step HO.out b6)
          have T6 := Lib.hid (hb.trans (b6.mono LW.out))
          have TW6 := Lib.hid (step TW.out b6)
          have LOW1 := Lib.hid (show w.heap.size + 1 ≤ u1.heap.size by have := LW.out; have := b6.size; omega)
          have n6 := LOW1.out
          clear hw' k0 k1 k2 k3
          clear dq
          go_wp2
          have e0 := (TW6.out.cell (p := ⟨b, off + k * 2, none⟩) n1).trans F0.out
          have e1 := (TW6.out.cell (p := ⟨b, off + k * 2 + 1, none⟩) n1).trans F1.out
          have HX6 := Lib.hid (HX.out.step TW6.out)
          have tk1 : True := trivial
          go_region_held3 (fun w' => w'.cell? ⟨b, off + k * 2, none⟩ = some (.int .i64 r2) ∧ w'.cell? ⟨b, off + k * 2 + 1, none⟩ = some (.slice B ys.length c5))
            (first
              | go_keep
              | (go_split_ands; refine ⟨?_, ?_⟩ <;> (rw [d21.cell (by (try simp) <;> omega)]; assumption))
              | (go_split_ands; refine ⟨?_, ?_⟩ <;> (rw [d31.cell (by (try simp) <;> omega)]; first | assumption | go_keep)))
            (first
              | (go_at_call 172
                 clear tk1
                 refine (l2One_any r2 B c5 ys hyl _ (by first | exact HX6.out | exact HX6.out.step (below_drew _))).mono ?_
                 rintro e v21 ⟨A31, c31, q31, rfl, hv21, d21⟩
                 have b21 : Below u1.heap.size u1 v21 := by first | exact d21 | exact und d21
                 have HO21 := Lib.hid ((OwnC.cur O6.out (Nat.le_refl _) b21).cur b21.size (below_alloc v21 (.cells #[.int .i64 r2, .slice A31 ys.length c31] 77)))
                 have HV21 := Lib.hid (show OwnV (v21.alloc (.cells #[.int .i64 r2, .slice A31 ys.length c31] 77)) u1.heap.size (v21.alloc (.cells #[.int .i64 r2, .slice A31 ys.length c31] 77)).heap.size (.slice A31 ys.length c31) q31 ys from OwnV.step (show OwnV v21 u1.heap.size v21.heap.size (.slice A31 ys.length c31) q31 ys from hv21) (below_alloc v21 (.cells #[.int .i64 r2, .slice A31 ys.length c31] 77)))
                 have n21 := b21.size
                 clear hv21)
              | (refine step_append_lies _ (by rfl) _ _ _ (by rfl) (w.heap.size + 1) 77 i0 _ 2 32 Tryz.underlying46 hi hz0 hz1 hz2 rfl (by omega) (.slice A2 out.length c2) out.length cs (by rfl) (by first | exact HO21.out.1 | exact HO21.out.1.drew)
                   ⟨v21.heap.size, 0, none⟩ 1 1 [.int .i64 r2, .slice A31 ys.length c31] (by rfl) (by rfl) (World.news_of_block (cs := #[.int .i64 r2, .slice A31 ys.length c31]) (t := 77) (fr := (0, 0)) (heap_alloc_new v21 _)) (by simp [Value.oneCell']) (by omega) (by unfold maxLen; omega) (by omega) (by (try simp) <;> omega) (v21.heap.size + 1) (by simp) ?_
                 intro g31 cap31 v31 hown31 hgrow31 hat31 hlt31
                 have hg31 : (v21.alloc (.cells #[.int .i64 r2, .slice A31 ys.length c31] 77)).grownBy v31 (Value.slice A2 out.length c2).ownBlock := ⟨hgrow31.os, hgrow31.tape, hgrow31.output, hgrow31.size, hgrow31.block⟩
                 have d31 : Below (w.heap.size + 1) (v21.alloc (.cells #[.int .i64 r2, .slice A31 ys.length c31] 77)) v31 := (Below.refl _ _).grown hg31 (by (try simp) <;> omega) (fun q hq => (HO21.out.1.lt q hq).1)
                 obtain ⟨bs31, ho31⟩ := own_append HO21.out (Items.one HV21.out) LOW1.out (by (try simp) <;> omega) hown31 hg31
                 have HO31 := Lib.hid ho31
                 have b31 : Below (w.heap.size + 1) u1 v31 := ((step b21 (below_alloc v21 (.cells #[.int .i64 r2, .slice A31 ys.length c31] 77))).mono LOW1.out).trans d31
                 clear hown31 hgrow31 hat31 ho31))
          have TB31 := Lib.hid (T6.out.trans b31)
          clear hg31 hlt31
          go_wp2
          go_roundw
          case rel => exact ⟨k + 1, false, out ++ [(r2, ys)], _, bs31, _, _, by omega, by go_num, rfl, by rw [List.length_append]; rfl, by have := HO31.out; rw [List.length_append]; exact this, SP.out, TB31.out⟩
          case measure => simp [intOf]; omega
      · have SP := Lib.hid (ST.out.push hlt (.inl rfl) HF.out)
        go_wp2
        refine wp_region_quiet_below (by kernel_rfl) (by kernel_rfl) ?_
        repeat (go_big_quiet_step (first | (go_at_call 135; with_reducible exact Calls.regrown_of (X1.out _ (below_regrown _ _ _)))))
        refine wpQuiet_nil ?_
        intro u1 hw'
        have b6 : Below wr.heap.size wr u1 := by obtain ⟨⟨dq, osq⟩, rfl⟩ := hw'; exact below_regrown _ _ _
        have O6 := Lib.hid (OwnC.step HO.out b6)
        have T6 := Lib.hid (hb.trans (b6.mono LW.out))
        have TW6 := Lib.hid (step TW.out b6)
        have LOW1 := Lib.hid (show w.heap.size + 1 ≤ u1.heap.size by have := LW.out; have := b6.size; omega)
        have n6 := LOW1.out
        clear hw' k0 k1 k2 k3
        go_wp2
        have e0 := (TW6.out.cell (p := ⟨b, off + k * 2, none⟩) n1).trans F0.out
        have e1 := (TW6.out.cell (p := ⟨b, off + k * 2 + 1, none⟩) n1).trans F1.out
        have HX6 := Lib.hid (HX.out.step TW6.out)
        have tk1 : True := trivial
        go_region_held3 (fun w' => w'.cell? ⟨b, off + k * 2, none⟩ = some (.int .i64 r2) ∧ w'.cell? ⟨b, off + k * 2 + 1, none⟩ = some (.slice B ys.length c5))
          (first
            | go_keep
            | (go_split_ands; refine ⟨?_, ?_⟩ <;> (rw [d21.cell (by (try simp) <;> omega)]; assumption))
            | (go_split_ands; refine ⟨?_, ?_⟩ <;> (rw [d31.cell (by (try simp) <;> omega)]; first | assumption | go_keep)))
          (first
            | (go_at_call 172
               clear tk1
               refine (l2One_any r2 B c5 ys hyl _ (by first | exact HX6.out | exact HX6.out.step (below_drew _))).mono ?_
               rintro e v21 ⟨A31, c31, q31, rfl, hv21, d21⟩
               have b21 : Below u1.heap.size u1 v21 := by first | exact d21 | exact und d21
               have HO21 := Lib.hid ((OwnC.cur O6.out (Nat.le_refl _) b21).cur b21.size (below_alloc v21 (.cells #[.int .i64 r2, .slice A31 ys.length c31] 77)))
               have HV21 := Lib.hid (show OwnV (v21.alloc (.cells #[.int .i64 r2, .slice A31 ys.length c31] 77)) u1.heap.size (v21.alloc (.cells #[.int .i64 r2, .slice A31 ys.length c31] 77)).heap.size (.slice A31 ys.length c31) q31 ys from OwnV.step (show OwnV v21 u1.heap.size v21.heap.size (.slice A31 ys.length c31) q31 ys from hv21) (below_alloc v21 (.cells #[.int .i64 r2, .slice A31 ys.length c31] 77)))
               have n21 := b21.size
               clear hv21)
            | (refine step_append_lies _ (by rfl) _ _ _ (by rfl) (w.heap.size + 1) 77 i0 _ 2 32 Tryz.underlying46 hi hz0 hz1 hz2 rfl (by omega) (.slice A2 out.length c2) out.length cs (by rfl) (by first | exact HO21.out.1 | exact HO21.out.1.drew)
                 ⟨v21.heap.size, 0, none⟩ 1 1 [.int .i64 r2, .slice A31 ys.length c31] (by rfl) (by rfl) (World.news_of_block (cs := #[.int .i64 r2, .slice A31 ys.length c31]) (t := 77) (fr := (0, 0)) (heap_alloc_new v21 _)) (by simp [Value.oneCell']) (by omega) (by unfold maxLen; omega) (by omega) (by (try simp) <;> omega) (v21.heap.size + 1) (by simp) ?_
               intro g31 cap31 v31 hown31 hgrow31 hat31 hlt31
               have hg31 : (v21.alloc (.cells #[.int .i64 r2, .slice A31 ys.length c31] 77)).grownBy v31 (Value.slice A2 out.length c2).ownBlock := ⟨hgrow31.os, hgrow31.tape, hgrow31.output, hgrow31.size, hgrow31.block⟩
               have d31 : Below (w.heap.size + 1) (v21.alloc (.cells #[.int .i64 r2, .slice A31 ys.length c31] 77)) v31 := (Below.refl _ _).grown hg31 (by (try simp) <;> omega) (fun q hq => (HO21.out.1.lt q hq).1)
               obtain ⟨bs31, ho31⟩ := own_append HO21.out (Items.one HV21.out) LOW1.out (by (try simp) <;> omega) hown31 hg31
               have HO31 := Lib.hid ho31
               have b31 : Below (w.heap.size + 1) u1 v31 := ((step b21 (below_alloc v21 (.cells #[.int .i64 r2, .slice A31 ys.length c31] 77))).mono LOW1.out).trans d31
               clear hown31 hgrow31 hat31 ho31))
        have TB31 := Lib.hid (T6.out.trans b31)
        clear hg31 hlt31
        go_wp2
        go_roundw
        case rel => exact ⟨k + 1, true, out ++ [(r2, ys)], _, bs31, _, _, by omega, by go_num, rfl, by rw [List.length_append]; rfl, by have := HO31.out; rw [List.length_append]; exact this, SP.out, TB31.out⟩
        case measure => simp [intOf]; omega
    · obtain rfl : k = l.length := by omega
      cases pb
      · have SL := Lib.hid ST.out.last
        have lw := LW.out
        have Zx := HZ.out
        have g0 := Zx.cell 0
        have g1 := Zx.cell 1
        simp only [List.getElem?_toArray, List.getElem?_cons_zero, List.getElem?_cons_succ] at g0 g1
        clear Zx
        go_wp2_with fail
        refine (l2One_any r A' c' xs hl2 _ (J0.out.step TW.out)).mono ?_
        rintro e v7 ⟨A7, c7, q7, rfl, hv7, d7⟩
        have HO7 := Lib.hid ((OwnC.cur HO.out (Nat.le_refl _) d7).cur d7.size (below_alloc v7 (.cells #[.int .i64 r, .slice A7 xs.length c7] 77)))
        have HV7 := Lib.hid (OwnV.step (show OwnV v7 wr.heap.size v7.heap.size (.slice A7 xs.length c7) q7 xs from hv7) (below_alloc v7 (.cells #[.int .i64 r, .slice A7 xs.length c7] 77)))
        have n7 := d7.size
        have D7 := Lib.hid d7
        have E8 := Lib.hid (show out.length + 1 = (addF l r xs).length from by rw [← SL.out, List.length_append]; rfl)
        clear hv7 d7
        go_wp2_with (at_builtin; refine wpList_append_lies _ rfl _ _ 46 rfl (w.heap.size + 1) 77 i0 _ 2 32 Tryz.underlying46 hi hz0 hz1 hz2 rfl (by omega) (.slice A2 out.length c2) out.length cs rfl HO7.out.1 ⟨v7.heap.size, 0, none⟩ 1 1 [.int .i64 r, .slice A7 xs.length c7] rfl rfl (World.news_of_block (cs := #[.int .i64 r, .slice A7 xs.length c7]) (t := 77) (fr := (0, 0)) (heap_alloc_new v7 _)) (by simp [Value.oneCell']) (by omega) (by unfold maxLen; omega) (by omega) (by (try simp) <;> omega) (v7.heap.size + 1) (by simp) ?_; intro g8 cap8 v8 hown8 hgrow8 hat8 hlt8
                     have d8 : Below (w.heap.size + 1) (v7.alloc (.cells #[.int .i64 r, .slice A7 xs.length c7] 77)) v8 := (Below.refl _ _).grown hgrow8 (by (try simp) <;> omega) (fun q hq => (HO7.out.1.lt q hq).1)
                     obtain ⟨bs8, ho8⟩ := own_append HO7.out (Items.one HV7.out) LW.out (by (try simp) <;> omega) hown8 hgrow8
                     have O8 := Lib.hid ho8
                     have b8 := Lib.hid (((step D7.out (below_alloc v7 (.cells #[.int .i64 r, .slice A7 xs.length c7] 77))).mono LW.out).trans d8)
                     rw [E8.out]
                     clear hown8 hgrow8 hat8 ho8 d8)
        have LOW8 := Lib.hid (show w.heap.size + 1 ≤ v8.heap.size by have := b8.out.size; have := LW.out; omega)
        have n8 := LOW8.out
        clear hlt8
        have O9 := Lib.hid (show OwnC v8 (w.heap.size + 1) v8.heap.size (.slice (some ⟨g8, 0, none⟩) (addF l r xs).length cap8) (addF l r xs) (cs ++ [.int .i64 r, .slice A7 xs.length c7]) bs8 by
          have := O8.out
          rw [E8.out, SL.out] at this
          exact this)
        go_ret
        exact ⟨_, _, _, _, rfl, O9.out.lo (by omega), TW.out.trans (b8.out.mono (by omega))⟩
      · obtain rfl := ST.out.done
        go_wp2
        go_ret
        exact ⟨_, _, _, _, rfl, HO.out.lo (by omega), TW.out⟩
end Go.Proofs.YtimlpdcambmcjaaGreat
