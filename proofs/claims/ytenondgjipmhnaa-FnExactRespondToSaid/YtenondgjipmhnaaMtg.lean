/- What the two functions that gather the matching facts answer. Conditions: none beyond each theorem's own. -/
import Derived.Test.YtenondgjipmhnaaMtf
namespace Go.Proofs.Ytenondgjipmhnaa
open Go.ChangeShapes Go.WideShapes Go.ChangeAt Go.RowKit Go.Sort
set_option linter.unusedVariables false
set_option linter.unusedSimpArgs false

theorem matF_yes {r : Int} {xs vs : List Int} {l : FL} {k : Nat} (hk : k < l.length) {r' : Int} {ys : List Int} (hf : l.getD k (0, []) = (r', ys)) (h : fitB r xs vs r' ys = true) {out : FL} (ho : out = matF r xs vs (l.take k)) : out ++ [(r', ys)] = matF r xs vs (l.take (k + 1)) := by
  rw [matF_step r xs vs l k hk hf, h, ho, if_pos rfl]
theorem matF_no {r : Int} {xs vs : List Int} {l : FL} {k : Nat} (hk : k < l.length) {r' : Int} {ys : List Int} (hf : l.getD k (0, []) = (r', ys)) (h : fitB r xs vs r' ys = false) {out : FL} (ho : out = matF r xs vs (l.take k)) : out = matF r xs vs (l.take (k + 1)) := by
  rw [matF_step r xs vs l k hk hf, h, ho, if_neg (by simp), List.append_nil]
theorem matF_lt {r : Int} {xs vs : List Int} {l : FL} {k : Nat} {out : FL} (ho : out = matF r xs vs (l.take k)) : out.length ≤ k := by
  rw [ho]
  refine Nat.le_trans (matF_len _ _ _ _) ?_
  rw [List.length_take]
  omega

set_option maxRecDepth 100000 in
set_option maxHeartbeats 4000000 in
theorem l5Matches_any (r : Int) (xs : List Int) (li co qu : Int) (A : Option Addr) (c : Nat) (vs : List Int) (V : Option Addr) (cv : Nat) (L : Option Addr) (cl : Nat) (l : FL) (hlx : xs.length ≤ 1048576) (hlv : vs.length = xs.length) (hz : szF l ≤ 1048576) (hok : ∀ k, k < l.length → fitOk r xs (l.getD k (0, [])).1 (l.getD k (0, [])).2)
    (w : World) (h : RI w A xs) (h2 : RI w V vs) (h3 : RF w L l) :
    Calls Try.prog 75 #[.agg #[.int .i64 r, .slice A xs.length c, .int .i64 li, .int .i64 co, .int .i64 qu], .slice V vs.length cv, .slice L l.length cl] w (AddOut w (matF r xs vs l)) := by
  obtain ⟨i0, hi, hz0, hz1, hz2⟩ := info_parts fact_info
  have hl := szF_len hz
  have hl' : (l.length : Int) ≤ 1048576 := by omega
  have bb := step (below_alloc w (.cells #[.int .i64 r, .slice A xs.length c, .int .i64 li, .int .i64 co, .int .i64 qu] 28)) (below_alloc _ (.cells #[] 98))
  have X0 := (Box.new w #[.int .i64 r, .slice A xs.length c, .int .i64 li, .int .i64 co, .int .i64 qu] 28).step (below_alloc _ (.cells #[] 98))
  have O0 := (show OwnC ((w.alloc (.cells #[.int .i64 r, .slice A xs.length c, .int .i64 li, .int .i64 co, .int .i64 qu] 28)).alloc (.cells #[] 98)) (w.heap.size + 1) ((w.alloc (.cells #[.int .i64 r, .slice A xs.length c, .int .i64 li, .int .i64 co, .int .i64 qu] 28)).alloc (.cells #[] 98)).heap.size (.slice (some ⟨w.heap.size + 1, 0, none⟩) 0 0) [] [] (fun _ => 0) from
    ⟨by have := World.ownsRow_lit (base := w.heap.size + 1) (e := 98) (size := 2) (w.alloc (.cells #[.int .i64 r, .slice A xs.length c, .int .i64 li, .int .i64 co, .int .i64 qu] 28)) #[] 0 (by simp) (by unfold maxLen; omega) rfl; rw [al_size] at this; exact this, Items.nil _ _ _⟩)
  obtain ⟨u, hu⟩ : ∃ u, u = (w.alloc (.cells #[.int .i64 r, .slice A xs.length c, .int .i64 li, .int .i64 co, .int .i64 qu] 28)).alloc (.cells #[] 98) := ⟨_, rfl⟩
  rw [← hu] at bb X0 O0
  have EW := Lib.hid hu
  have SZ : w.heap.size + 2 ≤ u.heap.size := by rw [hu, al_size, al_size]; omega
  have TBu := Lib.hid bb
  have Xu := Lib.hid X0
  have Ou := Lib.hid O0
  have H0 := Lib.hid h3
  have HA := Lib.hid h
  have HV := Lib.hid h2
  have OK := Lib.hid hok
  have HLV := Lib.hid hlv
  clear h h2 h3 bb X0 O0 hu hok hlv
  go_enter Try.func75, Try.ntmps75
  go_wp2
  rw [← EW.out]
  go_loopw [7, 8] (fun v i wr => ∃ (k : Nat) (out : FL) (cs : List Value) (bs : Nat → Nat) (A2 : Option Addr) (c2 : Nat), k ≤ l.length ∧ i = .int .i64 k ∧ v = .slice A2 out.length c2 ∧ Hid (OwnC wr (w.heap.size + 1) wr.heap.size (.slice A2 out.length c2) out cs bs) ∧ Hid (out = matF r xs vs (l.take k)) ∧ Hid (Below (w.heap.size + 1) u wr)) (fun _ i _ => l.length - (intOf i).toNat)
  case atStart => exact ⟨0, [], [], _, _, 0, by omega, rfl, rfl, Ou, Lib.hid rfl, Lib.hid (Below.refl _ _)⟩
  obtain ⟨k, out, cs, bs, A2, c2, hk, rfl, rfl, HO, HOUT, hb⟩ := hrel
  have TW := Lib.hid (TBu.out.trans (hb.out.mono (by omega)))
  have LW := Lib.hid (show w.heap.size + 1 ≤ wr.heap.size by have := hb.out.size; omega)
  have hlen := matF_lt HOUT.out
  have Zw : Box wr w.heap.size #[.int .i64 r, .slice A xs.length c, .int .i64 li, .int .i64 co, .int .i64 qu] 28 := (hb.out.block w.heap.size (by omega)).trans Xu.out
  by_cases hlt : k < l.length
  · generalize hf : l.getD k (0, []) = f
    obtain ⟨r2, ys⟩ := f
    have HF := Lib.hid hf
    have hyl : ys.length ≤ 1048576 := by have := szF_elem hz hlt; rw [hf] at this; exact this
    have hok1 : fitOk r xs r2 ys := by have := OK.out k hlt; rw [hf] at this; exact this
    obtain ⟨b, off, B, c5, rfl, n1, E0, E1, hxc, hcm, hX⟩ := H0.out.at_ hlt hf
    have F0 := Lib.hid E0
    have F1 := Lib.hid E1
    have HX := Lib.hid hX
    have k0 := cell_regrown ((TW.out.cell (p := ⟨b, off + k * 2, none⟩) n1).trans E0)
    have k1 := cell_regrown ((TW.out.cell (p := ⟨b, off + k * 2 + 1, none⟩) n1).trans E1)
    have g0 := Zw.cell 0
    have g1 := Zw.cell 1
    have g2 := Zw.cell 2
    have g3 := Zw.cell 3
    have g4 := Zw.cell 4
    simp only [List.getElem?_toArray, List.getElem?_cons_zero, List.getElem?_cons_succ] at g0 g1 g2 g3 g4
    have k2 := cell_regrown g0
    have k3 := cell_regrown g1
    have k4 := cell_regrown g2
    have k5 := cell_regrown g3
    have k6 := cell_regrown g4
    have hk0 : (0 : Int) ≤ (k : Int) := by omega
    have hk1 : (k : Int) < (l.length : Int) := by omega
    have MY := Lib.hid (matF_yes (r := r) (xs := xs) (vs := vs) hlt hf)
    have MN := Lib.hid (matF_no (r := r) (xs := xs) (vs := vs) hlt hf)
    have X1 := Lib.hid fun (W : World) (hW : Below wr.heap.size wr W) => l5Fits_any r xs li co qu A c vs V cv r2 ys B c5 hlx hyl HLV.out hok1 W ((HA.out.step TW.out).step hW) ((HV.out.step TW.out).step hW) ((HX.out.step TW.out).step hW)
    generalize fitB r xs vs r2 ys = q at MY MN X1
    clear hX hf E0 E1 g0 g1 g2 g3 g4 Zw hok1
    go_wp2
    refine wp_region_quiet_below (by kernel_rfl) (by kernel_rfl) ?_
    repeat (go_big_quiet_step (first | (go_at_call 119; with_reducible exact Calls.regrown_of (X1.out _ (below_regrown _ _ _)))))
    refine wpQuiet_nil ?_
    intro u1 hw'
    have b6 : Below wr.heap.size wr u1 := by obtain ⟨⟨dq, osq⟩, rfl⟩ := hw'; exact below_regrown _ _ _
    have O6 := Lib.hid (OwnC.step HO.out b6)
    have T6 := Lib.hid (hb.out.trans (b6.mono LW.out))
    have TW6 := Lib.hid (step TW.out b6)
    have LOW1 := Lib.hid (show w.heap.size + 1 ≤ u1.heap.size by have := LW.out; have := b6.size; omega)
    have n6 := LOW1.out
    clear hw' k0 k1 k2 k3 k4 k5 k6 b6
    cases q
    · go_wp2
      go_roundw
      case rel => exact ⟨k + 1, out, cs, bs, A2, c2, by omega, by go_num, rfl, O6, Lib.hid (MN.out (by first | exact rfl | trivial) HOUT.out), T6⟩
      case measure => simp [intOf]; omega
    · go_wp2
      have e0 := (TW6.out.cell (p := ⟨b, off + k * 2, none⟩) n1).trans F0.out
      have e1 := (TW6.out.cell (p := ⟨b, off + k * 2 + 1, none⟩) n1).trans F1.out
      have HX6 := Lib.hid (HX.out.step TW6.out)
      have tk1 : True := trivial
      go_region_held3 (fun w' => w'.cell? ⟨b, off + k * 2, none⟩ = some (.int .i64 r2) ∧ w'.cell? ⟨b, off + k * 2 + 1, none⟩ = some (.slice B ys.length c5))
        (first
          | go_keep
          | (go_split_ands; refine ⟨?_, ?_⟩ <;> (rw [d21.cell (by (try simp) <;> omega)]; assumption))
          | (go_split_ands; refine ⟨?_, ?_⟩ <;> (rw [d31.cell (by (try simp) <;> omega)]; first | assumption | go_keep)))
        (first
          | (go_at_call 120
             clear tk1
             refine (l2One_any r2 B c5 ys hyl _ (by first | exact HX6.out | exact HX6.out.step (below_drew _))).mono ?_
             rintro e v21 ⟨A31, c31, q31, rfl, hv21, d21⟩
             have b21 : Below u1.heap.size u1 v21 := by first | exact d21 | exact und d21
             have HO21 := Lib.hid ((OwnC.cur O6.out (Nat.le_refl _) b21).cur b21.size (below_alloc v21 (.cells #[.int .i64 r2, .slice A31 ys.length c31] 98)))
             have HV21 := Lib.hid (show OwnV (v21.alloc (.cells #[.int .i64 r2, .slice A31 ys.length c31] 98)) u1.heap.size (v21.alloc (.cells #[.int .i64 r2, .slice A31 ys.length c31] 98)).heap.size (.slice A31 ys.length c31) q31 ys from OwnV.step (show OwnV v21 u1.heap.size v21.heap.size (.slice A31 ys.length c31) q31 ys from hv21) (below_alloc v21 (.cells #[.int .i64 r2, .slice A31 ys.length c31] 98)))
             have n21 := b21.size
             clear hv21)
          | (refine step_append_lies _ (by rfl) _ _ _ (by rfl) (w.heap.size + 1) 98 i0 _ 2 32 Try.underlying50 hi hz0 hz1 hz2 rfl (by omega) (.slice A2 out.length c2) out.length cs (by rfl) (by first | exact HO21.out.1 | exact HO21.out.1.drew)
               ⟨v21.heap.size, 0, none⟩ 1 1 [.int .i64 r2, .slice A31 ys.length c31] (by rfl) (by rfl) (World.news_of_block (cs := #[.int .i64 r2, .slice A31 ys.length c31]) (t := 98) (fr := (0, 0)) (heap_alloc_new v21 _)) (by simp [Value.oneCell']) (by omega) (by unfold maxLen; omega) (by omega) (by (try simp) <;> omega) (v21.heap.size + 1) (by simp) ?_
             intro g31 cap31 v31 hown31 hgrow31 hat31 hlt31
             have hg31 : (v21.alloc (.cells #[.int .i64 r2, .slice A31 ys.length c31] 98)).grownBy v31 (Value.slice A2 out.length c2).ownBlock := ⟨hgrow31.os, hgrow31.tape, hgrow31.output, hgrow31.size, hgrow31.block⟩
             have d31 : Below (w.heap.size + 1) (v21.alloc (.cells #[.int .i64 r2, .slice A31 ys.length c31] 98)) v31 := (Below.refl _ _).grown hg31 (by (try simp) <;> omega) (fun q hq => (HO21.out.1.lt q hq).1)
             obtain ⟨bs31, ho31⟩ := own_append HO21.out (Items.one HV21.out) LOW1.out (by (try simp) <;> omega) hown31 hg31
             have HO31 := Lib.hid ho31
             have b31 : Below (w.heap.size + 1) u1 v31 := ((step b21 (below_alloc v21 (.cells #[.int .i64 r2, .slice A31 ys.length c31] 98))).mono LOW1.out).trans d31
             clear hown31 hgrow31 hat31 ho31))
      have TB31 := Lib.hid (T6.out.trans b31)
      clear hg31 hlt31
      go_wp2
      go_roundw
      case rel => exact ⟨k + 1, out ++ [(r2, ys)], _, bs31, _, _, by omega, by go_num, by rw [List.length_append]; rfl, Lib.hid (by have := HO31.out; rw [List.length_append]; exact this), Lib.hid (MY.out (by first | exact rfl | trivial) HOUT.out), TB31⟩
      case measure => simp [intOf]; omega
  · obtain rfl : k = l.length := by omega
    have ME := Lib.hid (show out = matF r xs vs l by rw [HOUT.out, List.take_length])
    clear Zw
    go_wp2
    go_ret
    rw [← ME.out]
    exact ⟨_, _, _, _, rfl, HO.out.lo (by omega), TW.out⟩

set_option maxRecDepth 100000 in
set_option maxHeartbeats 4000000 in
theorem matchesAmong_any (r : Int) (xs : List Int) (li co qu : Int) (A : Option Addr) (c : Nat) (vs : List Int) (V : Option Addr) (cv : Nat) (L : Option Addr) (cl : Nat) (l : FL) (hlx : xs.length ≤ 1048576) (hlv : vs.length = xs.length) (hz : szF l ≤ 1048576) (hok : ∀ k, k < l.length → fitOk r xs (l.getD k (0, [])).1 (l.getD k (0, [])).2)
    (w : World) (h : RI w A xs) (h2 : RI w V vs) (h3 : RF w L l) :
    Calls Try.prog 79 #[.agg #[.int .i64 r, .slice A xs.length c, .int .i64 li, .int .i64 co, .int .i64 qu, .slice V vs.length cv], .slice L l.length cl] w (AddOut w (matF r xs vs l)) := by
  obtain ⟨i0, hi, hz0, hz1, hz2⟩ := info_parts fact_info
  have hl := szF_len hz
  have hl' : (l.length : Int) ≤ 1048576 := by omega
  have bb := below_alloc w (.cells #[.int .i64 r, .slice A xs.length c, .int .i64 li, .int .i64 co, .int .i64 qu, .slice V vs.length cv] 101)
  have X0 := Box.new w #[.int .i64 r, .slice A xs.length c, .int .i64 li, .int .i64 co, .int .i64 qu, .slice V vs.length cv] 101
  obtain ⟨u, hu⟩ : ∃ u, u = w.alloc (.cells #[.int .i64 r, .slice A xs.length c, .int .i64 li, .int .i64 co, .int .i64 qu, .slice V vs.length cv] 101) := ⟨_, rfl⟩
  rw [← hu] at bb X0
  have EW := Lib.hid hu
  have SZ : w.heap.size + 1 ≤ u.heap.size := by rw [hu, al_size]; omega
  have TBu := Lib.hid bb
  have Xu := Lib.hid X0
  have Ou := Lib.hid (show OwnC u (w.heap.size + 1) u.heap.size (.slice none 0 0) [] [] (fun _ => 0) from ⟨World.ownsRow_nil _ _ _ _, Items.nil _ _ _⟩)
  have H0 := Lib.hid h3
  have HA := Lib.hid h
  have HV := Lib.hid h2
  have OK := Lib.hid hok
  have HLV := Lib.hid hlv
  clear h h2 h3 bb X0 hu hok hlv
  go_enter Try.func79, Try.ntmps79
  go_wp2
  rw [← EW.out]
  go_loopw [5, 7, 10] (fun v _ i wr => ∃ (k : Nat) (out : FL) (cs : List Value) (bs : Nat → Nat) (A2 : Option Addr) (c2 : Nat), k ≤ l.length ∧ i = .int .i64 k ∧ v = .slice A2 out.length c2 ∧ Hid (OwnC wr (w.heap.size + 1) wr.heap.size (.slice A2 out.length c2) out cs bs) ∧ Hid (out = matF r xs vs (l.take k)) ∧ Hid (Below (w.heap.size + 1) u wr)) (fun _ _ i _ => l.length - (intOf i).toNat)
  case atStart => exact ⟨0, [], [], _, _, 0, by omega, rfl, rfl, Ou, Lib.hid rfl, Lib.hid (Below.refl _ _)⟩
  obtain ⟨k, out, cs, bs, A2, c2, hk, rfl, rfl, HO, HOUT, hb⟩ := hrel
  have TW := Lib.hid (TBu.out.trans (hb.out.mono (by omega)))
  have LW := Lib.hid (show w.heap.size + 1 ≤ wr.heap.size by have := hb.out.size; omega)
  have lw := LW.out
  have gn : w.heap.size < wr.heap.size := by omega
  have hlen := matF_lt HOUT.out
  have Zw : Box wr w.heap.size #[.int .i64 r, .slice A xs.length c, .int .i64 li, .int .i64 co, .int .i64 qu, .slice V vs.length cv] 101 := (hb.out.block w.heap.size (by omega)).trans Xu.out
  by_cases hlt : k < l.length
  · generalize hf : l.getD k (0, []) = f
    obtain ⟨r2, ys⟩ := f
    have HF := Lib.hid hf
    have hyl : ys.length ≤ 1048576 := by have := szF_elem hz hlt; rw [hf] at this; exact this
    have hok1 : fitOk r xs r2 ys := by have := OK.out k hlt; rw [hf] at this; exact this
    obtain ⟨b, off, B, c5, rfl, n1, E0, E1, hxc, hcm, hX⟩ := H0.out.at_ hlt hf
    have e0 := (TW.out.cell (p := ⟨b, off + k * 2, none⟩) n1).trans E0
    have e1 := (TW.out.cell (p := ⟨b, off + k * 2 + 1, none⟩) n1).trans E1
    have bv := below_alloc wr (.cells #[.int .i64 r2, .slice B ys.length c5] 98)
    have BV := Lib.hid bv
    have XV := Box.new wr #[.int .i64 r2, .slice B ys.length c5] 98
    have HXV := Lib.hid XV
    have HX := Lib.hid hX
    have g0 := Zw.cell 0
    have g1 := Zw.cell 1
    have g2 := Zw.cell 2
    have g3 := Zw.cell 3
    have g4 := Zw.cell 4
    have g5 := Zw.cell 5
    simp only [List.getElem?_toArray, List.getElem?_cons_zero, List.getElem?_cons_succ] at g0 g1 g2 g3 g4 g5
    have hk0 : (0 : Int) ≤ (k : Int) := by omega
    have hk1 : (k : Int) < (l.length : Int) := by omega
    have MY := Lib.hid (matF_yes (r := r) (xs := xs) (vs := vs) hlt hf)
    have MN := Lib.hid (matF_no (r := r) (xs := xs) (vs := vs) hlt hf)
    have X1 := Lib.hid (isMatch_any r xs li co qu A c vs V cv r2 ys B c5 hlx hyl HLV.out hok1 _ ((HA.out.step TW.out).step bv) ((HV.out.step TW.out).step bv) ((HX.out.step TW.out).step bv))
    generalize fitB r xs vs r2 ys = q at MY MN X1
    clear hX hf E0 E1 Zw hok1 bv XV
    go_wp2_with fail
    refine X1.out.mono ?_
    rintro e u1 ⟨rfl, d⟩
    have b6 := step BV.out d
    have Z7 := Lib.hid (HXV.out.step d)
    have O6 := Lib.hid (OwnC.step HO.out b6)
    have T6 := Lib.hid (hb.out.trans (b6.mono LW.out))
    have TW6 := Lib.hid (step TW.out b6)
    have LOW1 := Lib.hid (show w.heap.size + 1 ≤ u1.heap.size by have := LW.out; have := b6.size; omega)
    have n6 := LOW1.out
    have n7 := d.size
    rw [al_size] at n7
    clear d b6 g0 g1 g2 g3 g4 g5 e0 e1
    cases q
    · go_wp2
      go_roundw
      case rel => exact ⟨k + 1, out, cs, bs, A2, c2, by omega, by go_num, rfl, O6, Lib.hid (MN.out (by first | exact rfl | trivial) HOUT.out), T6⟩
      case measure => simp [intOf]; omega
    · have p0 := Z7.out.cell 0
      have p1 := Z7.out.cell 1
      simp only [List.getElem?_toArray, List.getElem?_cons_zero, List.getElem?_cons_succ] at p0 p1
      go_wp2_with fail
      refine (copyFact_any r2 B c5 ys hyl _ (HX.out.step TW6.out)).mono ?_
      rintro e v7 ⟨A7, c7, q7, rfl, hv7, d7⟩
      have HO7 := Lib.hid ((OwnC.cur O6.out (Nat.le_refl _) d7).cur d7.size (below_alloc v7 (.cells #[.int .i64 r2, .slice A7 ys.length c7] 98)))
      have HV7 := Lib.hid (OwnV.step (show OwnV v7 u1.heap.size v7.heap.size (.slice A7 ys.length c7) q7 ys from hv7) (below_alloc v7 (.cells #[.int .i64 r2, .slice A7 ys.length c7] 98)))
      have n8 := d7.size
      have D7 := Lib.hid d7
      clear hv7 d7 p0 p1
      go_wp2_with (at_builtin; refine wpList_append_lies _ rfl _ _ 50 rfl (w.heap.size + 1) 98 i0 _ 2 32 Try.underlying50 hi hz0 hz1 hz2 rfl (by omega) (.slice A2 out.length c2) out.length cs rfl HO7.out.1 ⟨v7.heap.size, 0, none⟩ 1 1 [.int .i64 r2, .slice A7 ys.length c7] rfl rfl (World.news_of_block (cs := #[.int .i64 r2, .slice A7 ys.length c7]) (t := 98) (fr := (0, 0)) (heap_alloc_new v7 _)) (by simp [Value.oneCell']) (by omega) (by unfold maxLen; omega) (by omega) (by (try simp) <;> omega) (v7.heap.size + 1) (by simp) ?_; intro g8 cap8 v8 hown8 hgrow8 hat8 hlt8
                   have d8 : Below (w.heap.size + 1) (v7.alloc (.cells #[.int .i64 r2, .slice A7 ys.length c7] 98)) v8 := (Below.refl _ _).grown hgrow8 (by (try simp) <;> omega) (fun q hq => (HO7.out.1.lt q hq).1)
                   obtain ⟨bs8, ho8⟩ := own_append HO7.out (Items.one HV7.out) LOW1.out (by (try simp) <;> omega) hown8 hgrow8
                   have O8 := Lib.hid ho8
                   have b8 := Lib.hid (((step D7.out (below_alloc v7 (.cells #[.int .i64 r2, .slice A7 ys.length c7] 98))).mono LOW1.out).trans d8)
                   clear hown8 hgrow8 hat8 ho8 d8)
      have TB8 := Lib.hid (T6.out.trans b8.out)
      clear hlt8
      go_roundw
      case rel => exact ⟨k + 1, out ++ [(r2, ys)], _, bs8, _, _, by omega, by go_num, by rw [List.length_append]; rfl, Lib.hid (by have := O8.out; rw [List.length_append]; exact this), Lib.hid (MY.out (by first | exact rfl | trivial) HOUT.out), TB8⟩
      case measure => simp [intOf]; omega
  · obtain rfl : k = l.length := by omega
    have ME := Lib.hid (show out = matF r xs vs l by rw [HOUT.out, List.take_length])
    clear Zw
    go_wp2
    go_ret
    rw [← ME.out]
    exact ⟨_, _, _, _, rfl, HO.out.lo (by omega), TW.out⟩
end Go.Proofs.Ytenondgjipmhnaa
