/- What impl.AddFact answers, over insertOnce. Conditions: none beyond each theorem's own. What impl.AddFact answers. Conditions: none beyond each theorem's own. Numbers that came in are such as an int holds. Conditions: none beyond each theorem's own. -/
import Derived.Test.YtimlpdcambmcjaaGreatS5
import Derived.Test.YtimlpdcambmcjaaGreatS11
import Derived.Test.YtimlpdcambmcjaaGreatS1

namespace Go.Proofs.YtimlpdcambmcjaaGreat
open Go.ChangeShapes Go.WideShapes Go.ChangeAt Go.RowKit Go.Sort
set_option linter.unusedVariables false
set_option linter.unusedSimpArgs false

/-- The end of an insertion: the new row, the new fact's numbers, the copies'. -/
theorem addOut_ins {w u w5 w6 : World} {lo : Nat} {l res : FL} {r : Int} {xs : List Int} {cs : List Value} {bs : Nat → Nat} {k q : Nat} {v : Value} {e : Ending}
    (hk : k ≤ l.length) (hres : res = l.take k ++ (r, xs) :: l.drop k) (hlo : w.heap.size ≤ lo) (hlou : lo ≤ u.heap.size)
    (hI : Items u lo u.heap.size l cs bs) (huw : Below u.heap.size u w5) (hv : OwnV w5 u.heap.size w5.heap.size v q xs) (hB : Below w.heap.size w w5)
    (ho : InsOut w5 77 2 (l.length + 1) (cs.take (k * 2) ++ [.int .i64 r, v] ++ cs.drop (k * 2)) e w6) : AddOut w res e w6 := by
  obtain ⟨G, he, hrow, hb⟩ := ho
  subst hres
  have hlen := ins_len l (r, xs) k hk
  have h5 : Items w5 lo u.heap.size l cs bs := hI.keep fun q _ h2 _ => huw.block q h2
  have h6 := h5.insert (r := r) hv hlou huw.size k hk
  have h7 : Items w6 lo w5.heap.size _ _ _ := h6.keep fun q _ h2 _ => hb.block q h2
  refine ⟨some ⟨w5.heap.size, 0, none⟩, G, _, _, by rw [hlen]; exact he, ⟨?_, h7.mono hlo hb.size⟩, hB.trans (hb.mono hB.size)⟩
  rw [hlen]
  exact ownsRow_low hrow (by have := hB.size; omega)

set_option maxRecDepth 100000 in
set_option maxHeartbeats 3000000 in
theorem insertOnceF_any (A : Option Addr) (c : Nat) (l : FL) (r : Int) (xs : List Int) (A' : Option Addr) (c' : Nat) (hz : szF l ≤ 1048576) (hl2 : xs.length ≤ 1048576) (w : World) (h : RF w A l) (h' : RI w A' xs) :
    Calls Tryz.prog 153 #[.slice A l.length c, .agg #[.int .i64 r, .slice A' xs.length c'], .func (.func 104) #[] #[], .func (.func 154) #[] #[]] w (AddOut w (addF l r xs)) := by
  have hl := szF_len hz
  have hl' : (l.length : Int) ≤ 1048576 := by omega
  obtain ⟨W0, hW0⟩ : ∃ W0, W0 = ((w.alloc (.cells #[.int .i64 r, .slice A' xs.length c'] 77)).alloc (.cells #[.func (.func 104) #[] #[]] 117)) := ⟨_, rfl⟩
  have B0 := Lib.hid (show Below w.heap.size w W0 by rw [hW0]; exact step (below_alloc _ _) (below_alloc _ _))
  have Z0 := Lib.hid (show W0.heap.size = w.heap.size + 2 by rw [hW0]; simp)
  have X0 := Lib.hid (show Box W0 w.heap.size #[.int .i64 r, .slice A' xs.length c'] 77 by rw [hW0]; exact (Box.new _ _ _).step (below_alloc _ _))
  have X1 := Lib.hid (show Box W0 (w.heap.size + 1) #[.func (.func 104) #[] #[]] 117 by
    have h1 := Box.new (w.alloc (.cells #[.int .i64 r, .slice A' xs.length c'] 77)) #[.func (.func 104) #[] #[]] 117
    rw [hW0]; simpa using h1)
  have HI := Lib.hid (h.step B0.out)
  have HJ := Lib.hid (h'.step B0.out)
  have EW := Lib.hid hW0
  have XE := Lib.hid fun (k : Nat) (r2 : Int) (ys : List Int) (B : Option Addr) (c2 : Nat) (W : World) (hf : l.getD k (0, []) = (r2, ys)) (hy : ys.length ≤ 1048576) (hI : RI W B ys) (hB : Below W0.heap.size W0 W) =>
    (show Calls Tryz.prog 173 #[.agg #[.int .i64 r2, .slice B ys.length c2], .pointer (some ⟨w.heap.size + 1, 0, none⟩), .pointer (some ⟨w.heap.size, 0, none⟩)] W fun e w' => e = .returned (.bool (decide (cmpF (l.getD k (0, [])).1 (l.getD k (0, [])).2 r xs = 0))) ∧ Below W.heap.size W w' by
      rw [hf]; exact isEqF_any _ _ r2 ys B c2 r xs A' c' hy hl2 W hI (HJ.out.step hB) (X0.out.step hB) (X1.out.step hB))
  have XG := Lib.hid fun (k : Nat) (r2 : Int) (ys : List Int) (B : Option Addr) (c2 : Nat) (W : World) (hf : l.getD k (0, []) = (r2, ys)) (hy : ys.length ≤ 1048576) (hI : RI W B ys) (hB : Below W0.heap.size W0 W) =>
    (show Calls Tryz.prog 174 #[.agg #[.int .i64 r2, .slice B ys.length c2], .pointer (some ⟨w.heap.size + 1, 0, none⟩), .pointer (some ⟨w.heap.size, 0, none⟩)] W fun e w' => e = .returned (.bool (decide (cmpF (l.getD k (0, [])).1 (l.getD k (0, [])).2 r xs > 0))) ∧ Below W.heap.size W w' by
      rw [hf]; exact isGrF_any _ _ r2 ys B c2 r xs A' c' hy hl2 W hI (HJ.out.step hB) (X0.out.step hB) (X1.out.step hB))
  have XC := Lib.hid (copyEachF_any A c l hz W0 HI.out)
  clear h h' hW0
  have HB := Lib.hid (hasB_iff l r xs)
  by_cases hh : hasB l r xs = true
  · have HH := Lib.hid hh
    have EF := Lib.hid (addF_yes hh)
    clear hh
    go_enter Tryz.func153, Tryz.ntmps153
    go_wp2_with fail
    rw [← EW.out]
    refine XC.out.mono ?_
    rintro e u1 ⟨rfl, hp, d1, z1⟩
    have D1 := Lib.hid d1
    have HP := Lib.hid (OwnC.of_P hp hl)
    clear hp d1 z1
    go_wp2_with fail
    refine (containsFuncF_any A c l _ _ (fun k => decide (cmpF (l.getD k (0, [])).1 (l.getD k (0, [])).2 r xs = 0)) hz _ (HI.out.step D1.out) true ⟨fun _ => HB.out.1 HH.out, fun _ => rfl⟩ (fun k r2 ys B c2 W _ hf hy hI hB => XE.out k r2 ys B c2 W hf hy hI (step D1.out hB))).mono ?_
    rintro e u2 ⟨rfl, d2⟩
    have D2 := Lib.hid d2
    clear d2
    obtain ⟨cs, bs, ho⟩ := HP.out
    have HO := Lib.hid (OwnC.step ho D2.out)
    clear ho
    go_wp2
    go_ret
    rw [EF.out]
    exact ⟨_, _, cs, bs, rfl, OwnC.lo HO.out (by have := Z0.out; omega), step B0.out (step D1.out D2.out)⟩
  · have HH := Lib.hid (show hasB l r xs = false by simpa using hh)
    have EF := Lib.hid (addF_no HH.out)
    clear hh
    go_enter Tryz.func153, Tryz.ntmps153
    go_wp2_with fail
    rw [← EW.out]
    refine XC.out.mono ?_
    rintro e u1 ⟨rfl, hp, d1, z1⟩
    have D1 := Lib.hid d1
    have HP := Lib.hid (OwnC.of_P hp hl)
    clear hp d1 z1
    obtain ⟨g, hg⟩ : ∃ g, g = W0.heap.size := ⟨_, rfl⟩
    rw [← hg] at HP ⊢
    have HG := Lib.hid hg
    clear hg
    go_wp2_with fail
    refine (containsFuncF_any A c l _ _ (fun k => decide (cmpF (l.getD k (0, [])).1 (l.getD k (0, [])).2 r xs = 0)) hz _ (HI.out.step D1.out) false ⟨fun h => absurd h (by simp), fun h => by have := HB.out.2 h; rw [HH.out] at this; exact this⟩ (fun k r2 ys B c2 W _ hf hy hI hB => XE.out k r2 ys B c2 W hf hy hI (step D1.out hB))).mono ?_
    rintro e u2 ⟨rfl, d2⟩
    have D2 := Lib.hid (step D1.out d2)
    have D2' := Lib.hid d2
    clear d2
    go_wp2_with fail
    refine (indexFuncF1_any A c l _ _ (fun k => decide (cmpF (l.getD k (0, [])).1 (l.getD k (0, [])).2 r xs > 0)) hz _ (HI.out.step D2.out) (fun k r2 ys B c2 W _ hf hy hI hB => XG.out k r2 ys B c2 W hf hy hI (step D2.out hB))).mono ?_
    rintro e u3 ⟨hx, d3⟩
    have D3 := Lib.hid (step D2.out d3)
    have D3' := Lib.hid (step D2'.out d3)
    clear d3
    have HX := Lib.hid hx
    clear hx
    obtain ⟨cs, bs, ho⟩ := HP.out
    have Y0 := X0.out.step D3.out
    have g0 := Y0.cell 0
    have g1 := Y0.cell 1
    simp only [List.getElem?_toArray, List.getElem?_cons_zero, List.getElem?_cons_succ] at g0 g1
    have HO := Lib.hid ho
    have LG := Lib.hid (show g < u1.heap.size from by
      obtain ⟨_, _, hp⟩ := HO.out.to_P
      exact hp.2.1)
    clear ho Y0
    obtain ⟨k, hk, hat, hres⟩ : ∃ k, k ≤ l.length ∧ (Hid ((k < l.length ∧ e = .returned (.int .i64 k)) ∨ (k = l.length ∧ e = .returned (.int .i64 (-1))))) ∧ Hid (addI l r xs = l.take k ++ (r, xs) :: l.drop k) := by
      rcases HX.out with ⟨k, hk, h1, h2, rfl⟩ | ⟨h1, rfl⟩
      · exact ⟨k, by omega, Lib.hid (.inl ⟨hk, rfl⟩), Lib.hid (addI_gr HH.out (by omega) h1 (fun _ => h2))⟩
      · exact ⟨l.length, Nat.le_refl _, Lib.hid (.inr ⟨rfl, rfl⟩), Lib.hid (addI_gr HH.out (Nat.le_refl _) h1 (fun h => by omega))⟩
    have XK := Lib.hid (copyFact_any r A' c' xs hl2 u3 (HJ.out.step D3.out))
    rcases hat.out with ⟨hlt, he⟩ | ⟨hlt, he⟩
    · subst he
      have hk0 : (0 : Int) ≤ (k : Int) := by omega
      have dk : decide ((k : Int) < 0) = false := by simp
      go_wp2_with fail
      refine XK.out.mono ?_
      rintro e u4 ⟨A2, c2, q, rfl, hv, d4⟩
      have HV := Lib.hid hv
      have D4 := Lib.hid (step D3.out d4)
      have D4' := Lib.hid (step D3'.out d4)
      have D4'' := Lib.hid d4
      clear hv d4 dk g0 g1
      go_wp2_with fail
      refine (insertF_mid g l.length k u4.heap.size cs [.int .i64 r, .slice A2 xs.length c2] _ hlt (by omega) (by have := HO.out.2.1; omega) rfl (by have := LG.out; have := D4'.out.size; simp; omega) (by simp) (fun j v hj => by
        have h1 := ownC_cells HO.out j v hj
        rw [(step D4'.out (below_alloc u4 (.cells #[.int .i64 r, .slice A2 xs.length c2] 77))).cell (p := ⟨g, j, none⟩) LG.out]; exact h1) (fun j v hj => by
        rw [(Box.new u4 #[.int .i64 r, .slice A2 xs.length c2] 77).cell j]; simpa using hj) (items_one' HO.out.2) (by simp [Value.oneCell']) _ rfl).mono ?_
      rintro e u6 ho6
      obtain ⟨G, rfl, ho7⟩ := id ho6
      have FIN := Lib.hid (addOut_ins (u := u1) (lo := g) hk hres.out (by rw [HG.out]; exact B0.out.size) (Nat.le_of_lt LG.out) HO.out.2 (step D4'.out (below_alloc _ _)) (OwnV.step (show OwnV u4 u1.heap.size u4.heap.size _ q xs from HV.out.mono D3'.out.size (Nat.le_refl _)) (below_alloc _ _)) (step B0.out (step D4.out (below_alloc _ _))) ho6)
      clear ho6 ho7
      go_wp2
      go_ret
      rw [EF.out]
      have fin := FIN.out
      rw [al_size] at fin
      exact fin
    · subst he
      have HK := Lib.hid hlt
      have dk : decide ((-1 : Int) < 0) = true := by decide
      go_wp2_with fail
      refine XK.out.mono ?_
      rintro e u4 ⟨A2, c2, q, rfl, hv, d4⟩
      have HV := Lib.hid hv
      have D4 := Lib.hid (step D3.out d4)
      have D4' := Lib.hid (step D3'.out d4)
      have D4'' := Lib.hid d4
      clear hv d4 dk g0 g1 hlt
      go_wp2_with fail
      refine (insertF_end g l.length u4.heap.size cs [.int .i64 r, .slice A2 xs.length c2] _ (by omega) (by have := HO.out.2.1; omega) rfl (by have := LG.out; have := D4'.out.size; simp; omega) (by simp) (fun j v hj => by
        have h1 := ownC_cells HO.out j v hj
        rw [(step D4'.out (below_alloc u4 (.cells #[.int .i64 r, .slice A2 xs.length c2] 77))).cell (p := ⟨g, j, none⟩) LG.out]; exact h1) (fun j v hj => by
        rw [(Box.new u4 #[.int .i64 r, .slice A2 xs.length c2] 77).cell j]; simpa using hj) (by simp [Value.oneCell'])).mono ?_
      rintro e u6 ho6
      obtain ⟨G, rfl, ho7⟩ := id ho6
      have hcl := HO.out.2.1
      have E1 : cs.take (l.length * 2) = cs := List.take_of_length_le (by omega)
      have E2 : cs.drop (l.length * 2) = [] := List.drop_eq_nil_of_le (by omega)
      have ho8 := ho6
      rw [show cs ++ [.int .i64 r, .slice A2 xs.length c2] = cs.take (l.length * 2) ++ [.int .i64 r, .slice A2 xs.length c2] ++ cs.drop (l.length * 2) by rw [E1, E2, List.append_nil]] at ho8
      have hres' := hres.out
      rw [HK.out] at hres'
      have FIN := Lib.hid (addOut_ins (u := u1) (lo := g) (Nat.le_refl _) hres' (by rw [HG.out]; exact B0.out.size) (Nat.le_of_lt LG.out) HO.out.2 (step D4'.out (below_alloc _ _)) (OwnV.step (show OwnV u4 u1.heap.size u4.heap.size _ q xs from HV.out.mono D3'.out.size (Nat.le_refl _)) (below_alloc _ _)) (step B0.out (step D4.out (below_alloc _ _))) ho8)
      clear ho6 ho7 ho8 hcl E1 E2 hres'
      go_wp2
      go_ret
      rw [EF.out]
      have fin := FIN.out
      rw [al_size] at fin
      exact fin
set_option maxRecDepth 100000 in
theorem impl_AddFact_o (A : Option Addr) (c : Nat) (l : FL) (r : Int) (xs : List Int) (A' : Option Addr) (c' : Nat) (hz : szF l ≤ 1048576) (hl2 : xs.length ≤ 1048576) (w : World) (h : RF w A l) (h' : RI w A' xs) :
    Calls Tryz.prog 128 #[.slice A l.length c, .agg #[.int .i64 r, .slice A' xs.length c']] w (AddOut w (addF l r xs)) := by
  have B0 := Lib.hid (below_alloc w (.cells #[.int .i64 r, .slice A' xs.length c'] 77))
  have XO := Lib.hid (insertOnceF_any A c l r xs A' c' hz hl2 _ (h.step B0.out) (h'.step B0.out))
  clear h h'
  go_enter Tryz.func128, Tryz.ntmps128
  go_wp2_with fail
  refine XO.out.mono ?_
  rintro e u ⟨A2, c2, cs, bs, rfl, ho, d⟩
  have HO := Lib.hid ho
  have D := Lib.hid d
  clear ho d
  go_wp2
  go_ret
  exact ⟨A2, c2, cs, bs, rfl, OwnC.lo HO.out B0.out.size, step B0.out D.out⟩
end Go.Proofs.YtimlpdcambmcjaaGreat

namespace Go.Proofs.YtimlpdcambmcjaaGreat
open Go.ChangeShapes Go.WideShapes Go.ChangeAt Go.RowKit Go.Sort
set_option linter.unusedVariables false
set_option linter.unusedSimpArgs false

theorem items_one {w : World} {lo hi : Nat} {fs : FL} {cs : List Value} {bs : Nat → Nat} (h : Items w lo hi fs cs bs) : ∀ x ∈ cs, x.oneCell' = true := fun x hx => by
  obtain ⟨j, hj⟩ := List.getElem?_of_mem hx
  have hlt : j < fs.length * 2 := by have := (List.getElem?_eq_some_iff.1 hj).1; have := h.1; omega
  obtain ⟨e0, v1, e1, hv⟩ := h.2.1 (j / 2) (by omega)
  rcases Nat.mod_two_eq_zero_or_one j with hm | hm
  · rw [show j / 2 * 2 = j by omega, hj] at e0
    injection e0 with e0
    subst e0
    rfl
  · rw [show j / 2 * 2 + 1 = j by omega, hj] at e1
    injection e1 with e1
    subst e1
    obtain ⟨A, c, rfl, _⟩ := hv
    rfl

theorem impl_AddFact (b off c : Nat) (l : FL) (r : Int) (xs : List Int) (A' : Option Addr) (c' : Nat) (hlc : l.length ≤ c) (hc : c ≤ 9223372036854775807) (hz : szF l ≤ 1048576) (hl2 : xs.length ≤ 1048576) (hc2 : xs.length ≤ c') (hm2 : c' ≤ maxLen) (w : World) (h : RF w (some ⟨b, off, none⟩) l) (h' : RI w A' xs) :
    Calls Tryz.prog 128 #[.slice (some ⟨b, off, none⟩) l.length c, .agg #[.int .i64 r, .slice A' xs.length c']] w (AddOut w (addF l r xs)) := impl_AddFact_o _ c l r xs A' c' hz hl2 w h h'
end Go.Proofs.YtimlpdcambmcjaaGreat

namespace Go.Proofs.YtimlpdcambmcjaaGreat
open Go.ChangeShapes Go.WideShapes Go.ChangeAt Go.RowKit
set_option linter.unusedVariables false
set_option linter.unusedSimpArgs false

section
variable {H : Type} {enc : TypeId × Value → H} {P : Program} {w : World}
theorem open_numsW {t e : TypeId} {fuel : Nat} {v : Value} {x : DataW H × List MemPlace} (ht : P.underlying t = some (.slice e)) (he : P.underlying e = some (.int .i64)) (hc : P.cellsOf e = 1)
    (h : DataW.trod enc P w 0 (fun _ => true) true fuel t [v] = some x) : ∃ (A : Option Addr) (c : Nat) (xs : List Int), v = .slice A xs.length c ∧ xs.length ≤ c ∧ c ≤ maxLen ∧ Ints w 0 w.heap.size A xs ∧ ∀ n ∈ xs, (Lit.int .i64 n).wf = true := by
  rcases open_ints ht he hc h with ⟨hv, _⟩ | ⟨a, len, cap, zs, hv, _, hl, hm, hz, _, hcell, hwf⟩
  · injection hv with hv
    exact ⟨none, 0, [], hv, Nat.le_refl _, by unfold maxLen; omega, fun h => absurd rfl h, fun n hn => by simp at hn⟩
  · injection hv with hv
    have hlen : (zs.take len).length = len := by rw [List.length_take]; simp at hz; omega
    refine ⟨some a, cap, zs.take len, by rw [hlen]; exact hv, by rw [hlen]; exact hl, hm, fun hne => ?_, fun n hn => hwf n (List.mem_of_mem_take hn)⟩
    have hpos : 0 < len := by
      rcases Nat.eq_zero_or_pos len with h0 | h0
      · subst h0; simp at hne
      · exact h0
    simp only [if_true] at hz
    obtain ⟨b, off, spot⟩ := a
    have hc0 := hcell 0 (by omega)
    have hspot : spot = none := by simpa [Addr.add] using World.cell?_spot hc0
    subst hspot
    have hb := World.block_lt_of_cell? w _ hc0
    refine ⟨b, off, rfl, by omega, by simpa [Addr.add] using hb, fun k hk => ?_⟩
    have hk' : k < len := by rw [hlen] at hk; exact hk
    have := hcell k (by omega)
    have e : (⟨b, off, none⟩ : Addr).add k = ⟨b, off + k, none⟩ := by unfold Addr.add; split <;> simp_all
    rw [e] at this
    rw [this]
    simp [List.getD_eq_getElem?_getD, List.getElem?_take, hk']
end
theorem range_of {hs : List Int} (h : ∀ n ∈ hs, (Lit.int .i64 n).wf = true) : allB (-9223372036854775808) 9223372036854775807 hs = true := by
  unfold allB
  rw [List.all_eq_true]
  intro x hx
  have h1 : -9223372036854775808 ≤ x ∧ x ≤ 9223372036854775807 := by simpa [Lit.wf, IntKind.min, IntKind.max, IntKind.signed, IntKind.bits] using h x hx
  simp [inB, h1.1, h1.2]
end Go.Proofs.YtimlpdcambmcjaaGreat
