/- What impl.AddTuple answers, over insertOnce. Conditions: none beyond each theorem's own. -/
import Derived.Test.YtdakfcgjnmmdgaaTupO
import Derived.Test.YtdakfcgjnmmdgaaOnceT
import Derived.Test.YtdakfcgjnmmdgaaInsT
namespace Go.Proofs.Ytdakfcgjnmmdgaa
open Go.ChangeShapes Go.WideShapes Go.ChangeAt Go.RowKit Go.Sort
set_option linter.unusedVariables false
set_option linter.unusedSimpArgs false

/-- The end of an insertion: the new row, the new list's numbers, the copies'. -/
theorem addOutT_ins {w u w5 w6 : World} {lo : Nat} {l res : TL} {xs : List Int} {cs : List Value} {bs : Nat → Nat} {k q : Nat} {v : Value} {e : Ending}
    (hk : k ≤ l.length) (hres : res = l.take k ++ xs :: l.drop k) (hlo : w.heap.size ≤ lo) (hlou : lo ≤ u.heap.size)
    (hI : ItemsT u lo u.heap.size l cs bs) (huw : Below u.heap.size u w5) (hv : OwnV w5 u.heap.size w5.heap.size v q xs) (hB : Below w.heap.size w w5)
    (ho : InsOut w5 23 1 (l.length + 1) (cs.take k ++ [v] ++ cs.drop k) e w6) : AddOutT w res e w6 := by
  obtain ⟨G, he, hrow, hb⟩ := ho
  subst hres
  have hlen := ins_len l xs k hk
  have h5 : ItemsT w5 lo u.heap.size l cs bs := hI.keep fun q _ h2 _ => huw.block q h2
  have h6 := h5.insert hv hlou huw.size k hk
  have h7 : ItemsT w6 lo w5.heap.size _ _ _ := h6.keep fun q _ h2 _ => hb.block q h2
  refine ⟨some ⟨w5.heap.size, 0, none⟩, G, _, _, by rw [hlen]; exact he, ⟨?_, h7.mono hlo hb.size⟩, hB.trans (hb.mono hB.size)⟩
  rw [hlen]
  exact ownsRow_low hrow (by have := hB.size; omega)

set_option maxRecDepth 100000 in
set_option maxHeartbeats 3000000 in
theorem insertOnceT_any (A : Option Addr) (c : Nat) (l : TL) (xs : List Int) (A' : Option Addr) (c' : Nat) (hz : szT l ≤ 1048576) (hl2 : xs.length ≤ 1048576) (w : World) (h : RT w A l) (h' : RI w A' xs) :
    Calls Try.prog 80 #[.slice A l.length c, .slice A' xs.length c', .func (.func 81) #[] #[], .func (.func 82) #[] #[]] w (AddOutT w (addT l xs)) := by
  have hl := szT_len hz
  have hl' : (l.length : Int) ≤ 1048576 := by omega
  obtain ⟨W0, hW0⟩ : ∃ W0, W0 = ((w.alloc (.cells #[.slice A' xs.length c'] 23)).alloc (.cells #[.func (.func 81) #[] #[]] 100)) := ⟨_, rfl⟩
  have B0 := Lib.hid (show Below w.heap.size w W0 by rw [hW0]; exact step (below_alloc _ _) (below_alloc _ _))
  have Z0 := Lib.hid (show W0.heap.size = w.heap.size + 2 by rw [hW0]; simp)
  have X0 := Lib.hid (show Box W0 w.heap.size #[.slice A' xs.length c'] 23 by rw [hW0]; exact (Box.new _ _ _).step (below_alloc _ _))
  have X1 := Lib.hid (show Box W0 (w.heap.size + 1) #[.func (.func 81) #[] #[]] 100 by
    have h1 := Box.new (w.alloc (.cells #[.slice A' xs.length c'] 23)) #[.func (.func 81) #[] #[]] 100
    rw [hW0]; simpa using h1)
  have HI := Lib.hid (h.step B0.out)
  have HJ := Lib.hid (h'.step B0.out)
  have EW := Lib.hid hW0
  have XE := Lib.hid fun (k : Nat) (ys : List Int) (B : Option Addr) (c2 : Nat) (W : World) (hf : l.getD k [] = ys) (hy : ys.length ≤ 1048576) (hI : RI W B ys) (hB : Below W0.heap.size W0 W) =>
    (show Calls Try.prog 97 #[.slice B ys.length c2, .pointer (some ⟨w.heap.size + 1, 0, none⟩), .pointer (some ⟨w.heap.size, 0, none⟩)] W fun e w' => e = .returned (.bool (decide (cmpL (l.getD k []) xs = 0))) ∧ Below W.heap.size W w' by
      rw [hf]; exact isEqT_any _ _ ys B c2 xs A' c' hy hl2 W hI (HJ.out.step hB) (X0.out.step hB) (X1.out.step hB))
  have XG := Lib.hid fun (k : Nat) (ys : List Int) (B : Option Addr) (c2 : Nat) (W : World) (hf : l.getD k [] = ys) (hy : ys.length ≤ 1048576) (hI : RI W B ys) (hB : Below W0.heap.size W0 W) =>
    (show Calls Try.prog 98 #[.slice B ys.length c2, .pointer (some ⟨w.heap.size + 1, 0, none⟩), .pointer (some ⟨w.heap.size, 0, none⟩)] W fun e w' => e = .returned (.bool (decide (cmpL (l.getD k []) xs > 0))) ∧ Below W.heap.size W w' by
      rw [hf]; exact isGrT_any _ _ ys B c2 xs A' c' hy hl2 W hI (HJ.out.step hB) (X0.out.step hB) (X1.out.step hB))
  have XC := Lib.hid (copyEachT_any A c l hz W0 HI.out)
  clear h h' hW0
  have HB := Lib.hid (memT_iff l xs)
  by_cases hh : xs ∈ l
  · have HH := Lib.hid hh
    have EF := Lib.hid (show addT l xs = l from if_pos hh)
    clear hh
    go_enter Try.func80, Try.ntmps80
    go_wp2_with fail
    rw [← EW.out]
    refine XC.out.mono ?_
    rintro e u1 ⟨rfl, hp, d1, z1⟩
    have D1 := Lib.hid d1
    have HP := Lib.hid (OwnCT.of_P hp hl)
    clear hp d1 z1
    go_wp2_with fail
    refine (containsFuncT_any A c l _ _ (fun k => decide (cmpL (l.getD k []) xs = 0)) hz _ (HI.out.step D1.out) true ⟨fun _ => HB.out.1 HH.out, fun _ => rfl⟩ (fun k ys B c2 W _ hf hy hI hB => XE.out k ys B c2 W hf hy hI (step D1.out hB))).mono ?_
    rintro e u2 ⟨rfl, d2⟩
    have D2 := Lib.hid d2
    clear d2
    obtain ⟨cs, bs, ho⟩ := HP.out
    have HO := Lib.hid (OwnCT.step ho D2.out)
    clear ho
    go_wp2
    go_ret
    rw [EF.out]
    exact ⟨_, _, cs, bs, rfl, OwnCT.lo HO.out (by have := Z0.out; omega), step B0.out (step D1.out D2.out)⟩
  · have HH := Lib.hid hh
    have EF := Lib.hid (show addT l xs = addTI l xs from if_neg hh)
    clear hh
    go_enter Try.func80, Try.ntmps80
    go_wp2_with fail
    rw [← EW.out]
    refine XC.out.mono ?_
    rintro e u1 ⟨rfl, hp, d1, z1⟩
    have D1 := Lib.hid d1
    have HP := Lib.hid (OwnCT.of_P hp hl)
    clear hp d1 z1
    obtain ⟨g, hg⟩ : ∃ g, g = W0.heap.size := ⟨_, rfl⟩
    rw [← hg] at HP ⊢
    have HG := Lib.hid hg
    clear hg
    go_wp2_with fail
    refine (containsFuncT_any A c l _ _ (fun k => decide (cmpL (l.getD k []) xs = 0)) hz _ (HI.out.step D1.out) false ⟨fun h => absurd h (by simp), fun h => absurd (HB.out.2 h) HH.out⟩ (fun k ys B c2 W _ hf hy hI hB => XE.out k ys B c2 W hf hy hI (step D1.out hB))).mono ?_
    rintro e u2 ⟨rfl, d2⟩
    have D2 := Lib.hid (step D1.out d2)
    have D2' := Lib.hid d2
    clear d2
    go_wp2_with fail
    refine (indexFuncT1_any A c l _ _ (fun k => decide (cmpL (l.getD k []) xs > 0)) hz _ (HI.out.step D2.out) (fun k ys B c2 W _ hf hy hI hB => XG.out k ys B c2 W hf hy hI (step D2.out hB))).mono ?_
    rintro e u3 ⟨hx, d3⟩
    have D3 := Lib.hid (step D2.out d3)
    have D3' := Lib.hid (step D2'.out d3)
    clear d3
    have HX := Lib.hid hx
    clear hx
    obtain ⟨cs, bs, ho⟩ := HP.out
    have Y0 := X0.out.step D3.out
    have g0 := Y0.cell 0
    simp only [List.getElem?_toArray, List.getElem?_cons_zero, List.getElem?_cons_succ] at g0
    have HO := Lib.hid ho
    have LG := Lib.hid (show g < u1.heap.size from by
      obtain ⟨_, _, hp⟩ := HO.out.to_P
      exact hp.2.1)
    clear ho Y0
    obtain ⟨k, hk, hat, hres⟩ : ∃ k, k ≤ l.length ∧ (Hid ((k < l.length ∧ e = .returned (.int .i64 k)) ∨ (k = l.length ∧ e = .returned (.int .i64 (-1))))) ∧ Hid (addTI l xs = l.take k ++ xs :: l.drop k) := by
      rcases HX.out with ⟨k, hk, h1, h2, rfl⟩ | ⟨h1, rfl⟩
      · exact ⟨k, by omega, Lib.hid (.inl ⟨hk, rfl⟩), Lib.hid (addTI_gr HH.out (by omega) h1 (fun _ => h2))⟩
      · exact ⟨l.length, Nat.le_refl _, Lib.hid (.inr ⟨rfl, rfl⟩), Lib.hid (addTI_gr HH.out (Nat.le_refl _) h1 (fun h => by omega))⟩
    have XK := Lib.hid (clone_any A' c' xs hl2 u3 (HJ.out.step D3.out))
    rcases hat.out with ⟨hlt, he⟩ | ⟨hlt, he⟩
    · subst he
      have hk0 : (0 : Int) ≤ (k : Int) := by omega
      have dk : decide ((k : Int) < 0) = false := by simp
      go_wp2_with fail
      refine XK.out.mono ?_
      rintro e u4 ⟨A2, c2, q, rfl, hv, d4⟩
      have HV := Lib.hid hv
      have D4 := Lib.hid (step D3.out d4)
      have D4' := Lib.hid (step D3'.out d4)
      clear hv d4 dk g0
      go_wp2_with fail
      refine (insertT_mid g l.length k u4.heap.size cs [.slice A2 xs.length c2] _ hlt (by omega) HO.out.2.1 rfl (by have := LG.out; have := D4'.out.size; simp; omega) (by simp) (fun j v hj => by
        have h1 := ownCT_cells HO.out j v hj
        rw [(step D4'.out (below_alloc u4 (.cells #[.slice A2 xs.length c2] 23))).cell (p := ⟨g, j, none⟩) LG.out]; exact h1) (fun j v hj => by
        rw [(Box.new u4 #[.slice A2 xs.length c2] 23).cell j]; simpa using hj) (itemsT_one HO.out.2) (by simp [Value.oneCell']) _ rfl).mono ?_
      rintro e u6 ho6
      obtain ⟨G, rfl, ho7⟩ := id ho6
      have FIN := Lib.hid (addOutT_ins (u := u1) (lo := g) hk hres.out (by rw [HG.out]; exact B0.out.size) (Nat.le_of_lt LG.out) HO.out.2 (step D4'.out (below_alloc _ _)) (OwnV.step (show OwnV u4 u1.heap.size u4.heap.size _ q xs from HV.out.mono D3'.out.size (Nat.le_refl _)) (below_alloc _ _)) (step B0.out (step D4.out (below_alloc _ _))) ho6)
      clear ho6 ho7
      go_wp2
      go_ret
      rw [EF.out]
      have fin := FIN.out
      rw [al_size] at fin
      exact fin
    · subst he
      have HK := Lib.hid hlt
      have dk : decide ((-1 : Int) < 0) = true := by decide
      go_wp2_with fail
      refine XK.out.mono ?_
      rintro e u4 ⟨A2, c2, q, rfl, hv, d4⟩
      have HV := Lib.hid hv
      have D4 := Lib.hid (step D3.out d4)
      have D4' := Lib.hid (step D3'.out d4)
      clear hv d4 dk g0 hlt
      go_wp2_with fail
      refine (insertT_end g l.length u4.heap.size cs [.slice A2 xs.length c2] _ (by omega) HO.out.2.1 rfl (by have := LG.out; have := D4'.out.size; simp; omega) (by simp) (fun j v hj => by
        have h1 := ownCT_cells HO.out j v hj
        rw [(step D4'.out (below_alloc u4 (.cells #[.slice A2 xs.length c2] 23))).cell (p := ⟨g, j, none⟩) LG.out]; exact h1) (fun j v hj => by
        rw [(Box.new u4 #[.slice A2 xs.length c2] 23).cell j]; simpa using hj) (by simp [Value.oneCell'])).mono ?_
      rintro e u6 ho6
      obtain ⟨G, rfl, ho7⟩ := id ho6
      have hcl := HO.out.2.1
      have E1 : cs.take l.length = cs := List.take_of_length_le (by omega)
      have E2 : cs.drop l.length = [] := List.drop_eq_nil_of_le (by omega)
      have ho8 := ho6
      rw [show cs ++ [.slice A2 xs.length c2] = cs.take l.length ++ [.slice A2 xs.length c2] ++ cs.drop l.length by rw [E1, E2, List.append_nil]] at ho8
      have hres' := hres.out
      rw [HK.out] at hres'
      have FIN := Lib.hid (addOutT_ins (u := u1) (lo := g) (Nat.le_refl _) hres' (by rw [HG.out]; exact B0.out.size) (Nat.le_of_lt LG.out) HO.out.2 (step D4'.out (below_alloc _ _)) (OwnV.step (show OwnV u4 u1.heap.size u4.heap.size _ q xs from HV.out.mono D3'.out.size (Nat.le_refl _)) (below_alloc _ _)) (step B0.out (step D4.out (below_alloc _ _))) ho8)
      clear ho6 ho7 ho8 hcl E1 E2 hres'
      go_wp2
      go_ret
      rw [EF.out]
      have fin := FIN.out
      rw [al_size] at fin
      exact fin
set_option maxRecDepth 100000 in
theorem impl_AddTuple (A : Option Addr) (c : Nat) (l : TL) (xs : List Int) (A' : Option Addr) (c' : Nat) (hz : szT l ≤ 1048576) (hl2 : xs.length ≤ 1048576) (w : World) (h : RT w A l) (h' : RI w A' xs) :
    Calls Try.prog 46 #[.slice A l.length c, .slice A' xs.length c'] w (AddOutT w (addT l xs)) := by
  have XO := Lib.hid (insertOnceT_any A c l xs A' c' hz hl2 w h h')
  clear h h'
  go_enter Try.func46, Try.ntmps46
  go_wp2_with fail
  refine XO.out.mono ?_
  rintro e u ⟨A2, c2, cs, bs, rfl, ho, d⟩
  have HO := Lib.hid ho
  have D := Lib.hid d
  clear ho d
  go_wp2
  go_ret
  exact ⟨A2, c2, cs, bs, rfl, HO.out, D.out⟩
end Go.Proofs.Ytdakfcgjnmmdgaa
