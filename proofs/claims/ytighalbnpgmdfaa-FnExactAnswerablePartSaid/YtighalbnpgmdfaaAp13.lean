/- What the model's AnswerablePart leaves. Conditions: none beyond each theorem's own. Queries that are handed back: where they lie, their marks. Conditions: none beyond each theorem's own. -/
import Derived.Test.YtighalbnpgmdfaaAp12
import Derived.Deep.AppendLies
import Derived.Deep.RegionHeld3
import Derived.Test.YtighalbnpgmdfaaAp1

namespace Go.Proofs.Ytighalbnpgmdfaa
open Go.ChangeShapes Go.WideShapes Go.ChangeAt Go.RowKit Go.Sort
set_option linter.unusedVariables false
set_option linter.unusedSimpArgs false

/-- The model's answerable part, and whether there is one. -/
def APs (w : World) (hs : List Int) (l : FL) (b : Bool) (e : Ending) (w' : World) : Prop := ∃ H A ch c, e = .returned (.tuple #[.agg #[.slice H hs.length ch, .slice A l.length c], .bool b]) ∧ Ints w' w.heap.size w'.heap.size H hs ∧ Facts w' w.heap.size w'.heap.size A l ∧ Below w.heap.size w w'
theorem atom_facts {w : World} {lo c : Nat} {A : Option Addr} {l : FL} {cs : List Value} {bs : Nat → Nat} (h : atom.OwnC w lo w.heap.size (.slice A l.length c) l cs bs) : Facts w lo w.heap.size A l := by
  rcases h.1.2 with ⟨e, h0⟩ | ⟨g, cap, cur, hv', hbg, hg, _⟩
  · intro hne; exact absurd (List.length_eq_zero_iff.1 h0) hne
  · injection hv' with e1 e2 e3
    subst e1 e3
    obtain ⟨_, hc, hp⟩ := atom.OwnC.to_P h
    exact hp.facts (by omega)
/-- The atom once more, if one of the first steps has it. -/
def onceA (l : FL) (p : SL) (k j : Nat) : FL := if usedB (p.take j) (k : Int) then [l.getD k noF] else []
theorem onceA_zero (l : FL) (p : SL) (k : Nat) : onceA l p k 0 = [] := by simp [onceA, usedB]
theorem onceA_all (l : FL) (p : SL) (k : Nat) : keepN l p k ++ onceA l p k p.length = keepN l p (k + 1) := by
  unfold onceA
  rw [take_all]
  by_cases h : usedB p (k : Int) = true
  · rw [if_pos h, keepN_yes h]
  · have h' : usedB p (k : Int) = false := by simpa using h
    rw [if_neg h, keepN_no h', List.append_nil]
theorem onceA_yes {l : FL} {p : SL} {k j : Nat} (ho : OnceP p) (hj : j < p.length) {a m : Int} (hf : p.getD j (0, 0) = (a, m)) (he : a = (k : Int)) : onceA l p k j = [] ∧ onceA l p k (j + 1) = [l.getD k noF] := by
  have h1 := ho j hj
  rw [hf, he] at h1
  unfold onceA
  rw [usedB_step hj hf, h1, if_neg (by simp), if_pos (by simp [he])]
  exact ⟨rfl, rfl⟩
theorem onceA_no {l : FL} {p : SL} {k j : Nat} (hj : j < p.length) {a m : Int} (hf : p.getD j (0, 0) = (a, m)) (he : ¬ a = (k : Int)) : onceA l p k (j + 1) = onceA l p k j := by
  unfold onceA
  rw [usedB_step hj hf, decide_eq_false fun e => he e.symm, Bool.or_false]
theorem onceA_len (l : FL) (p : SL) (k j : Nat) : (onceA l p k j).length ≤ 1 := by
  unfold onceA
  split
  · simp
  · simp

set_option maxRecDepth 100000 in
set_option maxHeartbeats 8000000 in
theorem spec_AnswerablePart (S : Option Addr) (cs : Nat) (s : List Int) (L : Option Addr) (cl : Nat) (ms : ML) (H A : Option Addr) (ch c : Nat) (hs : List Int) (l : FL) (hls : s.length ≤ 1048576) (hzm : szM ms ≤ 1048576) (hh : hs.length ≤ 1048576) (hz : szF l ≤ 1048576) (w : World) (h : RI w S s) (h1 : RM w L ms) (h2 : RI w H hs) (h3 : RF w A l) :
    Calls Try.prog 40 #[.slice S s.length cs, .slice L ms.length cl, .agg #[.slice H hs.length ch, .slice A l.length c]] w (APs w (partH s ms hs l) (partF s ms hs l) (partB s ms hs l)) := by
  obtain ⟨i0, hi, hz0, hz1, hz2⟩ := info_parts int_info
  obtain ⟨j0, hji, jz0, jz1, jz2⟩ := info_parts atom.fact_info
  obtain ⟨w0, hw0⟩ : ∃ W, W = (w.alloc (.cells #[.slice H hs.length ch, .slice A l.length c] 37)).alloc (.cells #[.slice none 0 0, .slice none 0 0] 37) := ⟨_, rfl⟩
  have E0 := Lib.hid hw0
  have S0 := Lib.hid (show w0.heap.size = w.heap.size + 1 + 1 by rw [hw0, al_size, al_size])
  have B0 := Lib.hid (show Below w.heap.size w w0 by rw [hw0]; exact step (below_alloc w _) (below_alloc _ _))
  have X0 := Lib.hid (show Box w0 w.heap.size #[.slice H hs.length ch, .slice A l.length c] 37 by rw [hw0]; exact (Box.new w _ _).step (below_alloc _ _))
  have Y0 := Lib.hid (show Box w0 (w.heap.size + 1) #[.slice none 0 0, .slice none 0 0] 37 by
    rw [hw0]
    have h := Box.new (w.alloc (.cells #[.slice H hs.length ch, .slice A l.length c] 37)) #[.slice none 0 0, .slice none 0 0] 37
    rwa [al_size] at h)
  have XF := Lib.hid (l6Fine_any S cs s L cl ms H A ch c hs l hls hzm hh hz w0 (h.step B0.out) (h1.step B0.out) (h2.step B0.out) (h3.step B0.out))
  have HS := Lib.hid h
  have HM := Lib.hid h1
  have HH := Lib.hid h2
  have HF := Lib.hid h3
  have x0 := X0.out.cell 0
  have x1 := X0.out.cell 1
  have y0 := Y0.out.cell 0
  have y1 := Y0.out.cell 1
  have y2 := Y0.out.frozen 0
  have y3 := Y0.out.frozen 1
  simp only [List.getElem?_toArray, List.getElem?_cons_zero, List.getElem?_cons_succ] at x0 x1 y0 y1
  clear h h1 h2 h3 hw0
  by_cases ha : fineB s ms hs l = true
  · have HA := Lib.hid ha
    obtain ⟨hm5, hfew, hl1⟩ := fine_of ha
    have FW := Lib.hid hfew
    have KZ : szF (partL ms l) ≤ 16 := keepN_sz hfew _ (Nat.le_refl _)
    have GL : (firstS (exM ms) l).length ≤ 4 := by have := gr_len (exM ms) l l.length; have := hfew.1; unfold firstS; omega
    have OP := Lib.hid (gr_once (exM ms) l l.length)
    have PL := Lib.hid (show partL ms l = keepN l (firstS (exM ms) l) l.length from rfl)
    have R1 := Lib.hid fun (h : queryB s hs (partL ms l) = true) => part_yes ha h
    have R2 := Lib.hid fun (h : queryB s hs (partL ms l) = false) => part_no2 (ms := ms) (l := l) h
    have hl4 := hfew.1
    have hl4' : (l.length : Int) ≤ 4 := by omega
    have EL := Lib.hid (exM_len ms)
    have XE := Lib.hid fun (W : World) (hW : Below w0.heap.size w0 W) => l10Exact_any L cl ms hzm W (HM.out.step (step B0.out hW))
    have XG := Lib.hid fun (W : World) (L' : Option Addr) (cl' : Nat) (hW : Below w0.heap.size w0 W) (hR : RM W L' (exM ms)) => l6Greedy_any L' cl' (exM ms) H A ch c hs l FW.out (by rw [szM_ex]; exact hzm) (by rw [EL.out]; exact hm5) W hR (HF.out.step (step B0.out hW))
    clear ha hfew
    generalize partL ms l = pl at KZ PL R1 R2
    rw [show gr (exM ms) l l.length = firstS (exM ms) l from rfl] at OP
    generalize firstS (exM ms) l = fp at GL PL XG OP
    generalize exM ms = xm at XE XG EL
    have GL' : (fp.length : Int) ≤ 4 := by omega
    go_enter Try.func40, Try.ntmps40
    go_wp2_with fail
    rw [← E0.out]
    refine XF.out.mono ?_
    rintro e u ⟨he, d⟩
    rw [HA.out] at he
    subst he
    have D := Lib.hid d
    have X1 := Lib.hid (X0.out.step d)
    have Y1 := Lib.hid (Y0.out.step d)
    have xl := X1.out.lt
    have yl := Y1.out.lt
    clear d x0 x1 y0 y1 y2 y3
    have x0 := X1.out.cell 0
    have x1 := X1.out.cell 1
    simp only [List.getElem?_toArray, List.getElem?_cons_zero, List.getElem?_cons_succ] at x0 x1
    go_wp2
    go_region_held3 (fun w' => w'.cell? ⟨w.heap.size, 0, none⟩ = some (.slice H hs.length ch) ∧ w'.cell? ⟨w.heap.size, 1, none⟩ = some (.slice A l.length c))
      (first
        | go_keep
        | (go_split_ands; refine ⟨?_, ?_⟩ <;> (rw [d3.cell (by (try simp) <;> omega)]; assumption))
        | (go_split_ands; refine ⟨?_, ?_⟩ <;> (rw [d4.cell (by (try simp) <;> omega)]; assumption)))
      (first
        | (go_at_call 82
           refine (XE.out _ (by first | exact D.out | exact step D.out (below_drew _))).mono ?_
           rintro e u3 ⟨A3, c3, rfl, r3, d3⟩
           have b3 := (by first | exact d3 | exact und d3 | exact undN d3 : Below u.heap.size u u3)
           have R3 := Lib.hid r3
           have B3 := Lib.hid b3
           have s3 := b3.size
           clear r3)
        | (go_at_call 63
           refine (XG.out _ A3 c3 (by first | exact step D.out B3.out | exact step (step D.out B3.out) (below_drew _)) (by first | exact R3.out | exact R3.out.step (below_drew _))).mono ?_
           rintro e u4 ⟨v4, rfl, z4, d4⟩
           obtain ⟨A4, c4, rfl⟩ := z4.form
           have b4 := (by first | exact d4 | exact und d4 | exact undN d4 : Below u3.heap.size u3 u4)
           have Z4 := Lib.hid z4.rz
           have B4 := Lib.hid (step B3.out b4)
           have s4 := b4.size
           clear z4 b4))
    have X4 := Lib.hid (X1.out.step B4.out)
    have Y4 := Lib.hid (Y1.out.step B4.out)
    have T4 := Lib.hid (step (step B0.out D.out) B4.out)
    have t4 := T4.out.size
    have xl4 := X4.out.lt
    have yl4 := Y4.out.lt
    clear d3 d4 x0 x1 b3
    have x0 := X4.out.cell 0
    have x1 := X4.out.cell 1
    simp only [List.getElem?_toArray, List.getElem?_cons_zero, List.getElem?_cons_succ] at x0 x1
    have HI := Lib.hid ((HH.out.step T4.out).step (below_alloc u4 (.cells #[] 3)))
    have LL := Lib.hid (show (u4.alloc (.cells #[] 3)).ownsRow u4.heap.size 3 1 (.slice (some ⟨u4.heap.size, 0, none⟩) 0 0) 0 [] from World.ownsRow_lit (base := u4.heap.size) (e := 3) (size := 1) u4 #[] 0 (Nat.le_refl _) (by unfold maxLen; omega) rfl)
    go_wp2_with (at_builtin; refine wpList_append_nums rfl _ _ 22 rfl u4.heap.size 3 i0 Try.underlying22 hi hz0 hz1 hz2 (.slice (some ⟨u4.heap.size, 0, none⟩) 0 0) 0 [] rfl LL.out _ _ H ch hs rfl HI.out (by omega) (by simp) ?_; intro v' w5 hown hg hat
                 have hown' : w5.ownsRow u4.heap.size 3 1 v' (0 + hs.length) (hs.map (Value.int .i64)) := by simpa using hown
                 obtain ⟨q, hv⟩ := ownV_of_row hown'
                 obtain ⟨AH, cH, rfl, _, _⟩ := hv.form
                 have HV := Lib.hid hv
                 have D5 := Lib.hid (show Below u4.heap.size u4 w5 from (below_alloc u4 (.cells #[] 3)).grown hg (by simp) (fun k hk => by have := own_some hk; omega))
                 clear hown hown' hv hg hat)
    have s5 := D5.out.size
    obtain ⟨g5, hg5⟩ : ∃ g, g = w5.heap.size := ⟨_, rfl⟩
    have gl : w.heap.size + 1 + 1 ≤ g5 := by omega
    have hb6 := below_alloc w5 (.cells #[.slice AH hs.length cH, .slice none 0 0] 37)
    have Z6 := Lib.hid (show Box (w5.alloc (.cells #[.slice AH hs.length cH, .slice none 0 0] 37)) g5 #[.slice AH hs.length cH, .slice none ([] : FL).length 0] 37 by rw [hg5]; exact Box.new _ _ _)
    have X6 := Lib.hid (show Box (w5.alloc (.cells #[.slice AH hs.length cH, .slice none 0 0] 37)) w.heap.size _ _ from (X4.out.step D5.out).step hb6)
    have Y6 := Lib.hid (show Box (w5.alloc (.cells #[.slice AH hs.length cH, .slice none 0 0] 37)) (w.heap.size + 1) _ _ from (Y4.out.step D5.out).step hb6)
    have B6 := Lib.hid (show Below w.heap.size w (w5.alloc (.cells #[.slice AH hs.length cH, .slice none 0 0] 37)) from step (step T4.out D5.out) hb6)
    have G6 := Lib.hid (show Below g5 w5 (w5.alloc (.cells #[.slice AH hs.length cH, .slice none 0 0] 37)) by rw [hg5]; exact hb6)
    have Z7 : g5 + 1 = (w5.alloc (.cells #[.slice AH hs.length cH, .slice none 0 0] 37)).heap.size := by rw [al_size, hg5]
    have ZP := Lib.hid (show RZ w5 A4 fp from Z4.out.step D5.out)
    rw [← hg5]
    have GE := Lib.hid hg5
    obtain ⟨w6, hw6⟩ : ∃ W, W = w5.alloc (.cells #[.slice AH hs.length cH, .slice none 0 0] 37) := ⟨_, rfl⟩
    rw [← hw6] at Z6 X6 Y6 B6 G6 Z7 ⊢
    clear hg5 hw6 s5 hb6 x0 x1
    go_loopw [10, 11] (fun i _ wr => ∃ (k : Nat) (out : FL) (cs : List Value) (bs : Nat → Nat) (A2 : Option Addr) (c2 : Nat), k ≤ l.length ∧ i = .int .i64 k ∧ Hid (out = keepN l fp k) ∧ out.length ≤ k ∧ Box wr g5 #[.slice AH hs.length cH, .slice A2 out.length c2] 37 ∧ Hid (atom.OwnC wr (g5 + 1) wr.heap.size (.slice A2 out.length c2) out cs bs) ∧ Hid (Box wr w.heap.size #[.slice H hs.length ch, .slice A l.length c] 37) ∧ Hid (Box wr (w.heap.size + 1) #[.slice none 0 0, .slice none 0 0] 37) ∧ Hid (Below w.heap.size w wr) ∧ Hid (Below g5 w5 wr) ∧ g5 + 1 ≤ wr.heap.size) (fun i _ _ => l.length - (intOf i).toNat)
    case atStart => exact ⟨0, [], [], fun _ => 0, none, 0, by omega, rfl, Lib.hid rfl, by simp, Z6.out, Lib.hid (ownC_nilD _ _ _), X6, Y6, B6, G6, by omega⟩
    case round =>
      obtain ⟨k, out0, cs0, bs0, A20, c20, hk, rfl, hO20, hle0, hZ00, hO0, hX0, hY0, hB0, hG0, hsz0⟩ := hrel
      have hX1c := hX0.out.cell 1
      simp only [List.getElem?_toArray, List.getElem?_cons_zero, List.getElem?_cons_succ] at hX1c
      have hk0 : (0 : Int) ≤ (k : Int) := by omega
      by_cases hlt : k < l.length
      · generalize hf : l.getD k (0, []) = f
        obtain ⟨r, xs⟩ := f
        have HFK := Lib.hid hf
        have hxl : xs.length ≤ 1048576 := by have := szF_elem hz hlt; rw [hf] at this; exact this
        have hk1 : (k : Int) < (l.length : Int) := by omega
        obtain ⟨b, off, B, c3, rfl, nb, e0w, e1w, _, hcm, hJw⟩ := HF.out.at_ hlt hf
        have E0W := Lib.hid e0w
        have E1W := Lib.hid e1w
        have JW := Lib.hid hJw
        clear hf e0w e1w hJw
        go_wp2
        go_loopw [11] (fun i2 wr2 => ∃ (j : Nat) (out : FL) (cs : List Value) (bs : Nat → Nat) (A2 : Option Addr) (c2 : Nat), j ≤ fp.length ∧ i2 = .int .i64 j ∧ Hid (out = keepN l fp k ++ onceA l fp k j) ∧ out.length ≤ k + 1 ∧ Box wr2 g5 #[.slice AH hs.length cH, .slice A2 out.length c2] 37 ∧ Hid (atom.OwnC wr2 (g5 + 1) wr2.heap.size (.slice A2 out.length c2) out cs bs) ∧ Hid (Box wr2 w.heap.size #[.slice H hs.length ch, .slice (some ⟨b, off, none⟩) l.length c] 37) ∧ Hid (Box wr2 (w.heap.size + 1) #[.slice none 0 0, .slice none 0 0] 37) ∧ Hid (Below w.heap.size w wr2) ∧ Hid (Below g5 w5 wr2) ∧ g5 + 1 ≤ wr2.heap.size) (fun i2 _ => fp.length - (intOf i2).toNat)
        case atStart => exact ⟨0, out0, cs0, bs0, A20, c20, by omega, rfl, Lib.hid (by rw [onceA_zero, List.append_nil]; exact hO20.out), by omega, hZ00, hO0, hX0, hY0, hB0, hG0, hsz0⟩
        case round =>
          rename_i wr1
          obtain ⟨j, out, cs, bs, A2, c2, hj, rfl, hO2, hle, hZ0, hO, hX, hY, hB, hG, hsz⟩ := hrel
          have hZ := Lib.hid hZ0
          clear hZ0 hZ00 hX1c
          have hj0 : (0 : Int) ≤ (j : Int) := by omega
          by_cases hjt : j < fp.length
          · have hj1 : (j : Int) < (fp.length : Int) := by omega
            generalize hg : fp.getD j (0, 0) = st
            obtain ⟨a, m⟩ := st
            have HG := Lib.hid hg
            have bP : Below w5.heap.size w5 wr := by have := hG.out; rwa [GE.out] at this
            obtain ⟨b4, off4, rfl, n4, f0, f1⟩ := (ZP.out.step bP).at_ hjt hg
            by_cases he : a = (k : Int)
            · have d5 : (a == (k : Int)) = true := by simpa using he
              obtain ⟨o1, o2⟩ := onceA_yes (l := l) (k := k) OP.out hjt hg he
              have NT := Lib.hid (show out ++ [(r, xs)] = keepN l fp k ++ onceA l fp k (j + 1) by rw [o2, hO2.out, o1, List.append_nil, show l.getD k noF = (r, xs) from HFK.out])
              have LO := Lib.hid (show out.length ≤ k by rw [hO2.out, o1, List.append_nil]; exact keepN_len l fp k)
              have x1 := hX.out.cell 1
              have q0 := hZ.out.cell 0
              have q1 := hZ.out.cell 1
              have q2 := hZ.out.frozen 0
              have q3 := hZ.out.frozen 1
              simp only [List.getElem?_toArray, List.getElem?_cons_zero, List.getElem?_cons_succ] at x1 q0 q1
              have e0 := (hB.out.cell (p := ⟨b, off + k * 2, none⟩) nb).trans E0W.out
              have e1 := (hB.out.cell (p := ⟨b, off + k * 2 + 1, none⟩) nb).trans E1W.out
              have XA := Lib.hid fun (W : World) (b : Below wr.heap.size wr W) => (l3Atom_any r B c3 xs hxl W ((JW.out.step hB.out).step b)).mono fun _ _ h => h.toR
              have oL : out.length ≤ 4 := by have := LO.out; omega
              clear hg he o1 o2 q0 q2 bP f1
              (try clear E0); (try clear S0); (try clear B0); (try clear X0); (try clear Y0); (try clear XF); (try clear HS); (try clear HM); (try clear HH); (try clear HF); (try clear HA); (try clear FW); (try clear KZ); (try clear GL); (try clear OP); (try clear PL); (try clear R1); (try clear R2); (try clear EL); (try clear XE); (try clear XG); (try clear D); (try clear X1); (try clear Y1); (try clear xl); (try clear yl); (try clear R3); (try clear B3); (try clear s3); (try clear Z4); (try clear B4); (try clear s4); (try clear X4); (try clear Y4); (try clear T4); (try clear t4); (try clear xl4); (try clear yl4); (try clear HI); (try clear LL); (try clear HV); (try clear D5); (try clear Z6); (try clear X6); (try clear Y6); (try clear B6); (try clear G6); (try clear Z7); (try clear ZP); (try clear hZ00); (try clear hO0); (try clear hX0); (try clear hY0); (try clear hB0); (try clear hG0); (try clear hO20); (try clear HFK); (try clear HG); (try clear hle0); (try clear hsz0); (try clear hO2); (try clear E0W); (try clear E1W); (try clear JW); (try clear hzm); (try clear hls); (try clear hh); (try clear hi); (try clear hz0); (try clear hz1); (try clear hz2)
              go_wp2
              go_region_law (first
                | (refine callV2 rfl 83 _ _ _ _ rfl (.int .i64 r) (.slice B xs.length c3) rfl rfl (by kernel_rfl) (R := fun v' w' => ∃ A c q, v' = .agg #[.int .i64 r, .slice A xs.length c] ∧ OwnV w' wr.heap.size w'.heap.size (.slice A xs.length c) q xs ∧ Below wr.heap.size wr w') ((XA.out _ (by first | exact Below.refl _ _ | exact below_drew _)).mono (fun e w' h => by
                     obtain ⟨v, e1, A, c, q, e2, e3, e4⟩ := h
                     exact ⟨v, e1, A, c, q, e2, e3, by first | exact e4 | exact und e4 | exact undN e4⟩)) ?_
                   rintro _ u5 ⟨A5, c5, q5, rfl, hv5, b5⟩
                   have q15 := (b5.cell (p := ⟨g5, 1, none⟩) (by (try simp) <;> omega)).trans q1
                   have q17 := ((below_alloc u5 (.cells #[.int .i64 r, .slice A5 xs.length c5] 73)).cell (p := ⟨g5, 1, none⟩) (by have := b5.size; (try simp) <;> omega)).trans q15
                   have HV5 := Lib.hid hv5
                   have B5 := Lib.hid b5
                   have HO5 := Lib.hid ((hO.out.cur (Nat.le_refl _) b5).cur b5.size (below_alloc u5 (.cells #[.int .i64 r, .slice A5 xs.length c5] 73)))
                   clear hv5 b5 x1 e0 e1)
                | (refine step_append_lies _ (by rfl) _ _ _ (by rfl) (g5 + 1) 73 j0 _ 2 32 Try.underlying35 hji jz0 jz1 jz2 rfl (by omega) (.slice A2 out.length c2) out.length cs (by rfl) (by first | exact HO5.out.1 | exact HO5.out.1.drew)
                     ⟨u5.heap.size, 0, none⟩ 1 1 [.int .i64 r, .slice A5 xs.length c5] (by rfl) (by rfl) (World.news_of_block (cs := #[.int .i64 r, .slice A5 xs.length c5]) (t := 73) (fr := (0, 0)) (heap_alloc_new u5 _)) (by simp [Value.oneCell']) (by omega) (by unfold maxLen; omega) (by omega) (by have := B5.out.size; (try simp) <;> omega) (u5.heap.size + 1) (by simp) ?_
                   intro g31 cap31 v31 hown31 hgrow31 hat31 hlt31
                   obtain ⟨bs31, ho31, b31⟩ := app_done hsz B5.out HV5.out HO5.out ⟨hgrow31.os, hgrow31.tape, hgrow31.output, hgrow31.size, hgrow31.block⟩ hown31
                   have HO31 := Lib.hid ho31
                   have HB31 := Lib.hid b31
                   have q16 := (b31.cell (p := ⟨g5, 1, none⟩) (by (try simp) <;> omega)).trans q1
                   have q36 := (b31.frozen (p := ⟨g5, 1, none⟩) (by (try simp) <;> omega)).trans q3
                   clear hown31 hgrow31 hat31 hlt31 ho31 b31 q15 q17))
              all_goals
                have z31 := HB31.out.size
                clear q16 q36 q1 q3
                go_wp2
                go_roundw
                case rel => exact ⟨j + 1, out ++ [(r, xs)], _, bs31, some ⟨g31, 0, none⟩, cap31, by omega, by go_num, NT, by rw [List.length_append]; simp; have := LO.out; omega, drp_rel gl hsz hZ.out HO31.out hX.out hY.out hB.out hG.out HB31.out⟩
                case measure => simp [intOf]; omega
            · have d5 : (a == (k : Int)) = false := by simpa using he
              have NT := Lib.hid (show out = keepN l fp k ++ onceA l fp k (j + 1) by rw [onceA_no hjt hg he]; exact hO2.out)
              clear hg he bP f1
              go_wp2
              go_roundw
              case rel => exact ⟨j + 1, out, cs, bs, A2, c2, by omega, by go_num, NT, hle, hZ.out, hO, hX, hY, hB, hG, hsz⟩
              case measure => simp [intOf]; omega
          · obtain rfl : j = fp.length := by omega
            have NK := Lib.hid (show out = keepN l fp (k + 1) by rw [hO2.out, onceA_all])
            go_wp2
            go_roundw
            case rel => exact ⟨k + 1, out, cs, bs, A2, c2, by omega, by go_num, NK, by omega, hZ.out, hO, hX, hY, hB, hG, hsz⟩
            case measure => simp [intOf]; omega
      · obtain rfl : k = l.length := by omega
        have OO := Lib.hid (show out0 = pl by rw [hO20.out, PL.out])
        have VI := Lib.hid (show Ints wr u4.heap.size g5 AH hs from (show Ints w5 u4.heap.size g5 AH hs by have := (HV.out.ints).2.2.2; rwa [← GE.out] at this).keep fun b _ hb => hG0.out.block b hb)
        have VW := Lib.hid (show RI wr AH hs from VI.out.mono (Nat.zero_le _) (by omega))
        have OQ := Lib.hid (show atom.OwnC wr (g5 + 1) wr.heap.size (.slice A20 pl.length c20) pl cs0 bs0 by have := hO0.out; rwa [OO.out] at this)
        have FR := Lib.hid (show RF wr A20 pl from atom.OwnC.rf OQ.out)
        have hZq := Lib.hid hZ00
        rw [OO.out] at hZq
        have XQ := Lib.hid (spec_IsQuery S AH A20 cs cH c20 s hs pl hls (by omega) (by omega) wr (HS.out.step hB0.out) VW.out FR.out)
        clear hZ00
        have z0 := hZq.out.cell 0
        have z1 := hZq.out.cell 1
        simp only [List.getElem?_toArray, List.getElem?_cons_zero, List.getElem?_cons_succ] at z0 z1
        by_cases hq : queryB s hs pl = true
        · have HQ := Lib.hid hq
          obtain ⟨r1, r2, r3⟩ := R1.out hq
          have RR := Lib.hid (And.intro r1 (And.intro r2 r3))
          clear hq r1 r2 r3 R1 R2
          go_wp2_with fail
          refine XQ.out.mono ?_
          rintro e u9 ⟨he, d⟩
          rw [HQ.out] at he
          subst he
          have V9 := Lib.hid (VI.out.keep fun b _ hb => d.block b (by omega))
          have O9 := Lib.hid (OQ.out.step d)
          have s9 := d.size
          have Z9 := Lib.hid (hZq.out.step d)
          have Y9 := Lib.hid (hY0.out.step d)
          have B9 := Lib.hid (step hB0.out d)
          clear d z0 z1
          have z0 := Z9.out.cell 0
          have z1 := Z9.out.cell 1
          have y0 := Y9.out.cell 0
          have y1 := Y9.out.cell 1
          have y2 := Y9.out.frozen 0
          have y3 := Y9.out.frozen 1
          have yl9 := Y9.out.lt
          have hne : w.heap.size + 1 ≠ g5 := by omega
          simp only [List.getElem?_toArray, List.getElem?_cons_zero, List.getElem?_cons_succ] at z0 z1 y0 y1
          go_wp2
          refine bodyPost_ret (v := .tuple #[.agg #[.slice AH hs.length cH, .slice A20 pl.length c20], .bool true]) (by simp [results, Try.results40, go_sem, y0, y1, y2, y3]) rfl ?_
          rw [RR.out.1, RR.out.2.1, RR.out.2.2]
          have hb := Below.setCell (Below.setCell B9.out (p := ⟨w.heap.size + 1, 0, none⟩) (by (try simp) <;> omega) (.slice AH hs.length cH)) (p := ⟨w.heap.size + 1, 1, none⟩) (by (try simp) <;> omega) (.slice A20 pl.length c20)
          refine ⟨AH, A20, cH, c20, rfl, ?_, ?_, hb⟩
          · have h2 := V9.out.keep (fun b hb _ => Below.heap_setCell u9 ⟨w.heap.size + 1, 0, none⟩ (.slice AH hs.length cH) b (by (try simp); omega))
            have h3 := h2.keep (fun b hb _ => Below.heap_setCell _ ⟨w.heap.size + 1, 1, none⟩ (.slice A20 pl.length c20) b (by (try simp); omega))
            exact h3.mono (by omega) (by rw [size2]; omega)
          · have h1 := ownC_setD (p := ⟨w.heap.size + 1, 1, none⟩) (u := .slice A20 pl.length c20) (ownC_setD (p := ⟨w.heap.size + 1, 0, none⟩) (u := .slice AH hs.length cH) O9.out (by (try simp); omega)) (by (try simp); omega)
            exact Facts.mono (atom_facts (lo := g5 + 1) (cs := cs0) (bs := bs0) (by rw [size2]; exact h1)) (by omega) (Nat.le_refl _)
        · have hq' : queryB s hs pl = false := by simpa using hq
          have HQ := Lib.hid hq'
          obtain ⟨r1, r2, r3⟩ := R2.out hq'
          have RR := Lib.hid (And.intro r1 (And.intro r2 r3))
          clear hq hq' r1 r2 r3 R1 R2
          go_wp2_with fail
          refine XQ.out.mono ?_
          rintro e u9 ⟨he, d⟩
          rw [HQ.out] at he
          subst he
          have Y9 := Lib.hid (hY0.out.step d)
          have B9 := Lib.hid (step hB0.out d)
          clear d z0 z1
          have y0 := Y9.out.cell 0
          have y1 := Y9.out.cell 1
          have y2 := Y9.out.frozen 0
          have y3 := Y9.out.frozen 1
          have yl9 := Y9.out.lt
          simp only [List.getElem?_toArray, List.getElem?_cons_zero, List.getElem?_cons_succ] at y0 y1
          go_wp2
          refine bodyPost_ret (v := .tuple #[.agg #[.slice none 0 0, .slice none 0 0], .bool false]) (by simp [results, Try.results40, go_sem, y0, y1, y2, y3]) rfl ?_
          rw [RR.out.1, RR.out.2.1, RR.out.2.2]
          have hb := Below.setCell (Below.setCell B9.out (p := ⟨w.heap.size + 1, 0, none⟩) (by (try simp) <;> omega) (.slice none 0 0)) (p := ⟨w.heap.size + 1, 1, none⟩) (by (try simp) <;> omega) (.slice none 0 0)
          exact ⟨none, none, 0, 0, rfl, fun h => absurd rfl h, fun h => absurd rfl h, hb⟩
  · have HA := Lib.hid (show fineB s ms hs l = false by simpa using ha)
    obtain ⟨e1, e2, e3⟩ := part_no1 (hs := hs) (l := l) HA.out
    rw [e1, e2, e3]
    clear ha e1 e2 e3
    go_enter Try.func40, Try.ntmps40
    go_wp2_with fail
    rw [← E0.out]
    refine XF.out.mono ?_
    rintro e u ⟨he, d⟩
    rw [HA.out] at he
    subst he
    have D := Lib.hid (step B0.out d)
    have Y1 := Y0.out.step d
    have y0 := Y1.cell 0
    have y1 := Y1.cell 1
    have y2 := Y1.frozen 0
    have y3 := Y1.frozen 1
    have yl := Y1.lt
    simp only [List.getElem?_toArray, List.getElem?_cons_zero, List.getElem?_cons_succ] at y0 y1
    clear d x0 x1 Y1
    go_wp2
    refine bodyPost_ret (v := .tuple #[.agg #[.slice none 0 0, .slice none 0 0], .bool false]) (by simp [results, Try.results40, go_sem, y0, y1, y2, y3]) rfl ?_
    have hb := Below.setCell (Below.setCell D.out (p := ⟨w.heap.size + 1, 0, none⟩) (by (try simp) <;> omega) (.slice none 0 0)) (p := ⟨w.heap.size + 1, 1, none⟩) (by (try simp) <;> omega) (.slice none 0 0)
    exact ⟨none, none, 0, 0, rfl, fun h => absurd rfl h, fun h => absurd rfl h, hb⟩
end Go.Proofs.Ytighalbnpgmdfaa

namespace Go.Proofs.Ytighalbnpgmdfaa
open Go.ChangeShapes Go.WideShapes Go.ChangeAt Go.RowKit Go.Sort
set_option linter.unusedVariables false
set_option linter.unusedSimpArgs false

/-- A query that is read, in blocks below hi. -/
def QV (w : World) (hi : Nat) (H A : Option Addr) (hs : List Int) (l : FL) : Prop := Ints w 0 hi H hs ∧ Facts w 0 hi A l ∧ hi ≤ w.heap.size
theorem QV.keep {w w' : World} {hi : Nat} {H A : Option Addr} {hs : List Int} {l : FL} (h : QV w hi H A hs l) (hk : ∀ b, b < hi → w'.heap[b]? = w.heap[b]?) (hs' : w.heap.size ≤ w'.heap.size) : QV w' hi H A hs l :=
  ⟨h.1.keep fun b _ h2 => hk b h2, h.2.1.keep fun b _ h2 => hk b h2, Nat.le_trans h.2.2 hs'⟩
theorem QV.step {w w' : World} {hi : Nat} {H A : Option Addr} {hs : List Int} {l : FL} (h : QV w hi H A hs l) (b : Below w.heap.size w w') : QV w' hi H A hs l :=
  h.keep (fun q hq => b.block q (by have := h.2.2; omega)) b.size
theorem QV.ri {w : World} {hi : Nat} {H A : Option Addr} {hs : List Int} {l : FL} (h : QV w hi H A hs l) : RI w H hs := h.1.mono (Nat.le_refl _) h.2.2
theorem QV.rf {w : World} {hi : Nat} {H A : Option Addr} {hs : List Int} {l : FL} (h : QV w hi H A hs l) : RF w A l := h.2.1.mono (Nat.le_refl _) h.2.2
/-- Marks in a query of the call's own. -/
def QN (w : World) (lo hi : Nat) (H A : Option Addr) (hs : List Int) (l : FL) : Prop := ∃ mid, Ints w lo mid H (marks 1 hs.length) ∧ Facts w mid hi A (mkK (1 + hs.length) l l.length) ∧ mid ≤ hi ∧ hi ≤ w.heap.size
theorem QN.step {w w' : World} {lo hi : Nat} {H A : Option Addr} {hs : List Int} {l : FL} (h : QN w lo hi H A hs l) (b : Below w.heap.size w w') : QN w' lo hi H A hs l := by
  obtain ⟨mid, h1, h2, h3, h4⟩ := h
  exact ⟨mid, h1.below b (by omega), h2.below b h4, h3, Nat.le_trans h4 b.size⟩
theorem QN.ri {w : World} {lo hi : Nat} {H A : Option Addr} {hs : List Int} {l : FL} (h : QN w lo hi H A hs l) : RI w H (marks 1 hs.length) := by
  obtain ⟨mid, h1, h2, h3, h4⟩ := h
  exact h1.mono (Nat.zero_le _) (by omega)
theorem QN.rf {w : World} {lo hi : Nat} {H A : Option Addr} {hs : List Int} {l : FL} (h : QN w lo hi H A hs l) : RF w A (mkK (1 + hs.length) l l.length) := by
  obtain ⟨mid, h1, h2, h3, h4⟩ := h
  exact h2.mono (Nat.zero_le _) h4
/-- A query of the call's own that lies from lo to below hi. -/
def QY (w : World) (lo hi : Nat) (H A : Option Addr) (ch c : Nat) (hs : List Int) (l : FL) : Prop := ∃ mid, QO w lo mid hi H A ch c hs l
theorem QY.keep {w w' : World} {lo hi : Nat} {H A : Option Addr} {ch c : Nat} {hs : List Int} {l : FL} (h : QY w lo hi H A ch c hs l) (hk : ∀ b, lo ≤ b → b < hi → w'.heap[b]? = w.heap[b]?) (hz : w.heap.size ≤ w'.heap.size) : QY w' lo hi H A ch c hs l := by
  obtain ⟨mid, h⟩ := h
  exact ⟨mid, h.keep hk hz⟩
theorem QY.step {w w' : World} {lo hi : Nat} {H A : Option Addr} {ch c : Nat} {hs : List Int} {l : FL} (h : QY w lo hi H A ch c hs l) (d : Below w.heap.size w w') : QY w' lo hi H A ch c hs l := by
  obtain ⟨mid, h⟩ := h
  exact ⟨mid, h.step d⟩
theorem QY.ri {w : World} {lo hi : Nat} {H A : Option Addr} {ch c : Nat} {hs : List Int} {l : FL} (h : QY w lo hi H A ch c hs l) : RI w H hs := by
  obtain ⟨mid, h⟩ := h
  exact h.ri
theorem QY.rf {w : World} {lo hi : Nat} {H A : Option Addr} {ch c : Nat} {hs : List Int} {l : FL} (h : QY w lo hi H A ch c hs l) : RF w A l := by
  obtain ⟨mid, h⟩ := h
  exact h.rf
theorem QY.rng {w : World} {lo hi : Nat} {H A : Option Addr} {ch c : Nat} {hs : List Int} {l : FL} (h : QY w lo hi H A ch c hs l) : lo ≤ hi ∧ hi ≤ w.heap.size := by
  obtain ⟨mid, h⟩ := h
  exact ⟨Nat.le_trans h.2.2.1 h.2.2.2.1, h.2.2.2.2⟩
theorem markQuery_y (lo hi : Nat) (H A : Option Addr) (ch c : Nat) (hs : List Int) (l : FL) (hz : szQ hs l ≤ 1048576) (w : World) (h : QY w lo hi H A ch c hs l) :
    Calls Try.prog 28 #[.agg #[.slice H hs.length ch, .slice A l.length c], .int .i64 1] w fun e w' => e = .returned (.int .i64 (1 + szQ hs l)) ∧ Mk lo hi w w' ∧ QN w' lo hi H A hs l := by
  obtain ⟨mid, h⟩ := h
  refine (markQuery_o lo mid hi H A ch c hs l 1 (by omega) (by omega) hz w h).mono ?_
  rintro e w' ⟨h1, h2, h3, h4⟩
  exact ⟨h1, h2, mid, h3, h4, h.2.2.2.1, Nat.le_trans h.2.2.2.2 h2.below.size⟩
end Go.Proofs.Ytighalbnpgmdfaa
