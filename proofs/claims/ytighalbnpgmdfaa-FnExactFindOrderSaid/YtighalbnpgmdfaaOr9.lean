/- What the two functions BlockedAtoms answer. Conditions: none beyond each theorem's own. -/
import Derived.Test.YtighalbnpgmdfaaOr8
namespace Go.Proofs.Ytighalbnpgmdfaa
open Go.ChangeShapes Go.WideShapes Go.ChangeAt Go.RowKit Go.Sort
set_option linter.unusedVariables false
set_option linter.unusedSimpArgs false

theorem usedB_step {p : SL} {k : Nat} (hk : k < p.length) {a m : Int} (hf : p.getD k (0, 0) = (a, m)) (i : Int) : usedB (p.take (k + 1)) i = (usedB (p.take k) i || decide (i = a)) := by
  rw [take_snoc p hk hf, usedB_snoc]

set_option maxRecDepth 100000 in
set_option maxHeartbeats 1000000 in
theorem impl_BlockedAtoms (S : Option Addr) (cs : Nat) (s : List Int) (L : Option Addr) (cl : Nat) (ms : ML) (H A : Option Addr) (ch c : Nat) (hs : List Int) (l : FL) (hls : s.length ≤ 1048576) (hzm : szM ms ≤ 1048576) (hh : hs.length ≤ 1048576) (hz : szF l ≤ 1048576) (w : World) (h : RI w S s) (h1 : RM w L ms) (h2 : RI w H hs) (h3 : RF w A l) :
    Calls Try.prog 32 #[.slice S s.length cs, .slice L ms.length cl, .agg #[.slice H hs.length ch, .slice A l.length c]] w (ListT w (blkI s ms hs l)) := by
  have XQ := Lib.hid (Box.new w #[.slice H hs.length ch, .slice A l.length c] 37)
  have B0 := Lib.hid (below_alloc w (.cells #[.slice H hs.length ch, .slice A l.length c] 37))
  have X1 := Lib.hid (fineI_any S cs s L cl ms H A ch c hs l hls hzm hh hz _ (h.step B0.out) (h1.step B0.out) (h2.step B0.out) (h3.step B0.out))
  have q0 := XQ.out.cell 0
  have q1 := XQ.out.cell 1
  simp only [List.getElem?_toArray, List.getElem?_cons_zero, List.getElem?_cons_succ] at q0 q1
  have HM := Lib.hid h1
  have HF := Lib.hid h3
  clear h h1 h2 h3
  by_cases ha : fineB s ms hs l = true
  · have HA := Lib.hid ha
    obtain ⟨hm5, hfew, hl1⟩ := fine_of ha
    have hl4 := hfew.1
    have FSL : (firstS ms l).length ≤ 4 := by have := gr_len ms l l.length; unfold firstS; omega
    have E := Lib.hid (show blkI s ms hs l = missI l.length (firstS ms l) by unfold blkI; rw [if_pos ha])
    rw [E.out]
    have XG := Lib.hid fun (W : World) (hW : Below w.heap.size w W) => firstSteps_any L cl ms H A ch c hs l hfew hzm hm5 W (HM.out.step hW) (HF.out.step hW)
    generalize firstS ms l = fs at XG E FSL ⊢
    clear ha hfew
    go_enter Try.func32, Try.ntmps32
    go_wp2_with fail
    refine X1.out.mono ?_
    rintro e u ⟨he, d⟩
    rw [HA.out] at he
    subst he
    have D := Lib.hid (step B0.out d)
    have XQ2 := Lib.hid (XQ.out.step d)
    have q0 := XQ2.out.cell 0
    have q1 := XQ2.out.cell 1
    simp only [List.getElem?_toArray, List.getElem?_cons_zero, List.getElem?_cons_succ] at q0 q1
    have hwu : w.heap.size < u.heap.size := XQ2.out.lt
    clear d
    go_wp2
    have tok1 : True := trivial
    have tok2 : True := trivial
    go_region_held3 (fun w' => w'.cell? ⟨w.heap.size, 0, none⟩ = some (.slice H hs.length ch) ∧ w'.cell? ⟨w.heap.size, 1, none⟩ = some (.slice A l.length c))
      (first
        | go_keep
        | (go_split_ands; refine ⟨?_, ?_⟩ <;> (rw [d1.cell (by (try simp) <;> omega)]; assumption))
        | (go_split_ands; refine ⟨?_, ?_⟩ <;> (rw [d2.cell (by (try simp) <;> omega)]; assumption)))
      (first
        | (go_at_call 64
           clear tok1
           refine (XG.out _ (by first | exact D.out | exact step D.out (below_drew _))).mono ?_
           rintro e u1 ⟨v1, rfl, hz1, d1⟩
           obtain ⟨A1, c1, rfl⟩ := hz1.form
           have b1 : Below u.heap.size u u1 := by first | exact d1 | exact und d1 | exact undN d1
           have R1 := Lib.hid hz1.rz
           have sz1 := b1.size
           clear hz1)
        | (go_at_call 66
           clear tok2
           refine (missingAtoms_any A1 c1 fs H A ch c hs l (by omega) (by omega) _ (by first | exact R1.out | exact R1.out.step (below_drew _))).mono ?_
           rintro e u2 ⟨v2, rfl, hown2, d2⟩
           have b2 : Below u1.heap.size u1 u2 := by first | exact d2 | exact und d2 | exact undN d2
           have sz2 := b2.size
           have O2 := Lib.hid (show u2.ownsRow u1.heap.size 3 1 v2 (missI l.length fs).length ((missI l.length fs).map (Value.int .i64)) from hown2)
           clear hown2))
    have T2 := Lib.hid (step D.out (step b1 b2))
    have O3 := Lib.hid (ownsRow_lo O2.out (show w.heap.size ≤ u1.heap.size by omega))
    clear d1 d2 b1 b2 R1 q0 q1
    go_wp2
    go_ret
    exact ⟨v2, rfl, by first | exact O3.out | exact O3.out.drew, by first | exact T2.out | exact T2.out.drew⟩
  · have HA := Lib.hid (show fineB s ms hs l = false by simpa using ha)
    have E := Lib.hid (show blkI s ms hs l = [] by unfold blkI; rw [if_neg (by rw [HA.out]; decide)])
    rw [E.out]
    clear ha
    go_enter Try.func32, Try.ntmps32
    go_wp2_with fail
    refine X1.out.mono ?_
    rintro e u ⟨he, d⟩
    rw [HA.out] at he
    subst he
    have D2 := Lib.hid (step B0.out d)
    clear d
    go_wp2
    go_ret
    exact ⟨_, rfl, World.ownsRow_nil _ _ _ _, D2.out⟩

set_option maxRecDepth 100000 in
set_option maxHeartbeats 1000000 in
theorem spec_BlockedAtoms (S : Option Addr) (cs : Nat) (s : List Int) (L : Option Addr) (cl : Nat) (ms : ML) (H A : Option Addr) (ch c : Nat) (hs : List Int) (l : FL) (hls : s.length ≤ 1048576) (hzm : szM ms ≤ 1048576) (hh : hs.length ≤ 1048576) (hz : szF l ≤ 1048576) (w : World) (h : RI w S s) (h1 : RM w L ms) (h2 : RI w H hs) (h3 : RF w A l) :
    Calls Try.prog 31 #[.slice S s.length cs, .slice L ms.length cl, .agg #[.slice H hs.length ch, .slice A l.length c]] w (ListT w (blkI s ms hs l)) := by
  obtain ⟨i0, hi, hz0, hz1, hz2⟩ := info_parts int_info
  have b1 := below_alloc w (.cells #[.slice H hs.length ch, .slice A l.length c] 37)
  have b2 := below_alloc (w.alloc (.cells #[.slice H hs.length ch, .slice A l.length c] 37)) (.cells #[] 3)
  have XQ := Lib.hid ((Box.new w #[.slice H hs.length ch, .slice A l.length c] 37).step b2)
  have B0 := Lib.hid (step b1 b2)
  have OU0 := World.ownsRow_lit (base := w.heap.size + 1) (e := 3) (size := 1) (w.alloc (.cells #[.slice H hs.length ch, .slice A l.length c] 37)) #[] 0 (by simp) (by unfold maxLen; omega) rfl
  rw [al_size] at OU0
  have OU := Lib.hid OU0
  have X1 := Lib.hid (l6Fine_any S cs s L cl ms H A ch c hs l hls hzm hh hz _ (h.step B0.out) (h1.step B0.out) (h2.step B0.out) (h3.step B0.out))
  have q0 := XQ.out.cell 0
  have q1 := XQ.out.cell 1
  simp only [List.getElem?_toArray, List.getElem?_cons_zero, List.getElem?_cons_succ] at q0 q1
  have HM := Lib.hid h1
  have HF := Lib.hid h3
  clear h h1 h2 h3 b1 b2 OU0
  by_cases ha : fineB s ms hs l = true
  · have HA := Lib.hid ha
    obtain ⟨hm5, hfew, hl1⟩ := fine_of ha
    have hl4 := hfew.1
    have hl4' : (l.length : Int) ≤ 4 := by omega
    have FSL : (firstS ms l).length ≤ 4 := by have := gr_len ms l l.length; unfold firstS; omega
    have E := Lib.hid (show blkI s ms hs l = missI l.length (firstS ms l) by unfold blkI; rw [if_pos ha])
    rw [E.out]
    have XG := Lib.hid fun (W : World) (hW : Below w.heap.size w W) => l6Greedy_any L cl ms H A ch c hs l hfew hzm hm5 W (HM.out.step hW) (HF.out.step hW)
    generalize firstS ms l = fs at XG E FSL ⊢
    have FSL' : (fs.length : Int) ≤ 4 := by omega
    clear ha hfew
    go_enter Try.func31, Try.ntmps31
    go_wp2_with fail
    refine X1.out.mono ?_
    rintro e u ⟨he, d⟩
    rw [HA.out] at he
    subst he
    have D := Lib.hid (step B0.out d)
    have XQ2 := Lib.hid (XQ.out.step d)
    have OU2 := Lib.hid (ownsRow_step OU.out d)
    have q0 := XQ2.out.cell 0
    have q1 := XQ2.out.cell 1
    simp only [List.getElem?_toArray, List.getElem?_cons_zero, List.getElem?_cons_succ] at q0 q1
    clear d
    go_wp2_with fail
    refine (XG.out _ D.out).mono ?_
    rintro e u2 ⟨v, rfl, hzs, d⟩
    obtain ⟨A2, c2, rfl⟩ := hzs.form
    have D2 := Lib.hid (step D.out d)
    have XQ3 := Lib.hid (XQ2.out.step d)
    have OU3 := Lib.hid (ownsRow_step OU2.out d)
    have Z3 := Lib.hid (show ZS u2 0 (.slice A2 fs.length c2) fs from hzs.lo (Nat.zero_le _))
    clear d hzs q0 q1
    go_wp2
    go_loopw [7, 9, 10, 11] (fun o i _ _ wr => ∃ (k : Nat) (Ao : Option Addr) (co : Nat) (out : List Int), k ≤ l.length ∧ i = .int .i64 k ∧ o = .slice Ao out.length co ∧ Hid (out = missI k fs) ∧ Hid (wr.ownsRow (w.heap.size + 1) 3 1 (.slice Ao out.length co) out.length (out.map (Value.int .i64))) ∧ Hid (ZS wr 0 (.slice A2 fs.length c2) fs) ∧ Hid (Below w.heap.size w wr) ∧ Hid (Box wr w.heap.size #[.slice H hs.length ch, .slice A l.length c] 37)) (fun _ i _ _ _ => l.length - (intOf i).toNat)
    case atStart => exact ⟨0, _, 0, [], by omega, rfl, rfl, Lib.hid rfl, OU3, Z3, D2, XQ3⟩
    case round =>
      obtain ⟨k, Ao, co, out, hk, rfl, rfl, hO, hown, hzs, hb, xq⟩ := hrel
      have q1 := xq.out.cell 1
      simp only [List.getElem?_toArray, List.getElem?_cons_zero, List.getElem?_cons_succ] at q1
      have hk0 : (0 : Int) ≤ (k : Int) := by omega
      by_cases hlt : k < l.length
      · have hk1 : (k : Int) < (l.length : Int) := by omega
        go_wp2
        go_loopw [10, 11] (fun f i wx => ∃ j : Nat, j ≤ fs.length ∧ i = .int .i64 j ∧ f = .bool (usedB (fs.take j) (k : Int)) ∧ wx = wr) (fun _ i _ => fs.length - (intOf i).toNat)
        case atStart => exact ⟨0, by omega, rfl, rfl, rfl⟩
        case round =>
          obtain ⟨j, hj, rfl, rfl, rfl⟩ := hrel
          have hj0 : (0 : Int) ≤ (j : Int) := by omega
          by_cases hjt : j < fs.length
          · have hj1 : (j : Int) < (fs.length : Int) := by omega
            generalize hf : fs.getD j (0, 0) = f
            obtain ⟨a, m⟩ := f
            have US := Lib.hid (usedB_step hjt hf (k : Int))
            obtain ⟨b, off, rfl, n1, e0, e1⟩ := hzs.out.rz.at_ hjt hf
            generalize usedB (fs.take j) (k : Int) = q at US ⊢
            clear hf
            cases q
            · by_cases he : a = (k : Int)
              · have d1 : (a == (k : Int)) = true := by simpa using he
                have UT := Lib.hid (show usedB (fs.take (j + 1)) (k : Int) = true by rw [US.out, he]; simp)
                clear he
                go_wp2
                go_roundw
                case rel => exact ⟨j + 1, by omega, by go_num, by rw [UT.out], by first | rfl | trivial⟩
                case measure => simp [intOf]; omega
              · have d1 : (a == (k : Int)) = false := by simpa using he
                have UT := Lib.hid (show usedB (fs.take (j + 1)) (k : Int) = false by rw [US.out, decide_eq_false fun e => he e.symm]; rfl)
                clear he
                go_wp2
                go_roundw
                case rel => exact ⟨j + 1, by omega, by go_num, by rw [UT.out], by first | rfl | trivial⟩
                case measure => simp [intOf]; omega
            · have UT := Lib.hid (show usedB (fs.take (j + 1)) (k : Int) = true by rw [US.out]; rfl)
              go_wp2
              go_roundw
              case rel => exact ⟨j + 1, by omega, by go_num, by rw [UT.out], by first | rfl | trivial⟩
              case measure => simp [intOf]; omega
          · obtain rfl : j = fs.length := by omega
            have TA := Lib.hid (show usedB (fs.take fs.length) (k : Int) = usedB fs (k : Int) by rw [take_all])
            generalize usedB (fs.take fs.length) (k : Int) = q at TA ⊢
            have OL2 : out.length ≤ k := by rw [hO.out]; exact missI_len k fs
            cases q
            · have UF := Lib.hid TA.out.symm
              obtain ⟨out2, ho2⟩ : ∃ o, o = out ++ [(k : Int)] := ⟨_, rfl⟩
              have E2 := Lib.hid (show out2 = missI (k + 1) fs by rw [missI_yes UF.out, ← hO.out, ho2])
              have EL := Lib.hid (show out2.length = out.length + 1 by rw [ho2]; simp)
              have EM := Lib.hid (show out2.map (Value.int .i64) = out.map (Value.int .i64) ++ [.int .i64 (k : Int)] by rw [ho2]; simp)
              have SZ : w.heap.size + 1 ≤ wr.heap.size := xq.out.lt
              clear ho2
              go_wp2_with (at_builtin; refine wpList_pushI rfl _ _ _ 3 rfl i0 Try.underlying22 hi hz0 hz1 hz2 rfl rfl rfl hown.out SZ (by omega) ?_; intro v' w' hown' hg'; obtain ⟨A', c', rfl⟩ := ownsRow_form hown'
                           have ZN := Lib.hid (show ZS w' 0 (.slice A2 fs.length c2) fs from World.ownsRow.kept hzs.out hg' (own_sep' hzs.out hown.out))
                           have BN := Lib.hid (show Below w.heap.size w w' from hb.out.grown hg' (by omega) (fun q hq => by have := (hown.out.lt q hq).1; omega))
                           have XN := Lib.hid (show Box w' w.heap.size #[.slice H hs.length ch, .slice A l.length c] 37 from (hg'.block w.heap.size (by omega) (by intro e; have := (hown.out.lt _ e.symm).1; omega)).trans xq.out)
                           have ON := Lib.hid hown'
                           clear hown' hg')
              go_roundw
              case rel =>
                refine ⟨k + 1, A', c', out2, by omega, by go_num, by rw [EL.out], E2, Lib.hid ?_, ZN, BN, XN⟩
                rw [EL.out, EM.out]
                exact ON.out
              case measure => simp [intOf]; omega
            · have UF := Lib.hid TA.out.symm
              have E2 := Lib.hid (show out = missI (k + 1) fs by rw [missI_no UF.out, ← hO.out])
              go_wp2
              go_roundw
              case rel => exact ⟨k + 1, Ao, co, out, by omega, by go_num, rfl, E2, hown, hzs, hb, xq⟩
              case measure => simp [intOf]; omega
      · obtain rfl : k = l.length := by omega
        go_wp2
        go_ret
        exact ⟨_, rfl, by rw [← hO.out]; exact ownsRow_lo hown.out (by omega), hb.out⟩
  · have HA := Lib.hid (show fineB s ms hs l = false by simpa using ha)
    have E := Lib.hid (show blkI s ms hs l = [] by unfold blkI; rw [if_neg (by rw [HA.out]; decide)])
    rw [E.out]
    clear ha
    go_enter Try.func31, Try.ntmps31
    go_wp2_with fail
    refine X1.out.mono ?_
    rintro e u ⟨he, d⟩
    rw [HA.out] at he
    subst he
    have D2 := Lib.hid (step B0.out d)
    have OU2 := Lib.hid (ownsRow_step OU.out d)
    clear d
    go_wp2
    go_ret
    exact ⟨_, rfl, ownsRow_lo OU2.out (by omega), D2.out⟩
end Go.Proofs.Ytighalbnpgmdfaa
