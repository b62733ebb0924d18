/- What the program's MinimalUnion answers. Conditions: none beyond each theorem's own. -/
import Derived.Test.YtimlpdcambmcjaaGreatT5

namespace Go.Proofs.YtimlpdcambmcjaaGreat
open Go.ChangeShapes Go.WideShapes Go.ChangeAt Go.RowKit Go.Sort
set_option linter.unusedVariables false
set_option linter.unusedSimpArgs false

theorem cells_new2k (w : World) (v1 v2 : Value) (t : TypeId) (B : Nat) (hB : B = w.heap.size) : (w.alloc (.cells #[v1, v2] t)).cell? ⟨B, 0, none⟩ = some v1 ∧ (w.alloc (.cells #[v1, v2] t)).cell? ⟨B, 1, none⟩ = some v2 := by
  subst hB
  exact cells_new2u w v1 v2 t
theorem cells_new2kd (w : World) (v1 v2 : Value) (t : TypeId) (B : Nat) (hB : B = w.heap.size) : (w.alloc (.cells #[v1, v2] t)).drew.cell? ⟨B, 0, none⟩ = some v1 ∧ (w.alloc (.cells #[v1, v2] t)).drew.cell? ⟨B, 1, none⟩ = some v2 := cells_new2k w v1 v2 t B hB
/-- What is left of a row's queries: rows with the numbers that minI names. -/
def DropOut (w : World) (F : Nat → Value) (ix : List Nat) (e : Ending) (w' : World) : Prop := ∃ A c, e = .returned (.slice A ix.length c) ∧ w'.ownsRow w.heap.size 29 2 (.slice A ix.length c) ix.length (cellsI F ix) ∧ Below w.heap.size w w'

set_option maxHeartbeats 2000000 in
set_option maxRecDepth 100000 in
theorem dropEachU_any (gb : Nat) (S : Option Addr) (cs : Nat) (s : List Int) (g M lo hi c : Nat) (us : UL) (F : Nat → Value) (p q : Nat → Nat) (hls : s.length ≤ 1048576) (hz : szU us ≤ 1048576) (w : World) (hS : RI w S s) (hr : w.rowIs g 29 M F) (hM : us.length * 2 ≤ M) (hg : g < w.heap.size) (hP : PartsU w lo hi F p q us) (b1 : Box w gb #[.slice S s.length cs] 22) :
    Calls Tryz.prog 70 #[.slice (some ⟨g, 0, none⟩) us.length c, .func (.func 71) #[] #[.pointer (some ⟨gb, 0, none⟩)]] w (DropOut w F (minI s (atU us) [] 0 us.length)) := by
  have hul := szU_len hz
  have hul' : (us.length : Int) ≤ 1048576 := by omega
  have HS := Lib.hid hS
  have HP := Lib.hid hP
  have HR := Lib.hid hr
  have G1 := Lib.hid b1
  have HO := Lib.hid (hP.one (ix := List.range us.length) fun j hj => List.mem_range.1 hj)
  have XCl := Lib.hid (cloneQ_any g 0 us.length c (cellsI F (List.range us.length)) (by rw [cellsI_len, List.length_range]) (by omega) HO.out w hg (fun j u hj => by
    obtain ⟨h1, h2⟩ := cellsI_range F hj
    rw [Nat.zero_add, h2]
    exact hr.cell (by omega)))
  clear hS hr hP b1 HO
  go_enter Tryz.func70, Tryz.ntmps70
  go_wp2_with fail
  refine XCl.out.mono ?_
  rintro e u1 ⟨v1, rfl, ho1, d1⟩
  obtain ⟨A1, c1, rfl⟩ := ownsRow_form ho1
  have O1 := Lib.hid (show u1.ownsRow w.heap.size 29 2 (.slice A1 us.length c1) (([] : List Nat).length + us.length) (cellsI F ([] ++ List.range' 0 us.length)) by
    rw [List.length_nil, Nat.zero_add, List.nil_append, ← List.range_eq_range']
    exact ho1)
  have D1 := Lib.hid d1
  clear ho1 d1
  go_wp2
  go_loopw [5, 6, 14] (fun x a i wr => ∃ (kept : List Nat) (r m L : Nat) (A : Option Addr) (cx : Nat), r + m = us.length ∧ kept.length ≤ r ∧ L = kept.length + m ∧ i = .int .i64 (r : Int) ∧ a = .int .i64 (kept.length : Nat) ∧ x = .slice A L cx ∧ Hid ((kept ++ List.range' r m).Sublist (List.range us.length)) ∧ Hid (wr.ownsRow w.heap.size 29 2 (.slice A L cx) (kept.length + m) (cellsI F (kept ++ List.range' r m))) ∧ Hid (minI s (atU us) kept r m = minI s (atU us) [] 0 us.length) ∧ Hid (Below w.heap.size w wr)) (fun _ _ i _ => us.length - (intOf i).toNat)
  case atStart => exact ⟨[], 0, us.length, us.length, A1, c1, by omega, Nat.le_refl _, by simp, rfl, rfl, rfl, Lib.hid (by rw [List.nil_append, ← List.range_eq_range']; exact List.Sublist.refl _), O1, Lib.hid rfl, D1⟩
  case round =>
    clear O1 D1
    obtain ⟨kept, r, m, L, A, cx, hrm, hkr, hL, rfl, rfl, rfl, hX, hO, hI, hB⟩ := hrel
    have hr0 : (0 : Int) ≤ (r : Int) := by omega
    have hk0 : (0 : Int) ≤ (kept.length : Int) := by omega
    cases m with
    | zero =>
      obtain rfl : r = us.length := by omega
      have hL2 : L = (minI s (atU us) [] 0 us.length).length := by rw [← hI.out, minI, hL]; rfl
      have EX := Lib.hid (show DropOut w F (minI s (atU us) [] 0 us.length) (.returned (.slice A L cx)) wr by
        have e1 : minI s (atU us) [] 0 us.length = kept ++ List.range' us.length 0 := by rw [← hI.out, minI]; simp
        refine ⟨A, cx, by rw [hL2], ?_, hB.out⟩
        rw [← hL2, e1]
        have := hO.out
        rw [← hL] at this
        exact this)
      clear hL2
      go_wp2
      go_ret
      exact EX.out
    | succ m =>
      have hlt : r < us.length := by omega
      have hr1 : (r : Int) < (us.length : Int) := by omega
      have hkL : kept.length + 1 ≤ L := by omega
      have hPw := HP.out.step hB.out
      have HPw := Lib.hid hPw
      obtain ⟨b, rfl, hbl, hLc, hcm⟩ : ∃ b, A = some ⟨b, 0, none⟩ ∧ b < wr.heap.size ∧ L ≤ cx ∧ cx ≤ maxLen := by
        rcases hO.out.2 with ⟨hv, h0⟩ | ⟨g', cap, cur, hv, hbk, hk, h1, h2, _⟩
        · omega
        · injection hv with e1 e2 e3
          subst e1 e2 e3
          exact ⟨g', rfl, (Array.getElem?_eq_some_iff.1 hk).1, h1, h2⟩
      unfold maxLen at hcm
      obtain ⟨H, ch, B, cb, mid, f0, f1, hlc, hcb, hQ, _, _⟩ := hPw.2.1 r hlt
      have hread : RI wr H (us.getD r noU).1 ∧ RF wr B (us.getD r noU).2 := by
        obtain ⟨⟨r', hv⟩, ha, hm1, hm2, hm3⟩ := hQ
        refine ⟨(hv.ints).2.2.2.mono (Nat.zero_le _) (by omega), ?_⟩
        rcases ha with ha | ⟨g', m', hB', ha, hm'⟩
        · rw [ha]; exact fun hne => absurd rfl hne
        · rw [hB']; exact (ha.facts hm').mono (Nat.zero_le _) hm3
      generalize hf : us.getD r noU = f at f0 f1 hread
      obtain ⟨hs, l⟩ := f
      have hfa : atU us r = (hs, l) := hf
      obtain ⟨_, hhl, hll⟩ := szU_elem hz hlt hf
      have RH := Lib.hid hread.1
      have RB := Lib.hid hread.2
      have hrw : wr.rowIs g 29 M F := World.rowIs.of_block HR.out (hB.out.block g hg)
      have e0 := (hrw.cell (show r * 2 < M by omega)).trans (congrArg some f0)
      have e1 := (hrw.cell (show r * 2 + 1 < M by omega)).trans (congrArg some f1)
      have hsz := hB.out.size
      have XC := Lib.hid fun (W : World) (hW : Below (wr.alloc (.cells #[.slice H hs.length ch, .slice B l.length cb] 29)).heap.size (wr.alloc (.cells #[.slice H hs.length ch, .slice B l.length cb] 29)) W) (Bk n1 n2 d1 d2 o2 : Nat) (C0 : W.cell? ⟨Bk, 0, none⟩ = some (.slice (some ⟨b, 0, none⟩) n1 d1)) (C1 : W.cell? ⟨Bk, 1, none⟩ = some (.slice (some ⟨b, o2, none⟩) n2 d2)) (q1 : n1 = kept.length) (q2 : n2 = m) (q3 : m = 0 ∨ o2 = (kept.length + 1) * 2) =>
        (show Calls Tryz.prog 115 #[.slice (some ⟨Bk, 0, none⟩) 2 2] W (fun e w' => ∃ A c, e = .returned (.slice A (kept.length + m) c) ∧ Hid (w'.ownsRow wr.heap.size 29 2 (.slice A (kept.length + m) c) (kept.length + m) (cellsI F (kept ++ List.range' (r + 1) m))) ∧ Hid (Below (wr.alloc (.cells #[.slice H hs.length ch, .slice B l.length cb] 29)).heap.size (wr.alloc (.cells #[.slice H hs.length ch, .slice B l.length cb] 29)) w')) from (concat_drop b cx w.heap.size lo hi F p q us kept r m hX.out (by omega) wr HPw.out (by have := hO.out; rw [hL] at this; exact this) W (step (below_alloc wr _) hW) Bk n1 n2 d1 d2 o2 C0 C1 q1 q2 q3).mono fun e w' ⟨A, c, e1, o, b2⟩ => ⟨A, c, e1, Lib.hid o, Lib.hid (step hW b2)⟩)
      have SX := Lib.hid (sub_less.trans hX.out : (kept ++ List.range' (r + 1) m).Sublist (List.range us.length))
      have HC := Lib.hid (show cinB s hs l ((kept ++ List.range' (r + 1) m).map (atU us)) = cinB s (atU us r).1 (atU us r).2 ((kept ++ List.range' (r + 1) m).map (atU us)) by rw [hfa])
      have hnl : ((kept ++ List.range' (r + 1) m).map (atU us)).length = kept.length + m := by rw [List.length_map, left_len]
      have NL := Lib.hid hnl
      clear hf hfa f0 f1 hread hQ hrw hPw hnl
      obtain ⟨k1, hk1⟩ : ∃ k1, k1 = kept.length + 1 := ⟨_, rfl⟩
      have K1 := Lib.hid hk1
      have ke : (kept.length : Int) + 1 = (k1 : Int) := by omega
      have kx1 : IntKind.i64.wrap ((kept.length : Int) + 1) = (k1 : Int) := by rw [ke]; exact IntWalk.i64_in _ ⟨by omega, by omega⟩
      have kx2 : IntKind.i64.wrap (k1 : Int) = (k1 : Int) := IntWalk.i64_in _ ⟨by omega, by omega⟩
      have kw0 : (0 : Int) ≤ (k1 : Int) := by omega
      have kw1 : (k1 : Int) ≤ 1048576 := by omega
      have kw2 : (k1 : Int) ≤ (L : Int) := by omega
      have kw3 : k1 ≤ L := by omega
      have cL : (L : Int) ≤ (cx : Int) := by omega
      have cM : (cx : Int) ≤ 9223372036854775807 := by omega
      have kc1 : (kept.length : Int) ≤ (cx : Int) := by omega
      have kb3 : (kept.length : Int) ≤ 1048576 := by omega
      have HL := Lib.hid hL
      have HRM := Lib.hid hrm
      clear hk1 hL hrm
      go_wp2
      by_cases hcap : cx = k1
      · subst hcap
        go_region_held3 (fun w' => w'.cell? ⟨wr.heap.size, 0, none⟩ = some (.slice H hs.length ch))
          (first
            | go_keep)
          (first
            | (go_at_call 115; refine (XC.out _ (by first | exact below_alloc _ _ | exact step (below_drew _) (below_alloc _ _) | exact step (below_alloc _ _) (below_drew _)) _ _ _ _ _ _ (by first | exact (cells_new2kd _ _ _ _ _ (by first | rw [al_size] | simp)).1 | exact (cells_new2k _ _ _ _ _ (by first | rw [al_size] | simp)).1) (by first | exact (cells_new2kd _ _ _ _ _ (by first | rw [al_size] | simp)).2 | exact (cells_new2k _ _ _ _ _ (by first | rw [al_size] | simp)).2) (by omega) (by have := K1.out; have := HL.out; omega) (by have := K1.out; have := HL.out; omega)).mono ?_; rintro e u2 ⟨A3, c3, rfl, ho, hb⟩
               have X8 := (Box.new wr #[.slice H hs.length ch, .slice B l.length cb] 29).step hb.out
               have y0 := X8.cell 0
               have y1 := X8.cell 1
               simp only [List.getElem?_toArray, List.getElem?_cons_zero, List.getElem?_cons_succ] at y0 y1
               clear X8))
        have HB2 := Lib.hid (step (below_alloc wr _) hb.out)
        have hb2 := HB2.out
        have XM := Lib.hid (show Calls Tryz.prog 71 #[.agg #[.slice H hs.length ch, .slice B l.length cb], .slice A3 (kept.length + m) c3, .pointer (some ⟨gb, 0, none⟩)] u2 (fun e w' => e = .returned (.bool (cinB s hs l ((kept ++ List.range' (r + 1) m).map (atU us)))) ∧ Below u2.heap.size u2 w') by
          have hru := rowsU (A := A3) (c0 := c3) (HPw.out.step hb2) (sub_lt SX.out) (by rw [left_len]; exact ho.out)
          have h := minU1_any gb S cs s H B ch cb hs l A3 c3 ((kept ++ List.range' (r + 1) m).map (atU us)) hls hhl hll (szU_sub SX.out hz) u2 (HS.out.step (step hB.out hb2)) (RH.out.step hb2) (RB.out.step hb2) hru (G1.out.step (step hB.out hb2))
          rw [NL.out] at h
          exact h)
        have O2 := Lib.hid (ownsRow_lo ho.out hsz)
        rw [HC.out] at XM
        clear hb2 ho hb XC
        by_cases hc : cinB s (atU us r).1 (atU us r).2 ((kept ++ List.range' (r + 1) m).map (atU us)) = true
        · rw [hc] at XM
          have M4 := Lib.hid (show minI s (atU us) kept (r + 1) m = minI s (atU us) [] 0 us.length by rw [← hI.out, minI_yes hc])
          clear hc HC
          go_wp2_with fail
          refine XM.out.mono ?_
          rintro e u3 ⟨rfl, d3⟩
          have O3 := Lib.hid (ownsRow_step O2.out d3)
          have B3 := Lib.hid (step hB.out (step HB2.out d3))
          clear d3 y0 y1
          go_wp2
          go_roundw
          case rel => exact ⟨kept, r + 1, m, kept.length + m, A3, c3, by have := HRM.out; omega, by omega, rfl, by go_num, rfl, rfl, SX, O3, M4, B3⟩
          case measure => have := HRM.out; simp [intOf]; omega
        · have hc' : cinB s (atU us r).1 (atU us r).2 ((kept ++ List.range' (r + 1) m).map (atU us)) = false := by simpa using hc
          rw [hc'] at XM
          have M4 := Lib.hid (show minI s (atU us) (kept ++ [r]) (r + 1) m = minI s (atU us) [] 0 us.length by rw [← hI.out, minI_no hc'])
          have S4 := Lib.hid (show ((kept ++ [r]) ++ List.range' (r + 1) m).Sublist (List.range us.length) by rw [← left_more]; exact hX.out)
          have kl1 : (kept ++ [r]).length = cx := by rw [List.length_append]; exact K1.out.symm
          have KL1 := Lib.hid kl1
          clear hc hc' HC kl1
          go_wp2_with fail
          refine XM.out.mono ?_
          rintro e u3 ⟨rfl, d3⟩
          have O3 := Lib.hid (show u3.ownsRow w.heap.size 29 2 (.slice (some ⟨b, 0, none⟩) L cx) ((kept ++ [r]).length + m) (cellsI F ((kept ++ [r]) ++ List.range' (r + 1) m)) by
            have h9 := ownsRow_step hO.out (step HB2.out d3)
            rw [← left_more, show (kept ++ [r]).length + m = kept.length + (m + 1) by rw [KL1.out, K1.out]; omega]
            exact h9)
          have B3 := Lib.hid (step hB.out (step HB2.out d3))
          clear d3 y0 y1
          go_wp2
          go_roundw
          case rel => exact ⟨kept ++ [r], r + 1, m, L, some ⟨b, 0, none⟩, cx, by have := HRM.out; omega, by rw [KL1.out, K1.out]; omega, by rw [KL1.out, K1.out, HL.out]; omega, by go_num, by rw [KL1.out], rfl, S4, O3, M4, B3⟩
          case measure => have := HRM.out; simp [intOf]; omega
      · have hcap' : ¬ cx = k1 := hcap
        go_region_held3 (fun w' => w'.cell? ⟨wr.heap.size, 0, none⟩ = some (.slice H hs.length ch))
          (first
            | go_keep)
          (first
            | (go_at_call 115; refine (XC.out _ (by first | exact below_alloc _ _ | exact step (below_drew _) (below_alloc _ _) | exact step (below_alloc _ _) (below_drew _)) _ _ _ _ _ _ (by first | exact (cells_new2kd _ _ _ _ _ (by first | rw [al_size] | simp)).1 | exact (cells_new2k _ _ _ _ _ (by first | rw [al_size] | simp)).1) (by first | exact (cells_new2kd _ _ _ _ _ (by first | rw [al_size] | simp)).2 | exact (cells_new2k _ _ _ _ _ (by first | rw [al_size] | simp)).2) (by omega) (by have := K1.out; have := HL.out; omega) (by have := K1.out; have := HL.out; omega)).mono ?_; rintro e u2 ⟨A3, c3, rfl, ho, hb⟩
               have X8 := (Box.new wr #[.slice H hs.length ch, .slice B l.length cb] 29).step hb.out
               have y0 := X8.cell 0
               have y1 := X8.cell 1
               simp only [List.getElem?_toArray, List.getElem?_cons_zero, List.getElem?_cons_succ] at y0 y1
               clear X8))
        have HB2 := Lib.hid (step (below_alloc wr _) hb.out)
        have hb2 := HB2.out
        have XM := Lib.hid (show Calls Tryz.prog 71 #[.agg #[.slice H hs.length ch, .slice B l.length cb], .slice A3 (kept.length + m) c3, .pointer (some ⟨gb, 0, none⟩)] u2 (fun e w' => e = .returned (.bool (cinB s hs l ((kept ++ List.range' (r + 1) m).map (atU us)))) ∧ Below u2.heap.size u2 w') by
          have hru := rowsU (A := A3) (c0 := c3) (HPw.out.step hb2) (sub_lt SX.out) (by rw [left_len]; exact ho.out)
          have h := minU1_any gb S cs s H B ch cb hs l A3 c3 ((kept ++ List.range' (r + 1) m).map (atU us)) hls hhl hll (szU_sub SX.out hz) u2 (HS.out.step (step hB.out hb2)) (RH.out.step hb2) (RB.out.step hb2) hru (G1.out.step (step hB.out hb2))
          rw [NL.out] at h
          exact h)
        have O2 := Lib.hid (ownsRow_lo ho.out hsz)
        rw [HC.out] at XM
        clear hb2 ho hb XC
        by_cases hc : cinB s (atU us r).1 (atU us r).2 ((kept ++ List.range' (r + 1) m).map (atU us)) = true
        · rw [hc] at XM
          have M4 := Lib.hid (show minI s (atU us) kept (r + 1) m = minI s (atU us) [] 0 us.length by rw [← hI.out, minI_yes hc])
          clear hc HC
          go_wp2_with fail
          refine XM.out.mono ?_
          rintro e u3 ⟨rfl, d3⟩
          have O3 := Lib.hid (ownsRow_step O2.out d3)
          have B3 := Lib.hid (step hB.out (step HB2.out d3))
          clear d3 y0 y1
          go_wp2
          go_roundw
          case rel => exact ⟨kept, r + 1, m, kept.length + m, A3, c3, by have := HRM.out; omega, by omega, rfl, by go_num, rfl, rfl, SX, O3, M4, B3⟩
          case measure => have := HRM.out; simp [intOf]; omega
        · have hc' : cinB s (atU us r).1 (atU us r).2 ((kept ++ List.range' (r + 1) m).map (atU us)) = false := by simpa using hc
          rw [hc'] at XM
          have M4 := Lib.hid (show minI s (atU us) (kept ++ [r]) (r + 1) m = minI s (atU us) [] 0 us.length by rw [← hI.out, minI_no hc'])
          have S4 := Lib.hid (show ((kept ++ [r]) ++ List.range' (r + 1) m).Sublist (List.range us.length) by rw [← left_more]; exact hX.out)
          have kl1 : (kept ++ [r]).length = k1 := by rw [List.length_append]; exact K1.out.symm
          have KL1 := Lib.hid kl1
          clear hc hc' HC kl1
          go_wp2_with fail
          refine XM.out.mono ?_
          rintro e u3 ⟨rfl, d3⟩
          have O3 := Lib.hid (show u3.ownsRow w.heap.size 29 2 (.slice (some ⟨b, 0, none⟩) L cx) ((kept ++ [r]).length + m) (cellsI F ((kept ++ [r]) ++ List.range' (r + 1) m)) by
            have h9 := ownsRow_step hO.out (step HB2.out d3)
            rw [← left_more, show (kept ++ [r]).length + m = kept.length + (m + 1) by rw [KL1.out, K1.out]; omega]
            exact h9)
          have B3 := Lib.hid (step hB.out (step HB2.out d3))
          clear d3 y0 y1
          go_wp2
          go_roundw
          case rel => exact ⟨kept ++ [r], r + 1, m, L, some ⟨b, 0, none⟩, cx, by have := HRM.out; omega, by rw [KL1.out, K1.out]; omega, by rw [KL1.out, K1.out, HL.out]; omega, by go_num, by rw [KL1.out], rfl, S4, O3, M4, B3⟩
          case measure => have := HRM.out; simp [intOf]; omega

/-- A list of queries of the call's own. -/
def UOwn (w : World) (us : UL) (e : Ending) (w' : World) : Prop := ∃ g c m, e = .returned (.slice (some ⟨g, 0, none⟩) us.length c) ∧ us.length * 2 ≤ m ∧ OwnU w' w.heap.size w'.heap.size g m us.length us ∧ Below w.heap.size w w'

set_option maxHeartbeats 1000000 in
set_option maxRecDepth 100000 in
theorem impl_MinimalUnion (S : Option Addr) (cs : Nat) (s : List Int) (A : Option Addr) (c : Nat) (us : UL) (hls : s.length ≤ 1048576) (hz : szU us ≤ 1048576) (w : World) (hS : RI w S s) (hU : RU w A us) :
    Calls Tryz.prog 33 #[.slice S s.length cs, .slice A us.length c] w (UOwn w (minU s us)) := by
  obtain ⟨w0, hw0⟩ : ∃ W, W = w.alloc (.cells #[.slice S s.length cs] 22) := ⟨_, rfl⟩
  have b0 : Below w.heap.size w w0 := by rw [hw0]; exact below_alloc _ _
  have s0 : w0.heap.size = w.heap.size + 1 := by rw [hw0, al_size]
  have x0 : Box w0 w.heap.size #[.slice S s.length cs] 22 := by rw [hw0]; exact Box.new _ _ _
  have XC := Lib.hid (show Calls Tryz.prog 69 #[.slice A us.length c, .func (.func 42) #[] #[]] (w.alloc (.cells #[.slice S s.length cs] 22)) (fun e w' => e = .returned (.slice (some ⟨w0.heap.size, 0, none⟩) us.length us.length) ∧ Hid (OwnU w' w0.heap.size w'.heap.size w0.heap.size (us.length * 2) us.length us) ∧ Hid (Below w0.heap.size w0 w')) by
    rw [← hw0]
    exact (copyEachQ_any A c us hz w0 (hU.step b0)).mono fun e w' ⟨h1, h2, h3, _⟩ => ⟨h1, Lib.hid h2, Lib.hid h3⟩)
  have XI := Lib.hid fun (W : World) (b : Below w0.heap.size w0 W) => impl_IsUnion S cs s A c us hls hz W (hS.step (step b0 b)) (hU.step (step b0 b))
  have HS := Lib.hid hS
  have S0 := Lib.hid s0
  have BB := Lib.hid b0
  have X0 := Lib.hid x0
  have zw : w.heap.size < w0.heap.size := by omega
  clear hS hU b0 s0 x0 hw0
  generalize hun : unionB s us = un at XI
  go_enter Tryz.func33, Tryz.ntmps33
  go_wp2_with fail
  refine XC.out.mono ?_
  rintro e u1 ⟨rfl, O1, D1⟩
  have x1 := (X0.out.step D1.out).cell 0
  simp only [List.getElem?_toArray, List.getElem?_cons_zero] at x1
  go_wp2_with fail
  refine (XI.out _ D1.out).mono ?_
  rintro e u2 ⟨rfl, d2⟩
  have D2 := Lib.hid (step D1.out d2)
  have O2 := Lib.hid (O1.out.step d2)
  have g0 := O1.out.2.2.1
  clear d2 x1
  cases un with
  | false =>
    have EM := Lib.hid (show minU s us = us from if_neg (by rw [hun]; decide))
    have FIN := Lib.hid (show UOwn w (minU s us) (.returned (.slice (some ⟨w0.heap.size, 0, none⟩) us.length us.length)) u2 by
      rw [EM.out]
      exact ⟨w0.heap.size, us.length, us.length * 2, rfl, Nat.le_refl _, O2.out.grow (lo' := w.heap.size) (hi' := u2.heap.size) (by omega) O2.out.2.2.1 (Nat.le_refl _), step BB.out D2.out⟩)
    clear g0 hun
    go_wp2
    go_ret
    exact FIN.out
  | true =>
    have EM := Lib.hid (show minU s us = (minI s (atU us) [] 0 us.length).map (atU us) from if_pos hun)
    have hpos : 0 < us.length := by
      have := hun
      unfold unionB at this
      simp only [Bool.and_eq_true, inB, decide_eq_true_eq] at this
      omega
    have HN := Lib.hid hpos
    have X2 := Lib.hid (X0.out.step D2.out)
    obtain ⟨F, p, q, hr, hP⟩ := O2.out.parts
    have HP := Lib.hid hP
    have h2 := O2.out.2.2.1
    have h3 := O2.out.2.1
    have h4 := D1.out.size
    have XD := Lib.hid (dropEachU_any w.heap.size S cs s w0.heap.size (us.length * 2) w0.heap.size u1.heap.size us.length us F p q hls hz u2 (HS.out.step (step BB.out D2.out)) hr (Nat.le_refl _) (by omega) hP X2.out)
    clear hr hP hpos hun
    go_wp2_with fail
    refine XD.out.mono ?_
    rintro e u3 ⟨A3, c3, rfl, ho, d3⟩
    have HO := Lib.hid ho
    have D3 := Lib.hid d3
    have SUB := Lib.hid (minI_sub s (atU us) us.length [] 0)
    have POS := Lib.hid (minI_pos s (atU us) us.length [] 0 (by have := HN.out; simpa using this))
    have FIN := Lib.hid (show UOwn w (minU s us) (.returned (.slice A3 (minI s (atU us) [] 0 us.length).length c3)) u3 by
      have hsub := SUB.out
      rw [List.nil_append, ← List.range_eq_range'] at hsub
      have ho := HO.out
      rcases ho.2 with ⟨hv, h0⟩ | ⟨g, cap, cur, hv, hbk, hk, h1, h2', _⟩
      · have := POS.out; omega
      · injection hv with e1 e2 e3
        subst e1 e3
        obtain ⟨o1, o2⟩ := ownU_rows (HP.out.step D3.out) (sub_lt hsub) (sub_nodup hsub) (by omega) h2 POS.out ho
        rw [EM.out]
        exact ⟨g, c3, c3 * 2, by rw [List.length_map], by rw [List.length_map]; exact o1, by rw [List.length_map]; exact o2.grow (lo' := w.heap.size) (hi' := u3.heap.size) (by omega) (Nat.le_refl _) (Nat.le_refl _), step BB.out (step D2.out D3.out)⟩)
    clear ho d3 g0 h2 h3 h4
    generalize (minI s (atU us) [] 0 us.length).length = n3 at FIN HO ⊢
    go_wp2
    go_ret
    exact FIN.out
end Go.Proofs.YtimlpdcambmcjaaGreat
