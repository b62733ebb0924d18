/- What the model's MatchAtom leaves. Conditions: none beyond each theorem's own. -/
import Derived.Test.YtimlpdcambmcjaaGreatS19
import Derived.Test.YtimlpdcambmcjaaGreatS20
import Derived.Test.YtimlpdcambmcjaaGreatS8
import Derived.BigQuiet
import Derived.Lib.QuietBelow
import Derived.StillTailTactics

namespace Go.Proofs.YtimlpdcambmcjaaGreat
open Go.ChangeShapes Go.WideShapes Go.ChangeAt Go.RowKit Go.Sort
set_option linter.unusedVariables false
set_option linter.unusedSimpArgs false

theorem mem_at {hs : List Int} {t x : Int} {k : Nat} (hk : k < hs.length) (hx : hs.getD k 0 = x) (he : x = t) : t ∈ hs := by
  rw [← he, ← hx]
  exact getD_mem hs hk

set_option maxRecDepth 100000 in
set_option maxHeartbeats 1000000 in
theorem l4Bound_any (H A : Option Addr) (ch c : Nat) (hs l : List Int) (t : Int) (hh : hs.length ≤ 2097152) (hl : l.length ≤ 2097152) (hel : hs.length = l.length) (w : World) (h : RI w H hs) (h' : RI w A l) :
    Calls Tryz.prog 179 #[.agg #[.slice H hs.length ch, .slice A l.length c], .int .i64 t] w fun e w' => e = .returned (.bool (decide (t ∈ hs))) ∧ Below w.heap.size w w' := by
  have hh' : (hs.length : Int) ≤ 2097152 := by omega
  have hl' : (l.length : Int) ≤ 2097152 := by omega
  have HEL := Lib.hid hel
  have B0 := Lib.hid (below_alloc w (.cells #[.slice H hs.length ch, .slice A l.length c] 100))
  have X0 := Lib.hid (Box.new w #[.slice H hs.length ch, .slice A l.length c] 100)
  have HI := Lib.hid (h.step B0.out)
  have HJ := Lib.hid (h'.step B0.out)
  clear h h' hel
  go_enter Tryz.func179, Tryz.ntmps179
  go_wp2
  go_loop [5] (fun i => ∃ k : Nat, k ≤ hs.length ∧ i = .int .i64 k ∧ Hid (t ∉ hs.take k)) (fun i => hs.length - (intOf i).toNat)
  case atStart => exact ⟨0, by omega, rfl, Lib.hid (by simp)⟩
  case round =>
    obtain ⟨k, hk, rfl, ha⟩ := hrel
    have hk0 : (0 : Int) ≤ (k : Int) := by omega
    by_cases h1 : k < hs.length
    · have hk1 : (k : Int) < (hs.length : Int) := by omega
      have d1 : decide (k < hs.length) = true := by simpa using h1
      have h2 : k < l.length := by have := HEL.out; omega
      have hk2 : (k : Int) < (l.length : Int) := by omega
      have d2 : decide (k < l.length) = true := by simpa using h2
      obtain ⟨b, off, rfl, n1, e1⟩ := HI.out.at_ h1
      generalize hx : hs.getD k 0 = x at e1
      have HX := Lib.hid hx
      clear hx
      by_cases he : x = t
      · have d3 : (x == t) = true := by simpa using he
        have HE := Lib.hid he
        clear he
        go_wp2
        go_ret
        exact ⟨ret_bool (decide_eq_true (mem_at h1 HX.out HE.out)).symm, B0.out⟩
      · have d3 : (x == t) = false := by simpa using he
        have HE := Lib.hid he
        clear he
        go_wp2
        go_round
        case rel => exact ⟨k + 1, by omega, by go_num, Lib.hid (notMem_snoc h1 ha.out HX.out HE.out)⟩
        case measure => simp [intOf]; omega
    · have hk1 : ¬ (k : Int) < (hs.length : Int) := by omega
      have d1 : decide (k < hs.length) = false := by simpa using h1
      obtain rfl : k = hs.length := by omega
      go_wp2
      go_ret
      exact ⟨ret_bool (decide_eq_false (by have := ha.out; rwa [List.take_length] at this)).symm, B0.out⟩

theorem ri_setBox {w : World} {A : Option Addr} {xs : List Int} {g i : Nat} {u : Value} {a1 a2 : Option Addr} {n1 n2 c1 c2 : Nat} {t : TypeId} (h : RI w A xs) (hb : Box w g #[.slice a1 n1 c1, .slice a2 n2 c2] t) : RI (w.setCell ⟨g, i, none⟩ u) A xs := by
  intro hx
  obtain ⟨b, off, h1, h2, h3, h4⟩ := h hx
  have hne : b ≠ g := by
    rintro rfl
    have h0 := h4 0 (List.length_pos_iff.2 hx)
    rw [hb.cell] at h0
    match off, h0 with
    | 0, h0 => simp at h0
    | 1, h0 => simp at h0
    | n + 2, h0 => simp at h0
  refine ⟨b, off, h1, h2, by rw [set_size]; exact h3, fun k hk => ?_⟩
  exact (World.cell?_of_block (w := w) (a := ⟨b, off + k, none⟩) (Below.heap_setCell _ _ _ _ hne)).trans (h4 k hk)
theorem mst_new {q : PL} {x y : Int} (h : inB x 10 17 = true) (hn : x ∉ q.1) : mst q x y = some (q.1 ++ [x], q.2 ++ [y]) := by simp [mst, h, hn]
theorem mst_old {q : PL} {x y : Int} (h : ¬ (inB x 10 17 = true ∧ x ∉ q.1)) : mst q x y = if bval q.1 q.2 x = y then some q else none := by
  by_cases hi : inB x 10 17 = true
  · have hm : x ∈ q.1 := Classical.byContradiction fun hn => h ⟨hi, hn⟩
    simp [mst, hi, hm]
  · have hi' : inB x 10 17 = false := by simpa using hi
    simp [mst, hi', bval_no hi']

/-- What MatchAtom answers. -/
def MatOut (w : World) (r : Option PL) (e : Ending) (w' : World) : Prop :=
  ((r = none ∧ e = .returned (.tuple #[.agg #[.slice none 0 0, .slice none 0 0], .bool false])) ∨
   (∃ q X c Y d, r = some q ∧ e = .returned (.tuple #[.agg #[.slice X q.1.length c, .slice Y q.2.length d], .bool true]) ∧ RW w' X q.1 ∧ RW w' Y q.2)) ∧ Below w.heap.size w w'

set_option maxRecDepth 100000 in
set_option maxHeartbeats 4000000 in
theorem spec_MatchAtom (A B T V : Option Addr) (c d tc vc : Nat) (r r' : Int) (us bs ts vs : List Int) (hl : us.length + ts.length ≤ 1048576) (hlb : bs.length ≤ 1048576) (hlv : vs.length ≤ 1048576)
    (w : World) (hA : RI w A us) (hB : RI w B bs) (hT : RI w T ts) (hV : RI w V vs) :
    Calls Tryz.prog 158 #[.agg #[.slice A us.length c, .slice B bs.length d], .agg #[.int .i64 r, .slice T ts.length tc], .agg #[.int .i64 r', .slice V vs.length vc]] w (MatOut w (matB (us, bs) r ts r' vs)) := by
  have hl1 : us.length ≤ 1048576 := by omega
  have hl2 : ts.length ≤ 1048576 := by omega
  have hl1' : (us.length : Int) ≤ 1048576 := by omega
  have hl2' : (ts.length : Int) ≤ 1048576 := by omega
  have hlb' : (bs.length : Int) ≤ 1048576 := by omega
  have hlv' : (vs.length : Int) ≤ 1048576 := by omega
  obtain ⟨w0, hw0⟩ : ∃ W, W = (((w.alloc (.cells #[.slice A us.length c, .slice B bs.length d] 100)).alloc (.cells #[.int .i64 r, .slice T ts.length tc] 67)).alloc (.cells #[.int .i64 r', .slice V vs.length vc] 77)).alloc (.cells #[.slice none 0 0, .slice none 0 0] 100) := ⟨_, rfl⟩
  have E0 := Lib.hid hw0
  have B0 := Lib.hid (show Below w.heap.size w w0 by rw [hw0]; exact step (step (step (below_alloc w _) (below_alloc _ _)) (below_alloc _ _)) (below_alloc _ _))
  have XB := Lib.hid (show Box w0 w.heap.size #[.slice A us.length c, .slice B bs.length d] 100 by rw [hw0]; exact (((Box.new w _ _).step (below_alloc _ _)).step (below_alloc _ _)).step (below_alloc _ _))
  have XA := Lib.hid (show Box w0 (w.heap.size + 1) #[.int .i64 r, .slice T ts.length tc] 67 by rw [hw0]; have h := ((Box.new (w.alloc (.cells #[.slice A us.length c, .slice B bs.length d] 100)) #[.int .i64 r, .slice T ts.length tc] 67).step (below_alloc _ (.cells #[.int .i64 r', .slice V vs.length vc] 77))).step (below_alloc _ (.cells #[.slice none 0 0, .slice none 0 0] 100)); simp only [al_size] at h; exact h)
  have XF := Lib.hid (show Box w0 (w.heap.size + 1 + 1) #[.int .i64 r', .slice V vs.length vc] 77 by rw [hw0]; have h := (Box.new ((w.alloc (.cells #[.slice A us.length c, .slice B bs.length d] 100)).alloc (.cells #[.int .i64 r, .slice T ts.length tc] 67)) #[.int .i64 r', .slice V vs.length vc] 77).step (below_alloc _ (.cells #[.slice none 0 0, .slice none 0 0] 100)); simp only [al_size] at h; exact h)
  have XR := Lib.hid (show Box w0 (w.heap.size + 1 + 1 + 1) #[.slice none 0 0, .slice none 0 0] 100 by rw [hw0]; have h := Box.new (((w.alloc (.cells #[.slice A us.length c, .slice B bs.length d] 100)).alloc (.cells #[.int .i64 r, .slice T ts.length tc] 67)).alloc (.cells #[.int .i64 r', .slice V vs.length vc] 77)) #[.slice none 0 0, .slice none 0 0] 100; simp only [al_size] at h; exact h)
  have hsz : w.heap.size + 4 = w0.heap.size := by rw [hw0, al_size, al_size, al_size, al_size]
  have HA := Lib.hid (hA.step B0.out)
  have HB := Lib.hid (hB.step B0.out)
  have HT := Lib.hid (hT.step B0.out)
  have HV := Lib.hid (hV.step B0.out)
  have x0 := XB.out.cell 0
  have x1 := XB.out.cell 1
  simp only [List.getElem?_toArray, List.getElem?_cons_zero, List.getElem?_cons_succ] at x0 x1
  clear hA hB hT hV hw0
  go_enter Tryz.func158, Tryz.ntmps158
  go_wp2_with fail
  rw [← E0.out]
  refine (l4Copy_any A B c d us bs hl1 hlb w0 HA.out HB.out).mono ?_
  rintro e w1 ⟨X, cx, Y, cy, rfl, hX, hY, hb⟩
  obtain ⟨w2, hw2⟩ : ∃ W, W = w1.alloc (.cells #[.slice X us.length cx, .slice Y bs.length cy] 100) := ⟨_, rfl⟩
  have E2 := Lib.hid hw2
  have b12 : Below w1.heap.size w1 w2 := by rw [hw2]; exact below_alloc w1 _
  have B2 := Lib.hid (step hb b12)
  have XG := Lib.hid (show Box w2 w1.heap.size #[.slice X us.length cx, .slice Y bs.length cy] 100 by rw [hw2]; exact Box.new w1 _ _)
  have HX := Lib.hid (hX.step b12)
  have HY := Lib.hid (hY.step b12)
  have YA := Lib.hid (XA.out.step B2.out)
  have YF := Lib.hid (XF.out.step B2.out)
  have YR := Lib.hid (XR.out.step B2.out)
  have a0 := YA.out.cell 0
  have a1 := YA.out.cell 1
  have f0 := YF.out.cell 0
  have f1 := YF.out.cell 1
  have YB := Lib.hid (XB.out.step B2.out)
  have y0 := YB.out.cell 0
  have y1 := YB.out.cell 1
  have r0 := YR.out.cell 0
  have r1 := YR.out.cell 1
  have r2 := YR.out.frozen 0
  have r3 := YR.out.frozen 1
  simp only [List.getElem?_toArray, List.getElem?_cons_zero, List.getElem?_cons_succ] at a0 a1 f0 f1 y0 y1 r0 r1
  have SW := Lib.hid hb.size
  clear hX hY hb hw2 x0 x1 b12
  have s2 := B2.out.size
  by_cases hg : r = r' ∧ ts.length = vs.length ∧ us.length = bs.length
  · obtain ⟨hr, hlen, hub⟩ := hg
    subst hr
    have GE := Lib.hid (show matB (us, bs) r ts r vs = mgo (us, bs) ts vs from if_pos ⟨rfl, hlen, hub⟩)
    have HL := Lib.hid hlen
    have HU := Lib.hid hub
    have d1 : ((ts.length : Int) != (vs.length : Int)) = false := by simp; omega
    have d2 : ((us.length : Int) != (bs.length : Int)) = false := by simp; omega
    obtain ⟨g, hgw⟩ : ∃ g, g = w1.heap.size := ⟨_, rfl⟩
    have GS := Lib.hid (show w0.heap.size ≤ g from hgw ▸ SW.out)
    clear hlen hub
    go_upto_region 2 with fail
    rw [← E2.out]
    rw [← hgw] at XG ⊢
    go_wp2
    clear a0 a1 f0 f1 y0 y1 r0 r1 r2 r3 hgw
    go_loopw [9, 10] (fun i _ wr => ∃ (k : Nat) (q : PL) (X : Option Addr) (cx : Nat) (Y : Option Addr) (cy : Nat), k ≤ ts.length ∧ i = .int .i64 k ∧ Hid (mgo (us, bs) (ts.take k) (vs.take k) = some q) ∧ Hid (Box wr g #[.slice X q.1.length cx, .slice Y q.2.length cy] 100) ∧ Hid (RW wr X q.1) ∧ Hid (RW wr Y q.2) ∧ Hid (Below w0.heap.size w0 wr)) (fun i _ _ => ts.length - (intOf i).toNat)
    case atStart => exact ⟨0, (us, bs), X, cx, Y, cy, by omega, rfl, Lib.hid (by simp [mgo]), XG, HX, HY, B2⟩
    case round =>
      clear XG HX HY B2 YA YF YR YB E2 XB HA HB s2 SW
      obtain ⟨k, q, X, cx, Y, cy, hk, rfl, hm, hG, hX, hY, hB⟩ := hrel
      have RA := Lib.hid (XA.out.step hB.out)
      have RF := Lib.hid (XF.out.step hB.out)
      have RG := hG
      have RR := Lib.hid (XR.out.step hB.out)
      have a1 := RA.out.cell 1
      have f1 := RF.out.cell 1
      simp only [List.getElem?_toArray, List.getElem?_cons_zero, List.getElem?_cons_succ] at a1 f1
      have hs0 := hB.out.size
      clear hG
      by_cases hlt : k < ts.length
      · have hk0 : (0 : Int) ≤ (k : Int) := by omega
        have hk1 : (k : Int) < (ts.length : Int) := by omega
        have hlt2 : k < vs.length := by have := HL.out; omega
        have hk2 : (k : Int) < (vs.length : Int) := by omega
        obtain ⟨b, off, rfl, n1, e1⟩ := (HT.out.step hB.out).at_ hlt
        obtain ⟨b', off', rfl, n2, e2⟩ := (HV.out.step hB.out).at_ hlt2
        generalize hx : ts.getD k 0 = x at e1
        generalize hy : vs.getD k 0 = y at e2
        have HX0 := Lib.hid hx
        have HY0 := Lib.hid hy
        have ql := mgo_len _ _ _ _ hm.out HU.out
        dsimp only at ql
        have tl : (ts.take k).length ≤ ts.length := by rw [List.length_take]; omega
        have ql1 : q.1.length ≤ 1048576 := by omega
        have ql2 : q.2.length ≤ 1048576 := by omega
        have QL := Lib.hid ql.1
        clear hx hy
        generalize hbv : bval q.1 q.2 x = bv
        have HBV := Lib.hid hbv
        have XV := Lib.hid fun (W : World) (hW : Below wr.heap.size wr W) => (show Calls Tryz.prog 122 #[.agg #[.slice X q.1.length cx, .slice Y q.2.length cy], .int .i64 x] W fun e w' => e = .returned (.int .i64 bv) ∧ Below W.heap.size W w' by have := spec_ValueOf X Y cx cy q.1 q.2 x ql1 ql2 W (hX.out.step hW).ri (hY.out.step hW).ri; rw [HBV.out] at this; exact this)
        have KB := Lib.hid fun (W : World) (hW : Below wr.heap.size wr W) => l4Bind_any x y X Y cx cy q.1 q.2 ql1 ql2 W (hX.out.step hW).ri (hY.out.step hW).ri
        clear hbv ql tl
        by_cases hnew : inB x 10 17 = true ∧ x ∉ q.1
        · have MN := Lib.hid (mst_new (y := y) hnew.1 hnew.2)
          have XI := Lib.hid fun (W : World) => (show Calls Tryz.prog 117 #[.int .i64 x] W fun e w' => e = .returned (.bool true) ∧ Below W.heap.size W w' from (spec_IsVar x W).mono (by rintro e w' ⟨he, rfl⟩; exact ⟨by rw [he, hnew.1], Below.refl _ _⟩))
          have XD := Lib.hid fun (W : World) (hW : Below wr.heap.size wr W) => (show Calls Tryz.prog 179 #[.agg #[.slice X q.1.length cx, .slice Y q.2.length cy], .int .i64 x] W fun e w' => e = .returned (.bool false) ∧ Below W.heap.size W w' from (l4Bound_any X Y cx cy q.1 q.2 x (by omega) (by omega) QL.out W (hX.out.step hW).ri (hY.out.step hW).ri).mono (by rintro e w' ⟨he, hb⟩; exact ⟨by rw [he, decide_eq_false hnew.2], hb⟩))
          clear hnew
          go_wp2
          have g0 := RG.out.cell 0
          have g1 := RG.out.cell 1
          simp only [List.getElem?_toArray, List.getElem?_cons_zero, List.getElem?_cons_succ] at g0 g1
          have ka := cell_regrown a1
          have k0 := cell_regrown g0
          have k1 := cell_regrown g1
          have ke := cell_regrown e1
          refine wp_region_quiet_below (by kernel_rfl) (by kernel_rfl) ?_
          repeat (go_big_quiet_step (first | (go_at_call 122; with_reducible exact Calls.regrown_of (XV.out _ (below_regrown _ _ _)))))
          refine wpQuiet_nil ?_
          intro u1 hw'
          have bu1 : Below wr.heap.size wr u1 := by obtain ⟨⟨dq, osq⟩, rfl⟩ := hw'; exact below_regrown _ _ _
          clear hw'
          have a1u1 := (RA.out.step bu1).cell 1
          have f1u1 := (RF.out.step bu1).cell 1
          have g0u1 := (RG.out.step bu1).cell 0
          have g1u1 := (RG.out.step bu1).cell 1
          have e1u1 := (bu1.cell (p := ⟨b, off + k, none⟩) n1).trans e1
          have e2u1 := (bu1.cell (p := ⟨b', off' + k, none⟩) n2).trans e2
          simp only [List.getElem?_toArray, List.getElem?_cons_zero, List.getElem?_cons_succ] at a1u1 f1u1 g0u1 g1u1
          go_wp2
          have ka := cell_regrown a1u1
          have k0 := cell_regrown g0u1
          have k1 := cell_regrown g1u1
          have ke := cell_regrown e1u1
          refine wp_region_quiet_below (by kernel_rfl) (by kernel_rfl) ?_
          repeat (go_big_quiet_step (first | (go_at_call 117; with_reducible exact Calls.regrown_of (XI.out _)) | (go_at_call 179; with_reducible exact Calls.regrown_of (XD.out _ (step bu1 (below_regrown _ _ _))))))
          refine wpQuiet_nil ?_
          intro u2 hw'
          have bu2 : Below wr.heap.size wr u2 := by obtain ⟨⟨dq, osq⟩, rfl⟩ := hw'; exact step bu1 (below_regrown _ _ _)
          clear hw'
          have a1u2 := (RA.out.step bu2).cell 1
          have f1u2 := (RF.out.step bu2).cell 1
          have g0u2 := (RG.out.step bu2).cell 0
          have g1u2 := (RG.out.step bu2).cell 1
          have e1u2 := (bu2.cell (p := ⟨b, off + k, none⟩) n1).trans e1
          have e2u2 := (bu2.cell (p := ⟨b', off' + k, none⟩) n2).trans e2
          simp only [List.getElem?_toArray, List.getElem?_cons_zero, List.getElem?_cons_succ] at a1u2 f1u2 g0u2 g1u2
          go_wp2
          go_still_tail 11, (by kernel_rfl)
          change wpList _ _ _ _ _ (World.drew u2)
          have bu3 : Below wr.heap.size wr (World.drew u2) := step bu2 (below_drew u2)
          generalize World.drew u2 = u3 at *
          go_wp2_with fail
          refine (KB.out u3 bu3).mono ?_
          rintro e w4 ⟨X4, c4, Y4, d4, rfl, hX4, hY4, hb4⟩
          have b4 : Below wr.heap.size wr w4 := step bu3 hb4
          have G4 := Lib.hid (RG.out.step b4)
          have B4 := Lib.hid (step hB.out b4)
          have P4 := Lib.hid (And.intro hX4 hY4)
          have g0 := G4.out.cell 0
          have g1 := G4.out.cell 1
          have g2 := G4.out.frozen 0
          have g3 := G4.out.frozen 1
          simp only [List.getElem?_toArray, List.getElem?_cons_zero, List.getElem?_cons_succ] at g0 g1
          clear hX4 hY4 hb4 b4
          go_wp2
          go_round
          case rel =>
            have hb1 := G4.out.set 0 (.slice X4 (q.1.length + 1) c4)
            have z1 := hb1.set 1 (.slice Y4 (q.2.length + 1) d4)
            refine ⟨k + 1, (q.1 ++ [x], q.2 ++ [y]), X4, c4, Y4, d4, by omega, by go_num, Lib.hid (by rw [mgo_step HL.out hlt HX0.out HY0.out hm.out, MN.out]), Lib.hid ?_, Lib.hid ?_, Lib.hid ?_, Lib.hid ?_⟩
            · simpa using z1
            · exact (P4.out.1.setBox G4.out (by decide)).setBox hb1 (by decide)
            · exact (P4.out.2.setBox G4.out (by decide)).setBox hb1 (by decide)
            · exact Below.setCell (Below.setCell B4.out GS.out _) GS.out _
          case measure => simp [intOf]; omega
        · have MO := Lib.hid (show mst q x y = if bv = y then some q else none by rw [mst_old hnew, HBV.out])
          by_cases hi : inB x 10 17 = true
          · have hin : x ∈ q.1 := Classical.byContradiction fun h => hnew ⟨hi, h⟩
            have XI := Lib.hid fun (W : World) => (show Calls Tryz.prog 117 #[.int .i64 x] W fun e w' => e = .returned (.bool true) ∧ Below W.heap.size W w' from (spec_IsVar x W).mono (by rintro e w' ⟨he, rfl⟩; exact ⟨by rw [he, hi], Below.refl _ _⟩))
            have XD := Lib.hid fun (W : World) (hW : Below wr.heap.size wr W) => (show Calls Tryz.prog 179 #[.agg #[.slice X q.1.length cx, .slice Y q.2.length cy], .int .i64 x] W fun e w' => e = .returned (.bool true) ∧ Below W.heap.size W w' from (l4Bound_any X Y cx cy q.1 q.2 x (by omega) (by omega) QL.out W (hX.out.step hW).ri (hY.out.step hW).ri).mono (by rintro e w' ⟨he, hb⟩; exact ⟨by rw [he, decide_eq_true hin], hb⟩))
            clear hnew
            go_wp2
            have g0 := RG.out.cell 0
            have g1 := RG.out.cell 1
            simp only [List.getElem?_toArray, List.getElem?_cons_zero, List.getElem?_cons_succ] at g0 g1
            have ka := cell_regrown a1
            have k0 := cell_regrown g0
            have k1 := cell_regrown g1
            have ke := cell_regrown e1
            refine wp_region_quiet_below (by kernel_rfl) (by kernel_rfl) ?_
            repeat (go_big_quiet_step (first | (go_at_call 122; with_reducible exact Calls.regrown_of (XV.out _ (below_regrown _ _ _)))))
            refine wpQuiet_nil ?_
            intro u1 hw'
            have bu1 : Below wr.heap.size wr u1 := by obtain ⟨⟨dq, osq⟩, rfl⟩ := hw'; exact below_regrown _ _ _
            clear hw'
            have a1u1 := (RA.out.step bu1).cell 1
            have f1u1 := (RF.out.step bu1).cell 1
            have g0u1 := (RG.out.step bu1).cell 0
            have g1u1 := (RG.out.step bu1).cell 1
            have e1u1 := (bu1.cell (p := ⟨b, off + k, none⟩) n1).trans e1
            have e2u1 := (bu1.cell (p := ⟨b', off' + k, none⟩) n2).trans e2
            simp only [List.getElem?_toArray, List.getElem?_cons_zero, List.getElem?_cons_succ] at a1u1 f1u1 g0u1 g1u1
            go_wp2
            have ka := cell_regrown a1u1
            have k0 := cell_regrown g0u1
            have k1 := cell_regrown g1u1
            have ke := cell_regrown e1u1
            refine wp_region_quiet_below (by kernel_rfl) (by kernel_rfl) ?_
            repeat (go_big_quiet_step (first | (go_at_call 117; with_reducible exact Calls.regrown_of (XI.out _)) | (go_at_call 179; with_reducible exact Calls.regrown_of (XD.out _ (step bu1 (below_regrown _ _ _))))))
            refine wpQuiet_nil ?_
            intro u2 hw'
            have bu2 : Below wr.heap.size wr u2 := by obtain ⟨⟨dq, osq⟩, rfl⟩ := hw'; exact step bu1 (below_regrown _ _ _)
            clear hw'
            have a1u2 := (RA.out.step bu2).cell 1
            have f1u2 := (RF.out.step bu2).cell 1
            have g0u2 := (RG.out.step bu2).cell 0
            have g1u2 := (RG.out.step bu2).cell 1
            have e1u2 := (bu2.cell (p := ⟨b, off + k, none⟩) n1).trans e1
            have e2u2 := (bu2.cell (p := ⟨b', off' + k, none⟩) n2).trans e2
            simp only [List.getElem?_toArray, List.getElem?_cons_zero, List.getElem?_cons_succ] at a1u2 f1u2 g0u2 g1u2
            have r0 := (RR.out.step bu2).cell 0
            have r1 := (RR.out.step bu2).cell 1
            have r2 := (RR.out.step bu2).frozen 0
            have r3 := (RR.out.step bu2).frozen 1
            simp only [List.getElem?_toArray, List.getElem?_cons_zero, List.getElem?_cons_succ] at r0 r1
            by_cases hc : bv = y
            · have d3 : (bv != y) = false := by simpa using hc
              have MC := Lib.hid hc
              clear hc
              go_wp2
              go_round
              case rel => exact ⟨k + 1, q, X, cx, Y, cy, by omega, by go_num, Lib.hid (by rw [mgo_step HL.out hlt HX0.out HY0.out hm.out, MO.out, if_pos MC.out]), Lib.hid (RG.out.step bu2), Lib.hid (hX.out.step bu2), Lib.hid (hY.out.step bu2), Lib.hid (step hB.out bu2)⟩
              case measure => simp [intOf]; omega
            · have d3 : (bv != y) = true := by simpa using hc
              have MC := Lib.hid (show mst q x y = none by rw [MO.out, if_neg hc])
              clear hc
              go_wp2
              have z := ((RR.out.step bu2).set 0 (.slice none 0 0)).set 1 (.slice none 0 0)
              have z0 := z.cell 0
              have z1 := z.cell 1
              simp only [List.setIfInBounds_toArray, List.set_cons_zero, List.set_cons_succ, List.getElem?_toArray, List.getElem?_cons_zero, List.getElem?_cons_succ] at z0 z1
              refine bodyPost_ret (v := .tuple #[.agg #[.slice none 0 0, .slice none 0 0], .bool false]) (by simp [results, Tryz.results158, go_sem, z0, z1]) rfl ?_
              exact ⟨.inl ⟨by rw [GE.out, mgo_fail HL.out hlt HX0.out HY0.out hm.out MC.out], rfl⟩, Below.setCell (Below.setCell (B0.out.trans ((step hB.out bu2).mono B0.out.size)) (by (try simp) <;> omega) _) (by (try simp) <;> omega) _⟩
          · have hi' : inB x 10 17 = false := by simpa using hi
            have XI := Lib.hid fun (W : World) => (show Calls Tryz.prog 117 #[.int .i64 x] W fun e w' => e = .returned (.bool false) ∧ Below W.heap.size W w' from (spec_IsVar x W).mono (by rintro e w' ⟨he, rfl⟩; exact ⟨by rw [he, hi'], Below.refl _ _⟩))
            clear hnew hi
            go_wp2
            have g0 := RG.out.cell 0
            have g1 := RG.out.cell 1
            simp only [List.getElem?_toArray, List.getElem?_cons_zero, List.getElem?_cons_succ] at g0 g1
            have ka := cell_regrown a1
            have k0 := cell_regrown g0
            have k1 := cell_regrown g1
            have ke := cell_regrown e1
            refine wp_region_quiet_below (by kernel_rfl) (by kernel_rfl) ?_
            repeat (go_big_quiet_step (first | (go_at_call 122; with_reducible exact Calls.regrown_of (XV.out _ (below_regrown _ _ _)))))
            refine wpQuiet_nil ?_
            intro u1 hw'
            have bu1 : Below wr.heap.size wr u1 := by obtain ⟨⟨dq, osq⟩, rfl⟩ := hw'; exact below_regrown _ _ _
            clear hw'
            have a1u1 := (RA.out.step bu1).cell 1
            have f1u1 := (RF.out.step bu1).cell 1
            have g0u1 := (RG.out.step bu1).cell 0
            have g1u1 := (RG.out.step bu1).cell 1
            have e1u1 := (bu1.cell (p := ⟨b, off + k, none⟩) n1).trans e1
            have e2u1 := (bu1.cell (p := ⟨b', off' + k, none⟩) n2).trans e2
            simp only [List.getElem?_toArray, List.getElem?_cons_zero, List.getElem?_cons_succ] at a1u1 f1u1 g0u1 g1u1
            go_wp2
            have ka := cell_regrown a1u1
            have k0 := cell_regrown g0u1
            have k1 := cell_regrown g1u1
            have ke := cell_regrown e1u1
            refine wp_region_quiet_below (by kernel_rfl) (by kernel_rfl) ?_
            repeat (go_big_quiet_step (first | (go_at_call 117; with_reducible exact Calls.regrown_of (XI.out _))))
            refine wpQuiet_nil ?_
            intro u2 hw'
            have bu2 : Below wr.heap.size wr u2 := by obtain ⟨⟨dq, osq⟩, rfl⟩ := hw'; exact step bu1 (below_regrown _ _ _)
            clear hw'
            have a1u2 := (RA.out.step bu2).cell 1
            have f1u2 := (RF.out.step bu2).cell 1
            have g0u2 := (RG.out.step bu2).cell 0
            have g1u2 := (RG.out.step bu2).cell 1
            have e1u2 := (bu2.cell (p := ⟨b, off + k, none⟩) n1).trans e1
            have e2u2 := (bu2.cell (p := ⟨b', off' + k, none⟩) n2).trans e2
            simp only [List.getElem?_toArray, List.getElem?_cons_zero, List.getElem?_cons_succ] at a1u2 f1u2 g0u2 g1u2
            have r0 := (RR.out.step bu2).cell 0
            have r1 := (RR.out.step bu2).cell 1
            have r2 := (RR.out.step bu2).frozen 0
            have r3 := (RR.out.step bu2).frozen 1
            simp only [List.getElem?_toArray, List.getElem?_cons_zero, List.getElem?_cons_succ] at r0 r1
            by_cases hc : bv = y
            · have d3 : (bv != y) = false := by simpa using hc
              have MC := Lib.hid hc
              clear hc
              go_wp2
              go_round
              case rel => exact ⟨k + 1, q, X, cx, Y, cy, by omega, by go_num, Lib.hid (by rw [mgo_step HL.out hlt HX0.out HY0.out hm.out, MO.out, if_pos MC.out]), Lib.hid (RG.out.step bu2), Lib.hid (hX.out.step bu2), Lib.hid (hY.out.step bu2), Lib.hid (step hB.out bu2)⟩
              case measure => simp [intOf]; omega
            · have d3 : (bv != y) = true := by simpa using hc
              have MC := Lib.hid (show mst q x y = none by rw [MO.out, if_neg hc])
              clear hc
              go_wp2
              have z := ((RR.out.step bu2).set 0 (.slice none 0 0)).set 1 (.slice none 0 0)
              have z0 := z.cell 0
              have z1 := z.cell 1
              simp only [List.setIfInBounds_toArray, List.set_cons_zero, List.set_cons_succ, List.getElem?_toArray, List.getElem?_cons_zero, List.getElem?_cons_succ] at z0 z1
              refine bodyPost_ret (v := .tuple #[.agg #[.slice none 0 0, .slice none 0 0], .bool false]) (by simp [results, Tryz.results158, go_sem, z0, z1]) rfl ?_
              exact ⟨.inl ⟨by rw [GE.out, mgo_fail HL.out hlt HX0.out HY0.out hm.out MC.out], rfl⟩, Below.setCell (Below.setCell (B0.out.trans ((step hB.out bu2).mono B0.out.size)) (by (try simp) <;> omega) _) (by (try simp) <;> omega) _⟩
      · obtain rfl : k = ts.length := by omega
        have hm2 := hm.out
        rw [List.take_length, HL.out, List.take_length] at hm2
        have g0 := RG.out.cell 0
        have g1 := RG.out.cell 1
        have r0 := RR.out.cell 0
        have r1 := RR.out.cell 1
        have r2 := RR.out.frozen 0
        have r3 := RR.out.frozen 1
        simp only [List.getElem?_toArray, List.getElem?_cons_zero, List.getElem?_cons_succ] at g0 g1 r0 r1
        go_wp2
        have z := (RR.out.set 0 (.slice X q.1.length cx)).set 1 (.slice Y q.2.length cy)
        have z0 := z.cell 0
        have z1 := z.cell 1
        simp only [List.setIfInBounds_toArray, List.set_cons_zero, List.set_cons_succ, List.getElem?_toArray, List.getElem?_cons_zero, List.getElem?_cons_succ] at z0 z1
        refine bodyPost_ret (v := .tuple #[.agg #[.slice X q.1.length cx, .slice Y q.2.length cy], .bool true]) (by simp [results, Tryz.results158, go_sem, z0, z1]) rfl ?_
        refine ⟨.inr ⟨q, X, cx, Y, cy, by rw [GE.out, hm2], rfl, ?_, ?_⟩, Below.setCell (Below.setCell (B0.out.trans (hB.out.mono B0.out.size)) (by (try simp) <;> omega) _) (by (try simp) <;> omega) _⟩
        · exact (hX.out.setBox RR.out (by decide)).setBox (RR.out.set 0 (.slice X q.1.length cx)) (by decide)
        · exact (hY.out.setBox RR.out (by decide)).setBox (RR.out.set 0 (.slice X q.1.length cx)) (by decide)
  · have GE := Lib.hid (show matB (us, bs) r ts r' vs = none from if_neg hg)
    by_cases hr : r = r'
    · have d0 : (r != r') = false := by simpa using hr
      by_cases h2 : ts.length = vs.length
      · have d1 : ((ts.length : Int) != (vs.length : Int)) = false := by simp; omega
        have d2 : ((us.length : Int) != (bs.length : Int)) = true := by have : ¬ us.length = bs.length := fun h => hg ⟨hr, h2, h⟩; simp; omega
        clear hg hr h2
        go_upto_region 2 with fail
        rw [← E2.out]
        go_wp2
        have z := ((YR.out).set 0 (.slice none 0 0)).set 1 (.slice none 0 0)
        have z0 := z.cell 0
        have z1 := z.cell 1
        simp only [List.setIfInBounds_toArray, List.set_cons_zero, List.set_cons_succ, List.getElem?_toArray, List.getElem?_cons_zero, List.getElem?_cons_succ] at z0 z1
        refine bodyPost_ret (v := .tuple #[.agg #[.slice none 0 0, .slice none 0 0], .bool false]) (by simp [results, Tryz.results158, go_sem, z0, z1]) rfl ?_
        exact ⟨.inl ⟨GE.out, rfl⟩, Below.setCell (Below.setCell (B0.out.trans (B2.out.mono B0.out.size)) (by (try simp) <;> omega) _) (by (try simp) <;> omega) _⟩
      · have d1 : ((ts.length : Int) != (vs.length : Int)) = true := by simp; omega
        clear hg hr h2
        go_upto_region 2 with fail
        rw [← E2.out]
        go_wp2
        have z := ((YR.out).set 0 (.slice none 0 0)).set 1 (.slice none 0 0)
        have z0 := z.cell 0
        have z1 := z.cell 1
        simp only [List.setIfInBounds_toArray, List.set_cons_zero, List.set_cons_succ, List.getElem?_toArray, List.getElem?_cons_zero, List.getElem?_cons_succ] at z0 z1
        refine bodyPost_ret (v := .tuple #[.agg #[.slice none 0 0, .slice none 0 0], .bool false]) (by simp [results, Tryz.results158, go_sem, z0, z1]) rfl ?_
        exact ⟨.inl ⟨GE.out, rfl⟩, Below.setCell (Below.setCell (B0.out.trans (B2.out.mono B0.out.size)) (by (try simp) <;> omega) _) (by (try simp) <;> omega) _⟩
    · have d0 : (r != r') = true := by simpa using hr
      clear hg hr
      go_upto_region 2 with fail
      rw [← E2.out]
      go_wp2
      have z := ((YR.out).set 0 (.slice none 0 0)).set 1 (.slice none 0 0)
      have z0 := z.cell 0
      have z1 := z.cell 1
      simp only [List.setIfInBounds_toArray, List.set_cons_zero, List.set_cons_succ, List.getElem?_toArray, List.getElem?_cons_zero, List.getElem?_cons_succ] at z0 z1
      refine bodyPost_ret (v := .tuple #[.agg #[.slice none 0 0, .slice none 0 0], .bool false]) (by simp [results, Tryz.results158, go_sem, z0, z1]) rfl ?_
      exact ⟨.inl ⟨GE.out, rfl⟩, Below.setCell (Below.setCell (B0.out.trans (B2.out.mono B0.out.size)) (by (try simp) <;> omega) _) (by (try simp) <;> omega) _⟩
end Go.Proofs.YtimlpdcambmcjaaGreat
