/- The variables that an order's first steps bind. Conditions: none beyond each theorem's own. The possible next steps. Conditions: none beyond each theorem's own. -/
import Derived.Test.YtighalbnpgmdfaaAp3
import Derived.Deep.AppendLies
import Derived.Lib.QuietBelow

namespace Go.Proofs.Ytighalbnpgmdfaa
open Go.ChangeShapes Go.WideShapes Go.ChangeAt Go.RowKit Go.Sort
set_option linter.unusedVariables false
set_option linter.unusedSimpArgs false

/-- The cells of atoms whose terms lie in w. -/
def CsOf (w : World) (cs : List Value) (fs : FL) : Prop := ∀ j, j < fs.length → ∃ B c, cs[j * 2]? = some (.int .i64 (fs.getD j (0, [])).1) ∧ cs[j * 2 + 1]? = some (.slice B (fs.getD j (0, [])).2.length c) ∧ (fs.getD j (0, [])).2.length ≤ c ∧ c ≤ maxLen ∧ Ints w 0 w.heap.size B (fs.getD j (0, [])).2
theorem CsOf.nil (w : World) : CsOf w [] [] := fun j hj => by simp at hj
theorem CsOf.snoc {w : World} {cs : List Value} {fs : FL} (h : CsOf w cs fs) (hl : cs.length = fs.length * 2) {r : Int} {xs : List Int} {B : Option Addr} {c : Nat} (h1 : xs.length ≤ c) (h2 : c ≤ maxLen) (h3 : RI w B xs) : CsOf w (cs ++ [.int .i64 r, .slice B xs.length c]) (fs ++ [(r, xs)]) := fun j hj => by
  rw [List.length_append, List.length_singleton] at hj
  rcases Nat.lt_or_ge j fs.length with hlt | hge
  · obtain ⟨B', c', a1, a2, a3, a4, a5⟩ := h j hlt
    have e : (fs ++ [(r, xs)]).getD j (0, []) = fs.getD j (0, []) := by simp [List.getD_eq_getElem?_getD, List.getElem?_append_left hlt]
    rw [e]
    exact ⟨B', c', by rw [List.getElem?_append_left (by omega)]; exact a1, by rw [List.getElem?_append_left (by omega)]; exact a2, a3, a4, a5⟩
  · have hje : j = fs.length := by omega
    subst hje
    have e : (fs ++ [(r, xs)]).getD fs.length (0, []) = (r, xs) := by simp [List.getD_eq_getElem?_getD]
    rw [e]
    exact ⟨B, c, by rw [List.getElem?_append_right (by omega), show fs.length * 2 - cs.length = 0 by omega]; rfl, by rw [List.getElem?_append_right (by omega), show fs.length * 2 + 1 - cs.length = 1 by omega]; rfl, h1, h2, h3⟩
theorem atoms_rf {w w0 : World} {base c : Nat} {A : Option Addr} {fs : FL} {cs : List Value} (h : w.ownsRow base 73 2 (.slice A fs.length c) fs.length cs) (hi : CsOf w0 cs fs) (hb : Below w0.heap.size w0 w) : RF w A fs := fun hne => by
  rcases h.2 with ⟨e, h0⟩ | ⟨g, cap, cur, hv, hbg, hg, _⟩
  · exact absurd (List.length_eq_zero_iff.1 h0) hne
  · injection hv with e1 e2 e3
    subst e1 e3
    have hlt : g < w.heap.size := by
      rcases Nat.lt_or_ge g w.heap.size with h1 | h1
      · exact h1
      · rw [Array.getElem?_eq_none h1] at hg; cases hg
    refine ⟨g, 0, rfl, Nat.zero_le _, hlt, fun k hk => ?_⟩
    obtain ⟨B, c', a1, a2, a3, a4, a5⟩ := hi k hk
    have c1 := World.ownsRow.cells h (g := g) rfl _ _ a1
    have c2 := World.ownsRow.cells h (g := g) rfl _ _ a2
    rw [add_eq] at c1 c2
    exact ⟨B, c', by simpa using c1, by simpa [Nat.add_assoc] using c2, a3, a4, (show RI w0 B _ from a5).step hb⟩

/-- A query's atoms are few and short. -/
def FewA (l : FL) : Prop := l.length ≤ 4 ∧ ∀ k, k < l.length → (l.getD k noF).2.length ≤ 3
theorem sumN_few : ∀ fs : FL, (∀ f ∈ fs, f.2.length ≤ 3) → sumN fs ≤ 3 * fs.length
  | [], _ => by simp [sumN]
  | f :: fs, h => by
    have h1 := sumN_few fs fun g hg => h g (List.mem_cons_of_mem _ hg)
    have h2 := h f (by simp)
    have e : sumN (f :: fs) = f.2.length + sumN fs := by simp [sumN]
    rw [e, List.length_cons]
    omega
theorem called_few {l : FL} (h : FewA l) (p : SL) (hp : p.length ≤ 4) : szF (called l p) ≤ 1048576 := by
  have h1 := sumN_few (called l p) (by
    intro f hf
    unfold called at hf
    rw [List.mem_map] at hf
    obtain ⟨st, _, rfl⟩ := hf
    rcases Nat.lt_or_ge st.1.toNat l.length with hk | hk
    · exact h.2 _ hk
    · rw [List.getD_eq_getElem?_getD, List.getElem?_eq_none hk]
      simp)
  have h2 : (called l p).length = p.length := by simp [called]
  unfold szF
  omega
theorem called_take (l : FL) (p : SL) {k : Nat} (hk : k < p.length) {a : Nat} {m : Int} (hf : p.getD k (0, 0) = ((a : Int), m)) {r : Int} {xs : List Int} (hg : l.getD a noF = (r, xs)) : called l (p.take (k + 1)) = called l (p.take k) ++ [(r, xs)] := by
  rw [take_snoc p hk hf, called_snoc]
  simp only [Int.toNat_natCast, hg]
theorem called_len (l : FL) (p : SL) (k : Nat) (hk : k ≤ p.length) : (called l (p.take k)).length = k := by
  unfold called
  rw [List.length_map, List.length_take]
  omega

set_option maxRecDepth 100000 in
theorem atom_info2 : (Try.prog.info? 73).map (fun i => (i.zero, i.size, i.bytes)) = some (some (.agg #[.int .i64 0, .slice none 0 0]), 2, 32) := by kernel_rfl

set_option maxRecDepth 100000 in
set_option maxHeartbeats 2000000 in
theorem boundVars_any (O : Option Addr) (co : Nat) (p : SL) (H A : Option Addr) (ch c : Nat) (hs : List Int) (ms : ML) (l : FL) (hp : p.length ≤ 4) (hfew : FewA l) (hin : InP l ms p) (w : World) (h : RZ w O p) (h2 : RF w A l) :
    Calls Try.prog 96 #[.slice O p.length co, .agg #[.slice H hs.length ch, .slice A l.length c]] w (ListT w (bnd l p)) := by
  obtain ⟨i0, hi, hz0, hz1, hz2⟩ := info_parts atom_info2
  have hp' : (p.length : Int) ≤ 4 := by omega
  have hl4 := hfew.1
  have HI := Lib.hid h
  have HJ := Lib.hid h2
  have HF := Lib.hid hfew
  have HIN := Lib.hid hin
  have b1 := below_alloc w (.cells #[.slice H hs.length ch, .slice A l.length c] 37)
  have b2 := below_alloc (w.alloc (.cells #[.slice H hs.length ch, .slice A l.length c] 37)) (.cells #[.slice none 0 0, .slice none 0 0] 37)
  have XQ := Lib.hid ((Box.new w #[.slice H hs.length ch, .slice A l.length c] 37).step b2)
  have XC0 := Box.new (w.alloc (.cells #[.slice H hs.length ch, .slice A l.length c] 37)) #[.slice none 0 0, .slice none 0 0] 37
  rw [al_size] at XC0
  have XC := Lib.hid XC0
  have B0 := Lib.hid (step b1 b2)
  clear h h2 hfew hin b1 b2 XC0
  go_enter Try.func96, Try.ntmps96
  go_wp2
  go_loopw [7, 10] (fun _ i wr => ∃ (k : Nat) (X : Option Addr) (cx : Nat) (cs : List Value), k ≤ p.length ∧ i = .int .i64 k ∧ Hid (Box wr (w.heap.size + 1) #[.slice none 0 0, .slice X k cx] 37) ∧ Hid (Box wr w.heap.size #[.slice H hs.length ch, .slice A l.length c] 37) ∧ Hid (wr.ownsRow (w.heap.size + 2) 73 2 (.slice X k cx) k cs) ∧ Hid (CsOf w cs (called l (p.take k))) ∧ Hid (Below w.heap.size w wr) ∧ w.heap.size + 2 ≤ wr.heap.size) (fun _ i _ => p.length - (intOf i).toNat)
  case atStart => exact ⟨0, none, 0, [], by omega, rfl, XC, XQ, Lib.hid (World.ownsRow_nil _ _ _ _), Lib.hid (CsOf.nil w), B0, by simp⟩
  case round =>
    obtain ⟨k, X, cx, cs, hk, rfl, xc, xq, hown, hcs, hb, hsz⟩ := hrel
    have hk0 : (0 : Int) ≤ (k : Int) := by omega
    have q1 := xc.out.cell 1
    have q3 := xc.out.frozen 1
    have x1 := xq.out.cell 1
    simp only [List.getElem?_toArray, List.getElem?_cons_zero, List.getElem?_cons_succ] at q1 x1
    by_cases hlt : k < p.length
    · have hk1 : (k : Int) < (p.length : Int) := by omega
      generalize hf : p.getD k (0, 0) = f
      obtain ⟨a, m⟩ := f
      obtain ⟨a0, a1, _, _⟩ := HIN.out.at_ hlt hf
      obtain ⟨ka, rfl⟩ := Int.eq_ofNat_of_zero_le a0
      have hka : ka < l.length := by omega
      generalize hg : l.getD ka noF = g
      obtain ⟨r, xs⟩ := g
      have CT := Lib.hid (called_take l p hlt hf hg)
      have CL := Lib.hid (called_len l p k hk)
      obtain ⟨b, off, rfl, n1, e0, e1⟩ := (HI.out.step hb.out).at_ hlt hf
      obtain ⟨bq, oq, B, cB, rfl, nq, g0, g1, hxc, hcm, hJx⟩ := HJ.out.at_ hka hg
      have G0 := (hb.out.cell (p := ⟨bq, oq + ka * 2, none⟩) nq).trans g0
      have G1 := (hb.out.cell (p := ⟨bq, oq + ka * 2 + 1, none⟩) nq).trans g1
      have nq2 : bq < wr.heap.size := by have := hb.out.size; omega
      have CS2 := Lib.hid (hcs.out.snoc (r := r) (by rw [CL.out, hown.out.1]) hxc hcm hJx)
      have hka0 : (0 : Int) ≤ (ka : Int) := by omega
      have hka1 : (ka : Int) < (l.length : Int) := by omega
      have hWs : wr.heap.size < (wr.alloc (.cells #[.int .i64 (ka : Int), .int .i64 m] 68)).heap.size := by simp
      obtain ⟨W0, hW0⟩ : ∃ W0, W0 = wr.alloc (.cells #[.int .i64 (ka : Int), .int .i64 m] 68) := ⟨_, rfl⟩
      have bW : Below wr.heap.size wr W0 := by rw [hW0]; exact below_alloc _ _
      have OA := Lib.hid (show W0.ownsRow (w.heap.size + 2) 73 2 (.slice X k cx) k cs by rw [hW0]; exact hown.out.alloc _)
      have XS : Box W0 wr.heap.size #[.int .i64 (ka : Int), .int .i64 m] 68 := by rw [hW0]; exact Box.new _ _ _
      have XC3 := xc.out.step bW
      have XQ3 := xq.out.step bW
      rw [← hW0] at hWs
      have bA := fun o => below_alloc W0 o
      have s0 := XS.cell 0
      have q1 := XC3.cell 1
      have q3 := XC3.frozen 1
      have x1 := XQ3.cell 1
      simp only [List.getElem?_toArray, List.getElem?_cons_zero, List.getElem?_cons_succ] at q1 x1 s0
      have G0 := (bW.cell (p := ⟨bq, oq + ka * 2, none⟩) nq2).trans G0
      have G1 := (bW.cell (p := ⟨bq, oq + ka * 2 + 1, none⟩) nq2).trans G1
      have nq3 : bq < W0.heap.size := by omega
      have s07 := ((XS.step (bA (.cells #[.int .i64 r, .slice B xs.length cB] 73))).cell 0)
      have q17 := ((XC3.step (bA (.cells #[.int .i64 r, .slice B xs.length cB] 73))).cell 1)
      have q37 := ((XC3.step (bA (.cells #[.int .i64 r, .slice B xs.length cB] 73))).frozen 1)
      have x17 := ((XQ3.step (bA (.cells #[.int .i64 r, .slice B xs.length cB] 73))).cell 1)
      simp only [List.getElem?_toArray, List.getElem?_cons_zero, List.getElem?_cons_succ] at q17 x17 s07
      have BW := Lib.hid bW
      have WS := Lib.hid hWs
      have XC4 := Lib.hid XC3
      have XQ4 := Lib.hid XQ3
      clear hf hg g0 g1 hJx a0 a1 bW hWs XS XC3 XQ3 bA xc xq
      go_wp2
      rw [← hW0]
      clear hW0
      go_region_law (first
        | (refine step_append_lies _ (by rfl) _ _ _ (by rfl) (w.heap.size + 2) 73 i0 _ 2 32 Try.underlying35 hi hz0 hz1 hz2 rfl (by omega) (.slice X k cx) k cs (by rfl) (by first | exact OA.out.alloc _ | exact (OA.out.alloc _).drew | exact OA.out.drew.alloc _)
             ⟨W0.heap.size, 0, none⟩ 1 1 [.int .i64 r, .slice B xs.length cB] (by rfl) (by rfl) (World.news_of_block (cs := #[.int .i64 r, .slice B xs.length cB]) (t := 73) (fr := (0, 0)) (heap_alloc_new W0 _)) (by simp [Value.oneCell']) (by omega) (by unfold maxLen; omega) (by omega) (by have := WS.out; (try simp) <;> omega) (W0.heap.size + 1) (by simp) ?_
           intro g31 cap31 v31 hown31 hgrow31 hat31 hlt31
           have hg31 : (W0.alloc (.cells #[.int .i64 r, .slice B xs.length cB] 73)).grownBy v31 (Value.slice X k cx).ownBlock := ⟨hgrow31.os, hgrow31.tape, hgrow31.output, hgrow31.size, hgrow31.block⟩
           have b31 : Below (w.heap.size + 2) W0 v31 := ((below_alloc W0 (.cells #[.int .i64 r, .slice B xs.length cB] 73)).mono (by have := WS.out; omega)).trans ((Below.refl _ _).grown hg31 (by (try simp) <;> (have := WS.out; omega)) (fun q hq => (OA.out.lt q hq).1))
           have q16 := (b31.cell (p := ⟨w.heap.size + 1, 1, none⟩) (by have := WS.out; (try simp) <;> omega)).trans q1
           have q36 := (b31.frozen (p := ⟨w.heap.size + 1, 1, none⟩) (by have := WS.out; (try simp) <;> omega)).trans q3
           have HO31 := Lib.hid hown31
           clear hown31 hgrow31 hat31))
      all_goals
        have ws := WS.out
        have z31 := b31.size
        clear q16 q36 q1 q3 q17 q37 s07 x17 x1 s0 hlt31 hg31 G0 G1
        go_wp2
        go_roundw
        case rel =>
          refine ⟨k + 1, _, cap31, cs ++ [.int .i64 r, .slice B xs.length cB], by omega, by go_num, Lib.hid (box_set1 (show Box v31 (w.heap.size + 1) #[.slice none 0 0, .slice X k cx] 37 from (b31.block _ (by omega)).trans XC4.out)), Lib.hid (Box.set_other (show Box v31 w.heap.size _ _ from (b31.block _ (by omega)).trans XQ4.out) (by simp)), Lib.hid (ownsRow_set HO31.out (by simp)), Lib.hid (by rw [CT.out]; exact CS2.out), Lib.hid (Below.setCell (hb.out.trans ((BW.out.mono (by omega)).trans (b31.mono (by omega)))) (by simp) _), by rw [set_size]; omega⟩
        case measure => simp [intOf]; omega
    · obtain rfl : k = p.length := by omega
      have CL := Lib.hid (called_len l p p.length hk)
      have hown2 := hown.out
      have hcs2 := hcs.out
      have q0 := xc.out.cell 0
      simp only [List.getElem?_toArray, List.getElem?_cons_zero, List.getElem?_cons_succ] at q0
      rw [take_all] at hcs2
      have e : (called l p).length = p.length := by simp [called]
      rw [← e] at hown2
      have RF1 := Lib.hid (atoms_rf hown2 hcs2 hb.out)
      have XV0 := impl_VarsOf none X 0 cx [] (called l p) (called_few HF.out p hp) wr RF1.out
      rw [e] at XV0
      have XV := Lib.hid XV0
      have EB := Lib.hid (show bnd l p = wl 10 17 (terms (called l p)) from rfl)
      clear hown2 hcs2 e XV0
      go_wp2_with fail
      refine XV.out.mono ?_
      rintro e w1 ⟨v, rfl, hown3, d⟩
      have HO := Lib.hid (ownsRow_lo hown3 hb.out.size)
      have HD := Lib.hid (step hb.out d)
      clear hown3 d
      go_wp2
      go_ret
      exact ⟨v, rfl, by rw [EB.out]; exact HO.out, HD.out⟩
end Go.Proofs.Ytighalbnpgmdfaa

namespace Go.Proofs.Ytighalbnpgmdfaa
open Go.ChangeShapes Go.WideShapes Go.ChangeAt Go.RowKit Go.Sort
set_option linter.unusedVariables false
set_option linter.unusedSimpArgs false

/-- A place of the step in l, or a negative number. -/
def IdxOutZ (w : World) (l : SL) (st : Int × Int) (e : Ending) (w' : World) : Prop := (∃ n : Int, e = .returned (.int .i64 n) ∧ decide (0 ≤ n) = decide (st ∈ l)) ∧ Below w.heap.size w w'

set_option maxRecDepth 100000 in
set_option maxHeartbeats 1000000 in
theorem indexZ_any (A : Option Addr) (c : Nat) (l : SL) (a m : Int) (hl : l.length ≤ 1048576) (w : World) (h : RZ w A l) :
    Calls Try.prog 95 #[.slice A l.length c, .agg #[.int .i64 a, .int .i64 m]] w (IdxOutZ w l (a, m)) := by
  have HI := Lib.hid h
  have hl' : (l.length : Int) ≤ 1048576 := by omega
  have XB := Lib.hid (Box.new w #[.int .i64 a, .int .i64 m] 68)
  have B0 := Lib.hid (below_alloc w (.cells #[.int .i64 a, .int .i64 m] 68))
  clear h
  go_enter Try.func95, Try.ntmps95
  go_wp2
  go_loopw [5, 8] (fun _ i wr => ∃ k : Nat, k ≤ l.length ∧ i = .int .i64 k ∧ Hid ((a, m) ∉ l.take k) ∧ Hid (Below w.heap.size w wr) ∧ Hid (Box wr w.heap.size #[.int .i64 a, .int .i64 m] 68)) (fun _ i _ => l.length - (intOf i).toNat)
  case atStart => exact ⟨0, by omega, rfl, Lib.hid (by simp), B0, XB⟩
  case round =>
    obtain ⟨k, hk, rfl, ha, hb, xb⟩ := hrel
    have s0 := xb.out.cell 0
    have s1 := xb.out.cell 1
    simp only [List.getElem?_toArray, List.getElem?_cons_zero, List.getElem?_cons_succ] at s0 s1
    have hk0 : (0 : Int) ≤ (k : Int) := by omega
    by_cases hlt : k < l.length
    · have hk1 : (k : Int) < (l.length : Int) := by omega
      generalize hf : l.getD k (0, 0) = f
      obtain ⟨r, x⟩ := f
      have HT := Lib.hid (take_snoc l hlt hf)
      have HM := Lib.hid (show (r, x) ∈ l by rw [← hf, List.getD_eq_getElem?_getD, List.getElem?_eq_getElem hlt]; exact List.getElem_mem _)
      obtain ⟨b, off, rfl, n1, e0, e1⟩ := (HI.out.step hb.out).at_ hlt hf
      have EQ := eq_stepT a m r x
      clear hf
      by_cases he : a = r ∧ m = x
      · obtain ⟨rfl, rfl⟩ := he
        have d5 : (a == a && m == m) = true := by simp
        go_wp2
        go_quiet (fail)
        go_wp2
        go_ret
        exact ⟨⟨_, rfl, by rw [decide_eq_true HM.out]; simp⟩, below_drewN hb.out _⟩
      · have d5 : (a == r && m == x) = false := by simp; intro h1 h2; exact he ⟨h1, h2⟩
        have NE := Lib.hid (show (a, m) ≠ (r, x) by intro e; injection e with e1 e2; exact he ⟨e1, e2⟩)
        clear he
        go_wp2
        go_quiet (fail)
        go_wp2
        go_roundw
        case rel => exact ⟨k + 1, by omega, by go_num, Lib.hid (by rw [HT.out]; simp only [List.mem_append, List.mem_singleton, not_or]; exact ⟨ha.out, NE.out⟩), Lib.hid (below_drewN hb.out _), Lib.hid xb.out⟩
        case measure => simp [intOf]; omega
    · obtain rfl : k = l.length := by omega
      go_wp2
      go_ret
      exact ⟨⟨_, rfl, by have := ha.out; rw [take_all] at this; rw [decide_eq_false this]; rfl⟩, hb.out⟩
set_option maxRecDepth 100000 in
theorem containsZ_any (A : Option Addr) (c : Nat) (l : SL) (a m : Int) (hl : l.length ≤ 1048576) (w : World) (h : RZ w A l) :
    Calls Try.prog 57 #[.slice A l.length c, .agg #[.int .i64 a, .int .i64 m]] w fun e w' => e = .returned (.bool (decide ((a, m) ∈ l))) ∧ Below w.heap.size w w' := by
  have B0 := Lib.hid (below_alloc w (.cells #[.int .i64 a, .int .i64 m] 68))
  have XI := Lib.hid (indexZ_any A c l a m hl _ (h.step B0.out))
  clear h
  go_enter Try.func57, Try.ntmps57
  go_wp2_with fail
  refine XI.out.mono ?_
  rintro e w1 ⟨⟨n, rfl, hn⟩, d⟩
  have HN := Lib.hid hn
  have D := Lib.hid (step B0.out d)
  clear hn d
  go_wp2
  go_ret
  exact ⟨ret_bool HN.out, D.out⟩

/-- Steps of the call's own. -/
def NxtO (w : World) (l : SL) (e : Ending) (w' : World) : Prop := ∃ v, e = .returned v ∧ ZS w' w.heap.size v l ∧ Below w.heap.size w w'
theorem missI_at (n : Nat) (p : SL) {k : Nat} (hk : k < (missI n p).length) : ∃ i : Nat, i < n ∧ (missI n p).getD k 0 = (i : Int) ∧ (miss n p).take (k + 1) = (miss n p).take k ++ [i] := by
  have hk' : k < (miss n p).length := by unfold missI at hk; simpa using hk
  refine ⟨(miss n p)[k], (miss_mem.1 (List.getElem_mem hk')).1, ?_, List.take_succ_eq_append_getElem hk'⟩
  unfold missI
  simp [List.getD_eq_getElem?_getD, hk']
theorem missI_length (n : Nat) (p : SL) : (missI n p).length = (miss n p).length := by simp [missI]

set_option maxRecDepth 100000 in
theorem byAny_any (a m : Int) (w : World) : Calls Try.prog 59 #[.agg #[.int .i64 a, .int .i64 m]] w fun e w' => e = .returned (.bool true) ∧ Below w.heap.size w w' := by
  have B0 := Lib.hid (below_alloc w (.cells #[.int .i64 a, .int .i64 m] 68))
  go_enter Try.func59, Try.ntmps59
  go_wp2
  go_ret
  exact ⟨rfl, B0.out⟩

set_option maxRecDepth 100000 in
set_option maxHeartbeats 4000000 in
theorem nextSteps_any (O : Option Addr) (co : Nat) (p : SL) (L : Option Addr) (cl : Nat) (ms : ML) (H A : Option Addr) (ch c : Nat) (hs : List Int) (l : FL) (hp : p.length ≤ 4) (hfew : FewA l) (hin : InP l ms p) (hzm : szM ms ≤ 1048576) (hm5 : ms.length ≤ 5) (w : World) (h : RZ w O p) (h1 : RM w L ms) (h2 : RF w A l) :
    Calls Try.prog 58 #[.slice O p.length co, .slice L ms.length cl, .agg #[.slice H hs.length ch, .slice A l.length c], .func (.func 59) #[] #[]] w (NxtO w (nextS ms l p)) := by
  obtain ⟨i0, hi, hz0, hz1, hz2⟩ := info_parts step_info
  have hl4 := hfew.1
  have hl3 := Lib.hid hfew.2
  have b0 := below_alloc w (.cells #[.slice H hs.length ch, .slice A l.length c] 37)
  have B0 := Lib.hid b0
  have HM := Lib.hid h1
  have HF := Lib.hid h2
  have XQ0 := Lib.hid (Box.new w #[.slice H hs.length ch, .slice A l.length c] 37)
  have XB := Lib.hid (boundVars_any O co p H A ch c hs ms l hp hfew hin _ (h.step b0) (h2.step b0))
  have XM := Lib.hid fun (W : World) (hW : Below w.heap.size w W) => missingAtoms_any O co p H A ch c hs l (by omega) (by omega) W (h.step hW)
  have EN := Lib.hid (show nextS ms l p = nextI ms l (bnd l p) (miss l.length p) from rfl)
  have ML_ := Lib.hid (missI_length l.length p)
  have hml := missI_len l.length p
  have MA := Lib.hid fun k => @missI_at l.length p k
  have hbl : (bnd l p).length ≤ 8 := by have := wl_len 10 17 (terms (called l p)); unfold bnd; omega
  generalize bnd l p = bd at XB EN hbl
  generalize missI l.length p = mi at XM ML_ hml MA
  generalize nextS ms l p = res at EN ⊢
  generalize miss l.length p = is at EN ML_ MA
  clear h h1 h2 hfew hin b0
  go_enter Try.func58, Try.ntmps58
  have xq0 := XQ0.out.cell 0
  have xq1 := XQ0.out.cell 1
  simp only [List.getElem?_toArray, List.getElem?_cons_zero, List.getElem?_cons_succ] at xq0 xq1
  go_wp2_with fail
  refine XB.out.mono ?_
  rintro e w1 ⟨v1, rfl, hown1, d1⟩
  obtain ⟨Ab, cb, rfl⟩ := ownsRow_form hown1
  have RB := Lib.hid (show RI w1 Ab bd from (ints_own hown1 (Nat.le_refl _)).mono (Nat.zero_le _) (Nat.le_refl _))
  have T1 := Lib.hid (step B0.out d1)
  have XQ1 := Lib.hid (XQ0.out.step d1)
  clear hown1 d1 XB xq0 xq1 B0 XQ0
  have xq0 := XQ1.out.cell 0
  have xq1 := XQ1.out.cell 1
  simp only [List.getElem?_toArray, List.getElem?_cons_zero, List.getElem?_cons_succ] at xq0 xq1
  go_wp2_with fail
  refine (XM.out _ T1.out).mono ?_
  rintro e w2 ⟨v2, rfl, hown2, d2⟩
  obtain ⟨Am, cm, rfl⟩ := ownsRow_form hown2
  have RMi := Lib.hid (show RI w2 Am mi from (ints_own hown2 (Nat.le_refl _)).mono (Nat.zero_le _) (Nat.le_refl _))
  have T2 := Lib.hid (step T1.out d2)
  have XQ2 := Lib.hid (XQ1.out.step d2)
  have RB2 := Lib.hid (RB.out.step d2)
  clear hown2 d2 XM RB T1 XQ1 xq0 xq1
  have hml' : (mi.length : Int) ≤ 4 := by omega
  have hm5' : (ms.length : Int) ≤ 5 := by omega
  go_wp2
  go_loopw [9, 12, 13, 14, 15, 23, 29] (fun o _ _ _ _ i _ wr => ∃ (k : Nat) (X : Option Addr) (cx : Nat) (out : SL), k ≤ mi.length ∧ i = .int .i64 k ∧ o = .slice X out.length cx ∧ Hid (out = nextI ms l bd (is.take k)) ∧ out.length ≤ 5 * k ∧ Hid (ZS wr w2.heap.size (.slice X out.length cx) out) ∧ Hid (Below w2.heap.size w2 wr)) (fun _ _ _ _ _ i _ _ => mi.length - (intOf i).toNat)
  case atStart => exact ⟨0, none, 0, [], by omega, rfl, rfl, Lib.hid rfl, by simp, Lib.hid (ZS.nil _ _), Lib.hid (Below.refl _ _)⟩
  case round =>
    obtain ⟨k, X, cx, out, hk, rfl, rfl, hO, hol, hown, hb⟩ := hrel
    have hk0 : (0 : Int) ≤ (k : Int) := by omega
    by_cases hlt : k < mi.length
    · have hk1 : (k : Int) < (mi.length : Int) := by omega
      obtain ⟨i, hil, hgi, htk⟩ := MA.out k hlt
      have TK := Lib.hid htk
      obtain ⟨bm, om, rfl, nm, em⟩ := RI.at_ (RMi.out.step hb.out) hlt
      rw [hgi] at em
      generalize hgf : l.getD i noF = gf
      obtain ⟨ra, ts⟩ := gf
      have HGF := Lib.hid hgf
      have hts : ts.length ≤ 3 := by have := hl3.out i hil; rw [hgf] at this; exact this
      have NS := Lib.hid (show nextI ms l bd (is.take (k + 1)) = out ++ (firstsOf ms (ra, ts) bd ms.length).map (fun j : Nat => ((i : Int), (j : Int))) by rw [TK.out, nextI_snoc, hgf, hO.out])
      have hi0 : (0 : Int) ≤ (i : Int) := by omega
      have hi1 : (i : Int) < (l.length : Int) := by omega
      clear htk hgi hgf
      go_wp2
      go_loopw [9, 13, 14, 15, 29] (fun o _ _ _ i2 wr2 => ∃ (j : Nat) (X : Option Addr) (cx : Nat) (out2 : SL), j ≤ ms.length ∧ i2 = .int .i64 j ∧ o = .slice X out2.length cx ∧ Hid (out2 = out ++ (firstsOf ms (ra, ts) bd j).map (fun j : Nat => ((i : Int), (j : Int)))) ∧ out2.length ≤ 5 * k + j ∧ Hid (ZS wr2 w2.heap.size (.slice X out2.length cx) out2) ∧ Hid (Below w2.heap.size w2 wr2)) (fun _ _ _ _ i2 _ => ms.length - (intOf i2).toNat)
      case atStart => exact ⟨0, X, cx, out, by omega, rfl, rfl, Lib.hid (by simp [firstsOf]), by omega, hown, hb⟩
      case round =>
        rename_i wr1
        obtain ⟨j, X2, cx2, out2, hj, rfl, rfl, hO2, hol2, hown2, hb2⟩ := hrel
        have hj0 : (0 : Int) ≤ (j : Int) := by omega
        by_cases hjt : j < ms.length
        · have hj1 : (j : Int) < (ms.length : Int) := by omega
          generalize hf : ms.getD j noM = f
          obtain ⟨r, inp, li, cs, qu⟩ := f
          have hil2 : inp.length ≤ 1048576 := by have := szM_elem hzm hjt; rw [hf] at this; exact this
          have TW := Lib.hid (T2.out.trans (hb2.out.mono T2.out.size))
          obtain ⟨b, off, C, cc, rfl, n1, e0, e1, e2, e3, e4, _, _, hI⟩ := (HM.out.step TW.out).at_ hjt hf
          obtain ⟨bq, oq, B, cB, rfl, nq, g0, g1, hxc, hcm, hJx⟩ := (HF.out.step TW.out).at_ hil HGF.out
          have HIx := Lib.hid hI
          have HJx := Lib.hid hJx
          have RBx := Lib.hid (RB2.out.step hb2.out)
          have XQ3 := XQ2.out.step hb2.out
          have HC := Lib.hid (show canM (ms.getD j noM) (ra, ts) bd = (true && canB r inp ra ts bd) by rw [hf]; rfl)
          obtain ⟨W0, hW0⟩ : ∃ W0, W0 = (wr.alloc (.cells #[.int .i64 r, .slice C inp.length cc, .int .i64 li, .int .i64 cs, .int .i64 qu] 71)).alloc (.cells #[.int .i64 (i : Int), .int .i64 (j : Int)] 68) := ⟨_, rfl⟩
          have bW1 := below_alloc wr (.cells #[.int .i64 r, .slice C inp.length cc, .int .i64 li, .int .i64 cs, .int .i64 qu] 71)
          have bW2 := below_alloc (wr.alloc (.cells #[.int .i64 r, .slice C inp.length cc, .int .i64 li, .int .i64 cs, .int .i64 qu] 71)) (.cells #[.int .i64 (i : Int), .int .i64 (j : Int)] 68)
          have bW : Below wr.heap.size wr W0 := by rw [hW0]; exact step bW1 bW2
          have XMb : Box W0 wr.heap.size #[.int .i64 r, .slice C inp.length cc, .int .i64 li, .int .i64 cs, .int .i64 qu] 71 := by rw [hW0]; exact (Box.new _ _ _).step bW2
          have XSb : Box W0 (wr.heap.size + 1) #[.int .i64 (i : Int), .int .i64 (j : Int)] 68 := by
            have := Box.new (wr.alloc (.cells #[.int .i64 r, .slice C inp.length cc, .int .i64 li, .int .i64 cs, .int .i64 qu] 71)) #[.int .i64 (i : Int), .int .i64 (j : Int)] 68
            rw [al_size] at this
            rw [hW0]; exact this
          have p0 := XMb.cell 0
          have p1 := XMb.cell 1
          have p2 := XMb.cell 2
          have p3 := XMb.cell 3
          have p4 := XMb.cell 4
          have p5 := (XQ3.step bW).cell 1
          have p6 := XSb.cell 0
          have p7 := XSb.cell 1
          simp only [List.getElem?_toArray, List.getElem?_cons_zero, List.getElem?_cons_succ] at p0 p1 p2 p3 p4 p5 p6 p7
          have m0 := cell_regrown p0
          have m1 := cell_regrown p1
          have m2 := cell_regrown p2
          have m3 := cell_regrown p3
          have m4 := cell_regrown p4
          have q1 := cell_regrown p5
          have m6 := cell_regrown p6
          have m7 := cell_regrown p7
          clear p0 p1 p2 p3 p4 p5 p6 p7
          have a0 := cell_regrown ((bW.cell (p := ⟨bq, oq + i * 2, none⟩) nq).trans g0)
          have a1 := cell_regrown ((bW.cell (p := ⟨bq, oq + i * 2 + 1, none⟩) nq).trans g1)
          have BW := Lib.hid bW
          have XS0 := Lib.hid XSb
          have X1 := Lib.hid fun (W : World) (hW : Below W0.heap.size W0 W) => (show Calls Try.prog 97 #[.agg #[.int .i64 r, .slice C inp.length cc, .int .i64 li, .int .i64 cs, .int .i64 qu], .agg #[.int .i64 ra, .slice B ts.length cB], .slice Ab bd.length cb] W fun e w' => e = .returned (.bool (canB r inp ra ts bd)) ∧ Below W.heap.size W w' from impl_CanCall r inp li cs qu C cc ra ts B cB Ab cb bd hil2 (by omega) (by omega) W ((HIx.out.step BW.out).step hW) ((HJx.out.step BW.out).step hW) ((RBx.out.step BW.out).step hW))
          have XU := Lib.hid fun (W : World) (hW : Below W0.heap.size W0 W) => byAny_any (i : Int) (j : Int) W
          generalize hq : canB r inp ra ts bd = q at X1 HC
          have FNy := Lib.hid fun (hx : canM (ms.getD j noM) (ra, ts) bd = true) => firstsOf_yes hx
          have FNn := Lib.hid fun (hx : canM (ms.getD j noM) (ra, ts) bd = false) => firstsOf_no hx
          clear hf hI hJx bW bW1 bW2 XMb XSb hq XQ3 g0 g1
          go_wp2
          rw [← hW0]
          clear hW0
          refine wp_region_quiet_below (by kernel_rfl) (by kernel_rfl) ?_
          repeat (go_big_quiet_step (first | (go_at_call 97; with_reducible exact Calls.regrown_of (X1.out _ (below_regrown _ _ _))) | (go_at_call 59; with_reducible exact Calls.regrown_of (XU.out _ (below_regrown _ _ _)))))
          refine wpQuiet_nil ?_
          intro u hw'
          have b6 : Below wr.heap.size wr u := step BW.out (show Below W0.heap.size W0 u by obtain ⟨⟨dq, osq⟩, rfl⟩ := hw'; exact below_regrown _ _ _)
          have xs6 := XS0.out.step (show Below W0.heap.size W0 u by obtain ⟨⟨dq, osq⟩, rfl⟩ := hw'; exact below_regrown _ _ _)
          have O6 := Lib.hid (hown2.out.step b6)
          have B6 := Lib.hid (step hb2.out b6)
          have SZ6 : w2.heap.size ≤ u.heap.size := by have := B6.out.size; omega
          have s6 := xs6.cell 0
          have s7 := xs6.cell 1
          simp only [List.getElem?_toArray, List.getElem?_cons_zero, List.getElem?_cons_succ] at s6 s7
          clear hw' m0 m1 m2 m3 m4 m6 m7 q1 a0 a1 b6 xs6
          cases q
          · have FN := Lib.hid (FNn.out HC.out)
            go_wp2
            go_roundw
            case rel => exact ⟨j + 1, X2, cx2, out2, by omega, by go_num, rfl, Lib.hid (by rw [FN.out, hO2.out]), by omega, O6, B6⟩
            case measure => simp [intOf]; omega
          · have FN := Lib.hid (FNy.out HC.out)
            have LL := Lib.hid (show (out2 ++ [((i : Int), (j : Int))]).length = out2.length + 1 by simp)
            go_wp2_with (at_builtin; refine wpList_pushZ rfl _ _ 39 rfl i0 Try.underlying39 hi hz0 hz1 hz2 rfl rfl O6.out B6.out SZ6 (by omega) ?_; intro v' w' hz' hb' hs'; obtain ⟨A', c', rfl⟩ := hz'.form)
            go_roundw
            case rel => exact ⟨j + 1, A', c', out2 ++ [((i : Int), (j : Int))], by omega, by go_num, by rw [LL.out], Lib.hid (by rw [FN.out, hO2.out, List.map_append, List.append_assoc]; rfl), by rw [LL.out]; omega, Lib.hid hz', Lib.hid hb'⟩
            case measure => simp [intOf]; omega
        · obtain rfl : j = ms.length := by omega
          have ON := Lib.hid (show out2 = nextI ms l bd (is.take (k + 1)) by rw [NS.out, hO2.out])
          go_wp2
          go_roundw
          case rel => exact ⟨k + 1, X2, cx2, out2, by omega, by go_num, rfl, ON, by omega, hown2, hb2⟩
          case measure => simp [intOf]; omega
    · obtain rfl : k = mi.length := by omega
      have ON := Lib.hid (show out = res by rw [hO.out, ML_.out, take_all, EN.out])
      go_wp2
      go_ret
      have HW := T2.out.trans (hb.out.mono T2.out.size)
      exact ⟨_, rfl, by rw [← ON.out]; exact hown.out.lo T2.out.size, HW⟩
end Go.Proofs.Ytighalbnpgmdfaa
