/- The variables that an order's first steps bind. Conditions: none beyond each theorem's own. -/
import Derived.Test.YtighalbnpgmdfaaOr1
import Derived.Deep.AppendLies
namespace Go.Proofs.Ytighalbnpgmdfaa
open Go.ChangeShapes Go.WideShapes Go.ChangeAt Go.RowKit Go.Sort
set_option linter.unusedVariables false
set_option linter.unusedSimpArgs false

/-- The cells of atoms whose terms lie in w. -/
def CsOf (w : World) (cs : List Value) (fs : FL) : Prop := ∀ j, j < fs.length → ∃ B c, cs[j * 2]? = some (.int .i64 (fs.getD j (0, [])).1) ∧ cs[j * 2 + 1]? = some (.slice B (fs.getD j (0, [])).2.length c) ∧ (fs.getD j (0, [])).2.length ≤ c ∧ c ≤ maxLen ∧ Ints w 0 w.heap.size B (fs.getD j (0, [])).2
theorem CsOf.nil (w : World) : CsOf w [] [] := fun j hj => by simp at hj
theorem CsOf.snoc {w : World} {cs : List Value} {fs : FL} (h : CsOf w cs fs) (hl : cs.length = fs.length * 2) {r : Int} {xs : List Int} {B : Option Addr} {c : Nat} (h1 : xs.length ≤ c) (h2 : c ≤ maxLen) (h3 : RI w B xs) : CsOf w (cs ++ [.int .i64 r, .slice B xs.length c]) (fs ++ [(r, xs)]) := fun j hj => by
  rw [List.length_append, List.length_singleton] at hj
  rcases Nat.lt_or_ge j fs.length with hlt | hge
  · obtain ⟨B', c', a1, a2, a3, a4, a5⟩ := h j hlt
    have e : (fs ++ [(r, xs)]).getD j (0, []) = fs.getD j (0, []) := by simp [List.getD_eq_getElem?_getD, List.getElem?_append_left hlt]
    rw [e]
    exact ⟨B', c', by rw [List.getElem?_append_left (by omega)]; exact a1, by rw [List.getElem?_append_left (by omega)]; exact a2, a3, a4, a5⟩
  · have hje : j = fs.length := by omega
    subst hje
    have e : (fs ++ [(r, xs)]).getD fs.length (0, []) = (r, xs) := by simp [List.getD_eq_getElem?_getD]
    rw [e]
    exact ⟨B, c, by rw [List.getElem?_append_right (by omega), show fs.length * 2 - cs.length = 0 by omega]; rfl, by rw [List.getElem?_append_right (by omega), show fs.length * 2 + 1 - cs.length = 1 by omega]; rfl, h1, h2, h3⟩
theorem atoms_rf {w w0 : World} {base c : Nat} {A : Option Addr} {fs : FL} {cs : List Value} (h : w.ownsRow base 73 2 (.slice A fs.length c) fs.length cs) (hi : CsOf w0 cs fs) (hb : Below w0.heap.size w0 w) : RF w A fs := fun hne => by
  rcases h.2 with ⟨e, h0⟩ | ⟨g, cap, cur, hv, hbg, hg, _⟩
  · exact absurd (List.length_eq_zero_iff.1 h0) hne
  · injection hv with e1 e2 e3
    subst e1 e3
    have hlt : g < w.heap.size := by
      rcases Nat.lt_or_ge g w.heap.size with h1 | h1
      · exact h1
      · rw [Array.getElem?_eq_none h1] at hg; cases hg
    refine ⟨g, 0, rfl, Nat.zero_le _, hlt, fun k hk => ?_⟩
    obtain ⟨B, c', a1, a2, a3, a4, a5⟩ := hi k hk
    have c1 := World.ownsRow.cells h (g := g) rfl _ _ a1
    have c2 := World.ownsRow.cells h (g := g) rfl _ _ a2
    rw [add_eq] at c1 c2
    exact ⟨B, c', by simpa using c1, by simpa [Nat.add_assoc] using c2, a3, a4, (show RI w0 B _ from a5).step hb⟩

/-- A query's atoms are few and short. -/
def FewA (l : FL) : Prop := l.length ≤ 4 ∧ ∀ k, k < l.length → (l.getD k noF).2.length ≤ 3
theorem sumN_few : ∀ fs : FL, (∀ f ∈ fs, f.2.length ≤ 3) → sumN fs ≤ 3 * fs.length
  | [], _ => by simp [sumN]
  | f :: fs, h => by
    have h1 := sumN_few fs fun g hg => h g (List.mem_cons_of_mem _ hg)
    have h2 := h f (by simp)
    have e : sumN (f :: fs) = f.2.length + sumN fs := by simp [sumN]
    rw [e, List.length_cons]
    omega
theorem called_few {l : FL} (h : FewA l) (p : SL) (hp : p.length ≤ 4) : szF (called l p) ≤ 1048576 := by
  have h1 := sumN_few (called l p) (by
    intro f hf
    unfold called at hf
    rw [List.mem_map] at hf
    obtain ⟨st, _, rfl⟩ := hf
    rcases Nat.lt_or_ge st.1.toNat l.length with hk | hk
    · exact h.2 _ hk
    · rw [List.getD_eq_getElem?_getD, List.getElem?_eq_none hk]
      simp)
  have h2 : (called l p).length = p.length := by simp [called]
  unfold szF
  omega
theorem called_take (l : FL) (p : SL) {k : Nat} (hk : k < p.length) {a : Nat} {m : Int} (hf : p.getD k (0, 0) = ((a : Int), m)) {r : Int} {xs : List Int} (hg : l.getD a noF = (r, xs)) : called l (p.take (k + 1)) = called l (p.take k) ++ [(r, xs)] := by
  rw [take_snoc p hk hf, called_snoc]
  simp only [Int.toNat_natCast, hg]
theorem called_len (l : FL) (p : SL) (k : Nat) (hk : k ≤ p.length) : (called l (p.take k)).length = k := by
  unfold called
  rw [List.length_map, List.length_take]
  omega

set_option maxRecDepth 100000 in
theorem atom_info2 : (Try.prog.info? 73).map (fun i => (i.zero, i.size, i.bytes)) = some (some (.agg #[.int .i64 0, .slice none 0 0]), 2, 32) := by kernel_rfl

set_option maxRecDepth 100000 in
set_option maxHeartbeats 2000000 in
theorem boundVars_any (O : Option Addr) (co : Nat) (p : SL) (H A : Option Addr) (ch c : Nat) (hs : List Int) (ms : ML) (l : FL) (hp : p.length ≤ 4) (hfew : FewA l) (hin : InP l ms p) (w : World) (h : RZ w O p) (h2 : RF w A l) :
    Calls Try.prog 96 #[.slice O p.length co, .agg #[.slice H hs.length ch, .slice A l.length c]] w (ListT w (bnd l p)) := by
  obtain ⟨i0, hi, hz0, hz1, hz2⟩ := info_parts atom_info2
  have hp' : (p.length : Int) ≤ 4 := by omega
  have hl4 := hfew.1
  have HI := Lib.hid h
  have HJ := Lib.hid h2
  have HF := Lib.hid hfew
  have HIN := Lib.hid hin
  have b1 := below_alloc w (.cells #[.slice H hs.length ch, .slice A l.length c] 37)
  have b2 := below_alloc (w.alloc (.cells #[.slice H hs.length ch, .slice A l.length c] 37)) (.cells #[.slice none 0 0, .slice none 0 0] 37)
  have XQ := Lib.hid ((Box.new w #[.slice H hs.length ch, .slice A l.length c] 37).step b2)
  have XC0 := Box.new (w.alloc (.cells #[.slice H hs.length ch, .slice A l.length c] 37)) #[.slice none 0 0, .slice none 0 0] 37
  rw [al_size] at XC0
  have XC := Lib.hid XC0
  have B0 := Lib.hid (step b1 b2)
  clear h h2 hfew hin b1 b2 XC0
  go_enter Try.func96, Try.ntmps96
  go_wp2
  go_loopw [7, 10] (fun _ i wr => ∃ (k : Nat) (X : Option Addr) (cx : Nat) (cs : List Value), k ≤ p.length ∧ i = .int .i64 k ∧ Hid (Box wr (w.heap.size + 1) #[.slice none 0 0, .slice X k cx] 37) ∧ Hid (Box wr w.heap.size #[.slice H hs.length ch, .slice A l.length c] 37) ∧ Hid (wr.ownsRow (w.heap.size + 2) 73 2 (.slice X k cx) k cs) ∧ Hid (CsOf w cs (called l (p.take k))) ∧ Hid (Below w.heap.size w wr) ∧ w.heap.size + 2 ≤ wr.heap.size) (fun _ i _ => p.length - (intOf i).toNat)
  case atStart => exact ⟨0, none, 0, [], by omega, rfl, XC, XQ, Lib.hid (World.ownsRow_nil _ _ _ _), Lib.hid (CsOf.nil w), B0, by simp⟩
  case round =>
    obtain ⟨k, X, cx, cs, hk, rfl, xc, xq, hown, hcs, hb, hsz⟩ := hrel
    have hk0 : (0 : Int) ≤ (k : Int) := by omega
    have q1 := xc.out.cell 1
    have q3 := xc.out.frozen 1
    have x1 := xq.out.cell 1
    simp only [List.getElem?_toArray, List.getElem?_cons_zero, List.getElem?_cons_succ] at q1 x1
    by_cases hlt : k < p.length
    · have hk1 : (k : Int) < (p.length : Int) := by omega
      generalize hf : p.getD k (0, 0) = f
      obtain ⟨a, m⟩ := f
      obtain ⟨a0, a1, _, _⟩ := HIN.out.at_ hlt hf
      obtain ⟨ka, rfl⟩ := Int.eq_ofNat_of_zero_le a0
      have hka : ka < l.length := by omega
      generalize hg : l.getD ka noF = g
      obtain ⟨r, xs⟩ := g
      have CT := Lib.hid (called_take l p hlt hf hg)
      have CL := Lib.hid (called_len l p k hk)
      obtain ⟨b, off, rfl, n1, e0, e1⟩ := (HI.out.step hb.out).at_ hlt hf
      obtain ⟨bq, oq, B, cB, rfl, nq, g0, g1, hxc, hcm, hJx⟩ := HJ.out.at_ hka hg
      have G0 := (hb.out.cell (p := ⟨bq, oq + ka * 2, none⟩) nq).trans g0
      have G1 := (hb.out.cell (p := ⟨bq, oq + ka * 2 + 1, none⟩) nq).trans g1
      have nq2 : bq < wr.heap.size := by have := hb.out.size; omega
      have CS2 := Lib.hid (hcs.out.snoc (r := r) (by rw [CL.out, hown.out.1]) hxc hcm hJx)
      have hka0 : (0 : Int) ≤ (ka : Int) := by omega
      have hka1 : (ka : Int) < (l.length : Int) := by omega
      have hWs : wr.heap.size < (wr.alloc (.cells #[.int .i64 (ka : Int), .int .i64 m] 68)).heap.size := by simp
      obtain ⟨W0, hW0⟩ : ∃ W0, W0 = wr.alloc (.cells #[.int .i64 (ka : Int), .int .i64 m] 68) := ⟨_, rfl⟩
      have bW : Below wr.heap.size wr W0 := by rw [hW0]; exact below_alloc _ _
      have OA := Lib.hid (show W0.ownsRow (w.heap.size + 2) 73 2 (.slice X k cx) k cs by rw [hW0]; exact hown.out.alloc _)
      have XS : Box W0 wr.heap.size #[.int .i64 (ka : Int), .int .i64 m] 68 := by rw [hW0]; exact Box.new _ _ _
      have XC3 := xc.out.step bW
      have XQ3 := xq.out.step bW
      rw [← hW0] at hWs
      have bA := fun o => below_alloc W0 o
      have s0 := XS.cell 0
      have q1 := XC3.cell 1
      have q3 := XC3.frozen 1
      have x1 := XQ3.cell 1
      simp only [List.getElem?_toArray, List.getElem?_cons_zero, List.getElem?_cons_succ] at q1 x1 s0
      have G0 := (bW.cell (p := ⟨bq, oq + ka * 2, none⟩) nq2).trans G0
      have G1 := (bW.cell (p := ⟨bq, oq + ka * 2 + 1, none⟩) nq2).trans G1
      have nq3 : bq < W0.heap.size := by omega
      have s07 := ((XS.step (bA (.cells #[.int .i64 r, .slice B xs.length cB] 73))).cell 0)
      have q17 := ((XC3.step (bA (.cells #[.int .i64 r, .slice B xs.length cB] 73))).cell 1)
      have q37 := ((XC3.step (bA (.cells #[.int .i64 r, .slice B xs.length cB] 73))).frozen 1)
      have x17 := ((XQ3.step (bA (.cells #[.int .i64 r, .slice B xs.length cB] 73))).cell 1)
      simp only [List.getElem?_toArray, List.getElem?_cons_zero, List.getElem?_cons_succ] at q17 x17 s07
      have BW := Lib.hid bW
      have WS := Lib.hid hWs
      have XC4 := Lib.hid XC3
      have XQ4 := Lib.hid XQ3
      clear hf hg g0 g1 hJx a0 a1 bW hWs XS XC3 XQ3 bA xc xq
      go_wp2
      rw [← hW0]
      clear hW0
      go_region_law (first
        | (refine step_append_lies _ (by rfl) _ _ _ (by rfl) (w.heap.size + 2) 73 i0 _ 2 32 Try.underlying35 hi hz0 hz1 hz2 rfl (by omega) (.slice X k cx) k cs (by rfl) (by first | exact OA.out.alloc _ | exact (OA.out.alloc _).drew | exact OA.out.drew.alloc _)
             ⟨W0.heap.size, 0, none⟩ 1 1 [.int .i64 r, .slice B xs.length cB] (by rfl) (by rfl) (World.news_of_block (cs := #[.int .i64 r, .slice B xs.length cB]) (t := 73) (fr := (0, 0)) (heap_alloc_new W0 _)) (by simp [Value.oneCell']) (by omega) (by unfold maxLen; omega) (by omega) (by have := WS.out; (try simp) <;> omega) (W0.heap.size + 1) (by simp) ?_
           intro g31 cap31 v31 hown31 hgrow31 hat31 hlt31
           have hg31 : (W0.alloc (.cells #[.int .i64 r, .slice B xs.length cB] 73)).grownBy v31 (Value.slice X k cx).ownBlock := ⟨hgrow31.os, hgrow31.tape, hgrow31.output, hgrow31.size, hgrow31.block⟩
           have b31 : Below (w.heap.size + 2) W0 v31 := ((below_alloc W0 (.cells #[.int .i64 r, .slice B xs.length cB] 73)).mono (by have := WS.out; omega)).trans ((Below.refl _ _).grown hg31 (by (try simp) <;> (have := WS.out; omega)) (fun q hq => (OA.out.lt q hq).1))
           have q16 := (b31.cell (p := ⟨w.heap.size + 1, 1, none⟩) (by have := WS.out; (try simp) <;> omega)).trans q1
           have q36 := (b31.frozen (p := ⟨w.heap.size + 1, 1, none⟩) (by have := WS.out; (try simp) <;> omega)).trans q3
           have HO31 := Lib.hid hown31
           clear hown31 hgrow31 hat31))
      all_goals
        have ws := WS.out
        have z31 := b31.size
        clear q16 q36 q1 q3 q17 q37 s07 x17 x1 s0 hlt31 hg31 G0 G1
        go_wp2
        go_roundw
        case rel =>
          refine ⟨k + 1, _, cap31, cs ++ [.int .i64 r, .slice B xs.length cB], by omega, by go_num, Lib.hid (box_set1 (show Box v31 (w.heap.size + 1) #[.slice none 0 0, .slice X k cx] 37 from (b31.block _ (by omega)).trans XC4.out)), Lib.hid (Box.set_other (show Box v31 w.heap.size _ _ from (b31.block _ (by omega)).trans XQ4.out) (by simp)), Lib.hid (ownsRow_set HO31.out (by simp)), Lib.hid (by rw [CT.out]; exact CS2.out), Lib.hid (Below.setCell (hb.out.trans ((BW.out.mono (by omega)).trans (b31.mono (by omega)))) (by simp) _), by rw [set_size]; omega⟩
        case measure => simp [intOf]; omega
    · obtain rfl : k = p.length := by omega
      have CL := Lib.hid (called_len l p p.length hk)
      have hown2 := hown.out
      have hcs2 := hcs.out
      have q0 := xc.out.cell 0
      simp only [List.getElem?_toArray, List.getElem?_cons_zero, List.getElem?_cons_succ] at q0
      rw [take_all] at hcs2
      have e : (called l p).length = p.length := by simp [called]
      rw [← e] at hown2
      have RF1 := Lib.hid (atoms_rf hown2 hcs2 hb.out)
      have XV0 := impl_VarsOf none X 0 cx [] (called l p) (called_few HF.out p hp) wr RF1.out
      rw [e] at XV0
      have XV := Lib.hid XV0
      have EB := Lib.hid (show bnd l p = wl 10 17 (terms (called l p)) from rfl)
      clear hown2 hcs2 e XV0
      go_wp2_with fail
      refine XV.out.mono ?_
      rintro e w1 ⟨v, rfl, hown3, d⟩
      have HO := Lib.hid (ownsRow_lo hown3 hb.out.size)
      have HD := Lib.hid (step hb.out d)
      clear hown3 d
      go_wp2
      go_ret
      exact ⟨v, rfl, by rw [EB.out]; exact HO.out, HD.out⟩
end Go.Proofs.Ytighalbnpgmdfaa
