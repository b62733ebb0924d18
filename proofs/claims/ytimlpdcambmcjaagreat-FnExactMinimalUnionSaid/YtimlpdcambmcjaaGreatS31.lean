/- What the model's l4Extend answers. Conditions: none beyond each theorem's own. What the model's BindingsOf answers on a few atoms and facts. Conditions: none beyond each theorem's own. The program's matchingsOf: three boxes and the iterator over them. Conditions: none beyond each theorem's own. -/
import Derived.Test.YtimlpdcambmcjaaGreatS19
import Derived.Test.YtimlpdcambmcjaaGreatSSpM
import Derived.Test.YtimlpdcambmcjaaGreatSIt1

namespace Go.Proofs.YtimlpdcambmcjaaGreat
open Go.ChangeShapes Go.WideShapes Go.ChangeAt Go.RowKit Go.Sort
set_option linter.unusedVariables false
set_option linter.unusedSimpArgs false

/-- What a list of bindings of the call's own is. -/
def BOut (w : World) (ps : List PL) (e : Ending) (w' : World) : Prop := ∃ A c, e = .returned (.slice A ps.length c) ∧ BC w' w.heap.size (.slice A ps.length c) ps ∧ Below w.heap.size w w'
theorem extB_take (fs : FL) (a : Int × List Int) (ps : List PL) {k : Nat} (hk : k < ps.length) {p : PL} (hf : ps.getD k noP = p) : extB fs a (ps.take (k + 1)) = extB fs a (ps.take k) ++ extA fs a p := by
  have e : ps[k] = p := by rw [← hf]; simp [List.getD_eq_getElem?_getD, hk]
  unfold extB
  rw [List.take_succ_eq_append_getElem hk, e, List.flatMap_append]
  simp
theorem extA_yes (fs : FL) (a : Int × List Int) (p : PL) {k : Nat} (hk : k < fs.length) {f : Int × List Int} (hf : fs.getD k (0, []) = f) {q : PL} (hm : mtF p a f = some q) : extA (fs.take (k + 1)) a p = extA (fs.take k) a p ++ [q] := by
  have e : fs[k] = f := by rw [← hf]; simp [List.getD_eq_getElem?_getD, hk]
  unfold extA
  rw [List.take_succ_eq_append_getElem hk, e, List.filterMap_append, List.filterMap_cons_some hm]
  rfl
theorem extA_no (fs : FL) (a : Int × List Int) (p : PL) {k : Nat} (hk : k < fs.length) {f : Int × List Int} (hf : fs.getD k (0, []) = f) (hm : mtF p a f = none) : extA (fs.take (k + 1)) a p = extA (fs.take k) a p := by
  have e : fs[k] = f := by rw [← hf]; simp [List.getD_eq_getElem?_getD, hk]
  unfold extA
  rw [List.take_succ_eq_append_getElem hk, e, List.filterMap_append, List.filterMap_cons_none hm]
  simp
theorem extB_bound (fs : FL) (a : Int × List Int) (ps : List PL) (k : Nat) : (extB fs a (ps.take k)).length ≤ ps.length * fs.length := by
  have h1 := extB_len fs a (ps.take k)
  have h2 : (ps.take k).length ≤ ps.length := by rw [List.length_take]; omega
  exact Nat.le_trans h1 (Nat.mul_le_mul_right _ h2)
theorem extA_bound (fs : FL) (a : Int × List Int) (p : PL) (k : Nat) : (extA (fs.take k) a p).length ≤ fs.length := by
  have h1 := extA_len (fs.take k) a p
  have h2 : (fs.take k).length ≤ fs.length := by rw [List.length_take]; omega
  omega

/-- The values that are read in the region. -/
def l4Vals (b : Value) (n : Nat) (x y a f : Value) (k : Nat) (r2 : Int) (v : Value) (gB bF oF : Nat) : Nat → Option Value
  | 0 => some b | 1 => some (.int .i64 n) | 2 => some (.pointer (some ⟨gB, n * 2, none⟩)) | 3 => some (.agg #[x, y]) | 4 => some a | 5 => some f | 6 => some (.int .i64 k)
  | 7 => some (.pointer (some ⟨bF, oF + k * 2, none⟩)) | 8 => some (.agg #[.int .i64 r2, v]) | _ => none
/-- What holds in the midst of the region. -/
structure L4J (q : PL) (b : Bool) (vals : Nat → Option Value) (w0 : World) (listed : Array Bool) (T : Nat → Value) (u : World) : Prop where
  below : Below w0.heap.size w0 u
  fv : FV vals listed T
  call : listed.getD 9 false = true → ∃ X c Y d, T 9 = .tuple #[.agg #[.slice X q.1.length c, .slice Y q.2.length d], .bool b] ∧ RW u X q.1 ∧ RW u Y q.2 ∧
    (listed.getD 10 false = true → T 10 = T 9) ∧ (listed.getD 11 false = true → T 11 = .agg #[.slice X q.1.length c, .slice Y q.2.length d]) ∧ (listed.getD 12 false = true → T 12 = .bool b) ∧
    (listed.getD 14 false = true → ∃ g, T 13 = .pointer (some ⟨g, 0, none⟩) ∧ w0.heap.size ≤ g ∧ Box u g #[.slice X q.1.length c, .slice Y q.2.length d] 100)
  new : listed.getD 13 false = true → listed.getD 14 false = false → ∃ g a c, T 13 = .pointer (some ⟨g, 0, none⟩) ∧ w0.heap.size ≤ g ∧ Box u g #[a, c] 100
  last : listed.getD 15 false = true → T 15 = .bool b
theorem L4J.start {q : PL} {b : Bool} {vals : Nat → Option Value} {w0 : World} {T : Nat → Value} : L4J q b vals w0 (Array.replicate 16 false) T (World.drew w0) :=
  ⟨below_drew w0, FV.none 16, fun h => absurd h (by decide), fun h => absurd h (by decide), fun h => absurd h (by decide)⟩
theorem setT {l : Array Bool} {i j : Nat} (hs : i < l.size) (h : i ≠ j) : (l.setIfInBounds i true).getD j false = l.getD j false := by rw [getD_set hs, if_neg h]
theorem setY {l : Array Bool} {i : Nat} (hs : i < l.size) : (l.setIfInBounds i true).getD i false = true := by rw [getD_set hs, if_pos rfl]
/-- Another operation: what it lists is none of the five last, or is told. -/
theorem L4J.on {q : PL} {b : Bool} {vals : Nat → Option Value} {w0 : World} {listed : Array Bool} {T : Nat → Value} {u u' : World} (h : L4J q b vals w0 listed T u) {i : Nat} {v : Value} (hs : i < listed.size) (hn : listed.getD i false = false) (hb : Below u.heap.size u u')
    (h9 : i ≠ 9) (h13 : i ≠ 13) (h14 : i ≠ 14) (hv : ∀ x, vals i = some x → v = x)
    (h10 : i = 10 → v = T 9) (h11 : i = 11 → ∀ X c Y d, T 9 = .tuple #[.agg #[.slice X q.1.length c, .slice Y q.2.length d], .bool b] → v = .agg #[.slice X q.1.length c, .slice Y q.2.length d]) (h12 : i = 12 → v = .bool b) (h15 : i = 15 → v = .bool b) :
    L4J q b vals w0 (listed.setIfInBounds i true) (upd T i v) u' := by
  refine ⟨step h.below hb, h.fv.set hs hv, fun hl => ?_, fun hl hm => ?_, fun hl => ?_⟩
  · rw [setT hs h9] at hl
    obtain ⟨X, c, Y, d, e9, r1, r2, e10, e11, e12, e14⟩ := h.call hl
    refine ⟨X, c, Y, d, by rw [upd_ne (Ne.symm h9)]; exact e9, r1.step hb, r2.step hb, fun hl => ?_, fun hl => ?_, fun hl => ?_, fun hl => ?_⟩
    · by_cases e : i = 10
      · subst e; rw [upd_same, upd_ne (by decide)]; exact h10 rfl
      · rw [setT hs e] at hl; rw [upd_ne (Ne.symm e), upd_ne (Ne.symm h9)]; exact e10 hl
    · by_cases e : i = 11
      · subst e; rw [upd_same]; exact h11 rfl X c Y d e9
      · rw [setT hs e] at hl; rw [upd_ne (Ne.symm e)]; exact e11 hl
    · by_cases e : i = 12
      · subst e; rw [upd_same]; exact h12 rfl
      · rw [setT hs e] at hl; rw [upd_ne (Ne.symm e)]; exact e12 hl
    · rw [setT hs h14] at hl
      obtain ⟨g, eg, hg, hbx⟩ := e14 hl
      exact ⟨g, by rw [upd_ne (Ne.symm h13)]; exact eg, hg, hbx.step hb⟩
  · rw [setT hs h13] at hl
    rw [setT hs h14] at hm
    obtain ⟨g, a, c, eg, hg, hbx⟩ := h.new hl hm
    exact ⟨g, a, c, by rw [upd_ne (Ne.symm h13)]; exact eg, hg, hbx.step hb⟩
  · by_cases e : i = 15
    · subst e; rw [upd_same]; exact h15 rfl
    · rw [setT hs e] at hl; rw [upd_ne (Ne.symm e)]; exact h.last hl
theorem L4J.called {q : PL} {b : Bool} {vals : Nat → Option Value} {w0 : World} {listed : Array Bool} {T : Nat → Value} {u u' : World} (h : L4J q b vals w0 listed T u) (hs : 9 < listed.size) (hb : Below u.heap.size u u')
    (n10 : listed.getD 10 false = false) (n11 : listed.getD 11 false = false) (n12 : listed.getD 12 false = false) (n14 : listed.getD 14 false = false) (hv : vals 9 = none)
    {X Y : Option Addr} {c d : Nat} (r1 : RW u' X q.1) (r2 : RW u' Y q.2) : L4J q b vals w0 (listed.setIfInBounds 9 true) (upd T 9 (.tuple #[.agg #[.slice X q.1.length c, .slice Y q.2.length d], .bool b])) u' := by
  refine ⟨step h.below hb, h.fv.set hs (fun x hx => by rw [hv] at hx; cases hx), fun _ => ⟨X, c, Y, d, upd_same .., r1, r2, fun hl => ?_, fun hl => ?_, fun hl => ?_, fun hl => ?_⟩, fun hl hm => ?_, fun hl => ?_⟩
  · rw [setT hs (by decide), n10] at hl; cases hl
  · rw [setT hs (by decide), n11] at hl; cases hl
  · rw [setT hs (by decide), n12] at hl; cases hl
  · rw [setT hs (by decide), n14] at hl; cases hl
  · rw [setT hs (by decide)] at hl hm
    obtain ⟨g, a, e, eg, hg, hbx⟩ := h.new hl hm
    exact ⟨g, a, e, by rw [upd_ne (by decide)]; exact eg, hg, hbx.step hb⟩
  · rw [setT hs (by decide)] at hl
    rw [upd_ne (by decide)]; exact h.last hl
theorem L4J.laid {q : PL} {b : Bool} {vals : Nat → Option Value} {w0 : World} {listed : Array Bool} {T : Nat → Value} {u : World} (h : L4J q b vals w0 listed T u) (hs : 13 < listed.size) (n14 : listed.getD 14 false = false) (hv : vals 13 = none) (a c : Value) :
    L4J q b vals w0 (listed.setIfInBounds 13 true) (upd T 13 (.pointer (some ⟨u.heap.size, 0, none⟩))) (u.alloc (.cells #[a, c] 100)) := by
  have hb := below_alloc u (.cells #[a, c] 100)
  refine ⟨step h.below hb, h.fv.set hs (fun x hx => by rw [hv] at hx; cases hx), fun hl => ?_, fun _ _ => ⟨_, a, c, upd_same .., h.below.size, Box.new _ _ _⟩, fun hl => ?_⟩
  · rw [setT hs (by decide)] at hl
    obtain ⟨X, c, Y, d, e9, r1, r2, e10, e11, e12, e14⟩ := h.call hl
    refine ⟨X, c, Y, d, by rw [upd_ne (by decide)]; exact e9, r1.step hb, r2.step hb, fun hl => ?_, fun hl => ?_, fun hl => ?_, fun hl => ?_⟩
    · rw [setT hs (by decide)] at hl; rw [upd_ne (by decide), upd_ne (by decide)]; exact e10 hl
    · rw [setT hs (by decide)] at hl; rw [upd_ne (by decide)]; exact e11 hl
    · rw [setT hs (by decide)] at hl; rw [upd_ne (by decide)]; exact e12 hl
    · rw [setT hs (by decide), n14] at hl; cases hl
  · rw [setT hs (by decide)] at hl
    rw [upd_ne (by decide)]; exact h.last hl
theorem L4J.stored {q : PL} {b : Bool} {vals : Nat → Option Value} {w0 : World} {listed : Array Bool} {T : Nat → Value} {u : World} (h : L4J q b vals w0 listed T u) (hs : 14 < listed.size) (n14 : listed.getD 14 false = false) (l9 : listed.getD 9 false = true) (l11 : listed.getD 11 false = true) (hv : vals 14 = none) (v0 : Value)
    {g : Nat} {a c' : Value} (eg : T 13 = .pointer (some ⟨g, 0, none⟩)) (hg : w0.heap.size ≤ g) (hbx : Box u g #[a, c'] 100) {X Y : Option Addr} {c d : Nat} (e : T 11 = .agg #[.slice X q.1.length c, .slice Y q.2.length d]) :
    L4J q b vals w0 (listed.setIfInBounds 14 true) (upd T 14 v0) ((u.setCell ⟨g, 0, none⟩ (.slice X q.1.length c)).setCell ⟨g, 1, none⟩ (.slice Y q.2.length d)) := by
  have s1 := hbx.set 0 (.slice X q.1.length c)
  have s2 := s1.set 1 (.slice Y q.2.length d)
  refine ⟨(h.below.setCell hg _).setCell hg _, h.fv.set hs (fun x hx => by rw [hv] at hx; cases hx), fun _ => ?_, fun _ hm => ?_, fun hl => ?_⟩
  · obtain ⟨X', c2, Y', d2, e9, r1, r2, e10, e11, e12, e14⟩ := h.call l9
    have e' := e11 l11
    rw [e] at e'
    injection e' with e'
    have e1 : Value.slice X q.1.length c = Value.slice X' q.1.length c2 := by have := congrArg (fun x : Array Value => x[0]?) e'; simpa using this
    have e2 : Value.slice Y q.2.length d = Value.slice Y' q.2.length d2 := by have := congrArg (fun x : Array Value => x[1]?) e'; simpa using this
    injection e1 with a1 a2 a3
    injection e2 with b1 b2 b3
    subst a1 a3 b1 b3
    refine ⟨X, c, Y, d, by rw [upd_ne (by decide)]; exact e9, (r1.setBox hbx (by decide)).setBox s1 (by decide), (r2.setBox hbx (by decide)).setBox s1 (by decide), fun hl => ?_, fun hl => ?_, fun hl => ?_, fun _ => ⟨g, by rw [upd_ne (by decide)]; exact eg, hg, s2⟩⟩
    · rw [setT hs (by decide)] at hl; rw [upd_ne (by decide), upd_ne (by decide)]; exact e10 hl
    · rw [upd_ne (by decide)]; exact e
    · rw [setT hs (by decide)] at hl; rw [upd_ne (by decide)]; exact e12 hl
  · rw [setY hs] at hm; cases hm
  · rw [setT hs (by decide)] at hl
    rw [upd_ne (by decide)]; exact h.last hl

set_option maxRecDepth 100000 in
set_option maxHeartbeats 8000000 in
theorem l4Extend_any (B : Option Addr) (cb : Nat) (ps : List PL) (r : Int) (ts : List Int) (T0 : Option Addr) (tc : Nat) (F : Option Addr) (cf : Nat) (fs : FL) (lo : Nat)
    (hp : ps.length * fs.length ≤ 1073741824) (hpl : ps.length ≤ 1073741824) (hfl : szF fs ≤ 1048576) (hb1 : ∀ p ∈ ps, p.1.length + ts.length ≤ 1048576 ∧ p.2.length ≤ 1048576)
    (w : World) (hB : BC w lo (.slice B ps.length cb) ps) (hT : RI w T0 ts) (hF : RF w F fs) :
    Calls Tryz.prog 136 #[.slice B ps.length cb, .agg #[.int .i64 r, .slice T0 ts.length tc], .slice F fs.length cf] w (BOut w (extB fs (r, ts) ps)) := by
  obtain ⟨i0, hi, hz0, hz1, hz2⟩ := info_parts binding_info
  have hfn := szF_len hfl
  have hpl' : (ps.length : Int) ≤ 1073741824 := by omega
  have hfn' : (fs.length : Int) ≤ 1048576 := by omega
  have B0 := Lib.hid (step (below_alloc w (.cells #[.int .i64 r, .slice T0 ts.length tc] 67)) (below_alloc _ (.cells #[] 100)))
  have X0 := Lib.hid ((Box.new w #[.int .i64 r, .slice T0 ts.length tc] 67).step (below_alloc _ (.cells #[] 100)))
  have C0 := Lib.hid (show BC ((w.alloc (.cells #[.int .i64 r, .slice T0 ts.length tc] 67)).alloc (.cells #[] 100)) w.heap.size (.slice (some ⟨w.heap.size + 1, 0, none⟩) ([] : List PL).length 0) [] from
    ⟨[], by have := World.ownsRow_lit (base := w.heap.size) (e := 100) (size := 2) (w.alloc (.cells #[.int .i64 r, .slice T0 ts.length tc] 67)) #[] 0 (by simp) (by unfold maxLen; omega) rfl; simpa using this, fun k hk => by simp at hk⟩)
  have HB := Lib.hid hB
  have HT := Lib.hid hT
  have HF := Lib.hid hF
  have HPM := Lib.hid hb1
  have HPP := Lib.hid hp
  clear hB hT hF hb1 hp
  go_enter Tryz.func136, Tryz.ntmps136
  go_wp2
  go_loopw [7, 8, 9, 10, 11] (fun o i _ _ _ wr => ∃ (n : Nat) (A : Option Addr) (ca : Nat) (out : List PL), n ≤ ps.length ∧ i = .int .i64 n ∧ o = .slice A out.length ca ∧ Hid (out = extB fs (r, ts) (ps.take n)) ∧ Hid (BC wr w.heap.size (.slice A out.length ca) out) ∧ Hid (Box wr w.heap.size #[.int .i64 r, .slice T0 ts.length tc] 67) ∧ Hid (Below w.heap.size w wr)) (fun _ i _ _ _ _ => ps.length - (intOf i).toNat)
  case atStart => exact ⟨0, _, 0, [], by omega, rfl, rfl, Lib.hid rfl, C0, X0, B0⟩
  case round =>
    clear C0 X0 B0
    obtain ⟨n, A, ca, out, hn, rfl, rfl, hO, hC, hX, hb⟩ := hrel
    have hn0 : (0 : Int) ≤ (n : Int) := by omega
    by_cases hlt : n < ps.length
    · have hn1 : (n : Int) < (ps.length : Int) := by omega
      generalize hp0 : ps.getD n noP = p
      obtain ⟨us, bs⟩ := p
      have HP := Lib.hid hp0
      have hpm : us.length + ts.length ≤ 1048576 ∧ bs.length ≤ 1048576 := by
        have := HPM.out (us, bs) (by rw [← hp0, List.getD_eq_getElem?_getD, List.getElem?_eq_getElem hlt]; exact List.getElem_mem _)
        exact this
      obtain ⟨hpm1, hpm2⟩ := hpm
      clear hp0
      go_wp2
      go_loopw [7, 9, 10, 11] (fun o i _ _ wr => ∃ (k : Nat) (A : Option Addr) (ca : Nat) (out2 : List PL), k ≤ fs.length ∧ i = .int .i64 k ∧ o = .slice A out2.length ca ∧ Hid (out2 = extB fs (r, ts) (ps.take n) ++ extA (fs.take k) (r, ts) (us, bs)) ∧ Hid (BC wr w.heap.size (.slice A out2.length ca) out2) ∧ Hid (Box wr w.heap.size #[.int .i64 r, .slice T0 ts.length tc] 67) ∧ Hid (Below w.heap.size w wr)) (fun _ i _ _ _ => fs.length - (intOf i).toNat)
      case atStart => exact ⟨0, A, ca, out, by omega, rfl, rfl, Lib.hid (by rw [hO.out]; simp [extA]), hC, hX, hb⟩
      case round =>
        clear hO hC hX hb
        obtain ⟨k, A2, c2, out2, hk, rfl, rfl, hO2, hC2, hX2, hb2⟩ := hrel
        by_cases hlt2 : k < fs.length
        · have hk0 : (0 : Int) ≤ (k : Int) := by omega
          have hk1 : (k : Int) < (fs.length : Int) := by omega
          generalize hf0 : fs.getD k (0, []) = f
          obtain ⟨r2, vs⟩ := f
          have HFk := Lib.hid hf0
          have hvl : vs.length ≤ 1048576 := by have := szF_elem hfl hlt2; rw [hf0] at this; exact this
          have hol : out2.length + 1 ≤ 1099511627776 := by
            have h1 := extB_bound fs (r, ts) ps n
            have h2 := extA_bound fs (r, ts) (us, bs) k
            have h3 := HPP.out
            rw [hO2.out, List.length_append]
            omega
          obtain ⟨gB, X1, c1, Y1, d1, rfl, ngB, b0, b1', rw1, rw2⟩ := (HB.out.step hb2.out).at_ hlt HP.out
          obtain ⟨bF, oF, V, cv, rfl, nbF, f0, f1, _, _, hV⟩ := (HF.out.step hb2.out).at_ hlt2 hf0
          have a0 := hX2.out.cell 0
          have a1 := hX2.out.cell 1
          simp only [List.getElem?_toArray, List.getElem?_cons_zero, List.getElem?_cons_succ] at a0 a1
          have nX := hX2.out.lt
          have XM := Lib.hid fun (W : World) (hW : Below wr.heap.size wr W) => spec_MatchAtom X1 Y1 T0 V c1 d1 tc cv r r2 us bs ts vs hpm1 hpm2 hvl W (rw1.ri.step hW) (rw2.ri.step hW) ((HT.out.step hb2.out).step hW) (hV.step hW)
          obtain ⟨q, bo, XM2, HQ⟩ : ∃ (q : PL) (bo : Bool), (∀ W, Below wr.heap.size wr W → Calls Tryz.prog 158 #[.agg #[.slice X1 us.length c1, .slice Y1 bs.length d1], .agg #[.int .i64 r, .slice T0 ts.length tc], .agg #[.int .i64 r2, .slice V vs.length cv]] W fun e w' => ∃ X c Y d, e = .returned (.tuple #[.agg #[.slice X q.1.length c, .slice Y q.2.length d], .bool bo]) ∧ RW w' X q.1 ∧ RW w' Y q.2 ∧ Below W.heap.size W w') ∧ mtF (us, bs) (r, ts) (r2, vs) = if bo = true then some q else none := by
            cases hm : matB (us, bs) r ts r2 vs with
            | none =>
              refine ⟨([], []), false, fun W hW => (XM.out W hW).mono ?_, by unfold mtF; exact hm⟩
              rintro e w' ⟨h | h, hb⟩
              · obtain ⟨_, rfl⟩ := h
                exact ⟨none, 0, none, 0, rfl, RW.nil _ _, RW.nil _ _, hb⟩
              · obtain ⟨q, X, c, Y, d, h1, _⟩ := h
                rw [hm] at h1; cases h1
            | some q =>
              refine ⟨q, true, fun W hW => (XM.out W hW).mono ?_, by unfold mtF; exact hm⟩
              rintro e w' ⟨h | h, hb⟩
              · obtain ⟨h1, _⟩ := h
                rw [hm] at h1; cases h1
              · obtain ⟨q', X, c, Y, d, h1, rfl, h2, h3⟩ := h
                rw [hm] at h1
                injection h1 with h1
                subst h1
                exact ⟨X, c, Y, d, rfl, h2, h3, hb⟩
          have MQ := Lib.hid HQ
          have CC := Lib.hid XM2
          clear XM XM2 HQ hf0 hV rw1 rw2
          go_wp2
          refine wp_region_inv rfl (by kernel_rfl) (fun listed a u => ∃ T : Nat → Value, a = (⟨#[Value.slice (some ⟨gB, 0, none⟩) ps.length cb, Value.agg #[Value.int .i64 r, Value.slice T0 ts.length tc], Value.slice (some ⟨bF, oF, none⟩) fs.length cf, undef, Value.pointer (some ⟨w.heap.size, 0, none⟩), undef, Value.slice none 0 0, Value.slice A2 out2.length c2, Value.int .i64 n, Value.int .i64 k, T 13, T 15, Value.slice (some ⟨w.heap.size + 1, 0, none⟩) 0 0, Value.int .i64 n, Value.slice (some ⟨gB, 0, none⟩) ps.length cb, Value.int .i64 ps.length, Value.bool true, u17, u18, Value.int .i64 k, Value.slice (some ⟨bF, oF, none⟩) fs.length cf, Value.int .i64 fs.length, Value.bool true, u23, u24, T 10, T 0, T 1, T 2, T 3, T 4, T 5, T 6, T 7, T 8, T 9, T 11, T 12, u38, u39, u40, u41, u42, undef], []⟩ : Act) ∧ L4J q bo (l4Vals (.slice (some ⟨gB, 0, none⟩) ps.length cb) n (.slice X1 us.length c1) (.slice Y1 bs.length d1) (.agg #[.int .i64 r, .slice T0 ts.length tc]) (.slice (some ⟨bF, oF, none⟩) fs.length cf) k r2 (.slice V vs.length cv) gB bF oF) wr listed T u) ?_ ?_ ?_
          · exact ⟨fun i => match i with | 0 => u26 | 1 => u27 | 2 => u28 | 3 => u29 | 4 => u30 | 5 => u31 | 6 => u32 | 7 => u33 | 8 => u34 | 9 => u35 | 10 => u25 | 11 => u36 | 12 => u37 | 13 => u10 | 15 => u11 | _ => undef, rfl, L4J.start⟩
          · rintro listed a u i hi hz hc ⟨T, rfl, I0⟩
            have hlt16 : i < 16 := ready_lt hi
            have hs : i < listed.size := by rw [hz]; exact hlt16
            have hn := ready_new hi hz
            have key : ∀ (i : Nat) (v : Value) (u' : World), i < listed.size → listed.getD i false = false → Below u.heap.size u u' → i ≠ 9 → i ≠ 13 → i ≠ 14 → (∀ x, (l4Vals (.slice (some ⟨gB, 0, none⟩) ps.length cb) n (.slice X1 us.length c1) (.slice Y1 bs.length d1) (.agg #[.int .i64 r, .slice T0 ts.length tc]) (.slice (some ⟨bF, oF, none⟩) fs.length cf) k r2 (.slice V vs.length cv) gB bF oF) i = some x → v = x) → (i = 10 → v = T 9) → (i = 11 → ∀ X c Y d, T 9 = .tuple #[.agg #[.slice X q.1.length c, .slice Y q.2.length d], .bool bo] → v = .agg #[.slice X q.1.length c, .slice Y q.2.length d]) → (i = 12 → v = .bool bo) → (i = 15 → v = .bool bo) → ∀ a', a' = (⟨#[Value.slice (some ⟨gB, 0, none⟩) ps.length cb, Value.agg #[Value.int .i64 r, Value.slice T0 ts.length tc], Value.slice (some ⟨bF, oF, none⟩) fs.length cf, undef, Value.pointer (some ⟨w.heap.size, 0, none⟩), undef, Value.slice none 0 0, Value.slice A2 out2.length c2, Value.int .i64 n, Value.int .i64 k, upd T i v 13, upd T i v 15, Value.slice (some ⟨w.heap.size + 1, 0, none⟩) 0 0, Value.int .i64 n, Value.slice (some ⟨gB, 0, none⟩) ps.length cb, Value.int .i64 ps.length, Value.bool true, u17, u18, Value.int .i64 k, Value.slice (some ⟨bF, oF, none⟩) fs.length cf, Value.int .i64 fs.length, Value.bool true, u23, u24, upd T i v 10, upd T i v 0, upd T i v 1, upd T i v 2, upd T i v 3, upd T i v 4, upd T i v 5, upd T i v 6, upd T i v 7, upd T i v 8, upd T i v 9, upd T i v 11, upd T i v 12, u38, u39, u40, u41, u42, undef], []⟩ : Act) → (fun (listed : Array Bool) (a : Act) (u : World) => ∃ T : Nat → Value, a = (⟨#[Value.slice (some ⟨gB, 0, none⟩) ps.length cb, Value.agg #[Value.int .i64 r, Value.slice T0 ts.length tc], Value.slice (some ⟨bF, oF, none⟩) fs.length cf, undef, Value.pointer (some ⟨w.heap.size, 0, none⟩), undef, Value.slice none 0 0, Value.slice A2 out2.length c2, Value.int .i64 n, Value.int .i64 k, T 13, T 15, Value.slice (some ⟨w.heap.size + 1, 0, none⟩) 0 0, Value.int .i64 n, Value.slice (some ⟨gB, 0, none⟩) ps.length cb, Value.int .i64 ps.length, Value.bool true, u17, u18, Value.int .i64 k, Value.slice (some ⟨bF, oF, none⟩) fs.length cf, Value.int .i64 fs.length, Value.bool true, u23, u24, T 10, T 0, T 1, T 2, T 3, T 4, T 5, T 6, T 7, T 8, T 9, T 11, T 12, u38, u39, u40, u41, u42, undef], []⟩ : Act) ∧ L4J q bo (l4Vals (.slice (some ⟨gB, 0, none⟩) ps.length cb) n (.slice X1 us.length c1) (.slice Y1 bs.length d1) (.agg #[.int .i64 r, .slice T0 ts.length tc]) (.slice (some ⟨bF, oF, none⟩) fs.length cf) k r2 (.slice V vs.length cv) gB bF oF) wr listed T u) (listed.setIfInBounds i true) a' u' :=
              fun i v u' hs hn hb h9 h13 h14 hv h10 h11 h12 h15 a' ha => ⟨upd T i v, ha, I0.on hs hn hb h9 h13 h14 hv h10 h11 h12 h15⟩
            obtain rfl | rfl | rfl | rfl | rfl | rfl | rfl | rfl | rfl | rfl | rfl | rfl | rfl | rfl | rfl | rfl : i = 0 ∨ i = 1 ∨ i = 2 ∨ i = 3 ∨ i = 4 ∨ i = 5 ∨ i = 6 ∨ i = 7 ∨ i = 8 ∨ i = 9 ∨ i = 10 ∨ i = 11 ∨ i = 12 ∨ i = 13 ∨ i = 14 ∨ i = 15 := by omega
            · refine wpOp_plain rfl rfl (fun K' hK => ?_)
              go_simp
              exact hK _ _ (key 0 (.slice (some ⟨gB, 0, none⟩) ps.length cb) u hs hn (Below.refl _ _) (by decide) (by decide) (by decide) (by intro x hx; first | (cases hx; done) | (cases hx; rfl)) (fun h => absurd h (by decide)) (fun h => absurd h (by decide)) (fun h => absurd h (by decide)) (fun h => absurd h (by decide)) _ (by simp [upd]))
            · refine wpOp_plain rfl rfl (fun K' hK => ?_)
              go_simp
              exact hK _ _ (key 1 (.int .i64 n) u hs hn (Below.refl _ _) (by decide) (by decide) (by decide) (by intro x hx; first | (cases hx; done) | (cases hx; rfl)) (fun h => absurd h (by decide)) (fun h => absurd h (by decide)) (fun h => absurd h (by decide)) (fun h => absurd h (by decide)) _ (by simp [upd]))
            · refine wpOp_plain rfl rfl (fun K' hK => ?_)
              have e0 := I0.fv _ _ rfl (ready_dep hi (j := 0) (by kernel_rfl))
              have e1 := I0.fv _ _ rfl (ready_dep hi (j := 1) (by kernel_rfl))
              rw [e0, e1]
              go_simp
              exact hK _ _ (key 2 (.pointer (some ⟨gB, n * 2, none⟩)) u hs hn (Below.refl _ _) (by decide) (by decide) (by decide) (by intro x hx; first | (cases hx; done) | (cases hx; rfl)) (fun h => absurd h (by decide)) (fun h => absurd h (by decide)) (fun h => absurd h (by decide)) (fun h => absurd h (by decide)) _ (by simp [upd, e0, e1]))
            · refine wpOp_plain rfl rfl (fun K' hK => ?_)
              have e2 := I0.fv _ _ rfl (ready_dep hi (j := 2) (by kernel_rfl))
              have y0 := (I0.below.cell (p := ⟨gB, n * 2, none⟩) ngB).trans b0
              have y1 := (I0.below.cell (p := ⟨gB, n * 2 + 1, none⟩) ngB).trans b1'
              rw [e2]
              go_simp
              exact hK _ _ (key 3 (.agg #[.slice X1 us.length c1, .slice Y1 bs.length d1]) u hs hn (Below.refl _ _) (by decide) (by decide) (by decide) (by intro x hx; first | (cases hx; done) | (cases hx; rfl)) (fun h => absurd h (by decide)) (fun h => absurd h (by decide)) (fun h => absurd h (by decide)) (fun h => absurd h (by decide)) _ (by simp [upd, e2]))
            · refine wpOp_plain rfl rfl (fun K' hK => ?_)
              have y0 := (I0.below.cell (p := ⟨w.heap.size, 0, none⟩) nX).trans a0
              have y1 := (I0.below.cell (p := ⟨w.heap.size, 1, none⟩) nX).trans a1
              go_simp
              exact hK _ _ (key 4 (.agg #[.int .i64 r, .slice T0 ts.length tc]) u hs hn (Below.refl _ _) (by decide) (by decide) (by decide) (by intro x hx; first | (cases hx; done) | (cases hx; rfl)) (fun h => absurd h (by decide)) (fun h => absurd h (by decide)) (fun h => absurd h (by decide)) (fun h => absurd h (by decide)) _ (by simp [upd]))
            · refine wpOp_plain rfl rfl (fun K' hK => ?_)
              go_simp
              exact hK _ _ (key 5 (.slice (some ⟨bF, oF, none⟩) fs.length cf) u hs hn (Below.refl _ _) (by decide) (by decide) (by decide) (by intro x hx; first | (cases hx; done) | (cases hx; rfl)) (fun h => absurd h (by decide)) (fun h => absurd h (by decide)) (fun h => absurd h (by decide)) (fun h => absurd h (by decide)) _ (by simp [upd]))
            · refine wpOp_plain rfl rfl (fun K' hK => ?_)
              go_simp
              exact hK _ _ (key 6 (.int .i64 k) u hs hn (Below.refl _ _) (by decide) (by decide) (by decide) (by intro x hx; first | (cases hx; done) | (cases hx; rfl)) (fun h => absurd h (by decide)) (fun h => absurd h (by decide)) (fun h => absurd h (by decide)) (fun h => absurd h (by decide)) _ (by simp [upd]))
            · refine wpOp_plain rfl rfl (fun K' hK => ?_)
              have e5 := I0.fv _ _ rfl (ready_dep hi (j := 5) (by kernel_rfl))
              have e6 := I0.fv _ _ rfl (ready_dep hi (j := 6) (by kernel_rfl))
              rw [e5, e6]
              go_simp
              exact hK _ _ (key 7 (.pointer (some ⟨bF, oF + k * 2, none⟩)) u hs hn (Below.refl _ _) (by decide) (by decide) (by decide) (by intro x hx; first | (cases hx; done) | (cases hx; rfl)) (fun h => absurd h (by decide)) (fun h => absurd h (by decide)) (fun h => absurd h (by decide)) (fun h => absurd h (by decide)) _ (by simp [upd, e5, e6]))
            · refine wpOp_plain rfl rfl (fun K' hK => ?_)
              have e7 := I0.fv _ _ rfl (ready_dep hi (j := 7) (by kernel_rfl))
              have y0 := (I0.below.cell (p := ⟨bF, oF + k * 2, none⟩) nbF).trans f0
              have y1 := (I0.below.cell (p := ⟨bF, oF + k * 2 + 1, none⟩) nbF).trans f1
              rw [e7]
              go_simp
              exact hK _ _ (key 8 (.agg #[.int .i64 r2, .slice V vs.length cv]) u hs hn (Below.refl _ _) (by decide) (by decide) (by decide) (by intro x hx; first | (cases hx; done) | (cases hx; rfl)) (fun h => absurd h (by decide)) (fun h => absurd h (by decide)) (fun h => absurd h (by decide)) (fun h => absurd h (by decide)) _ (by simp [upd, e7]))
            · refine wpOp_plain rfl rfl (fun K' hK => ?_)
              have e3 := I0.fv _ _ rfl (ready_dep hi (j := 3) (by kernel_rfl))
              have e4 := I0.fv _ _ rfl (ready_dep hi (j := 4) (by kernel_rfl))
              have e8 := I0.fv _ _ rfl (ready_dep hi (j := 8) (by kernel_rfl))
              rw [e3, e4, e8]
              go_simp
              go_at_call 158
              refine (CC.out u I0.below).mono ?_
              rintro e u2 ⟨X, c, Y, d, rfl, r1, r2, hb⟩
              go_simp
              exact hK _ _ ⟨upd T 9 (.tuple #[.agg #[.slice X q.1.length c, .slice Y q.2.length d], .bool bo]), by simp [upd, e3, e4, e8], I0.called hs hb (not_yet hc hn 4 10 (by kernel_rfl)) (not_yet hc hn 4 11 (by kernel_rfl)) (not_yet hc hn 4 12 (by kernel_rfl)) (not_yet hc hn 4 14 (by kernel_rfl)) rfl r1 r2⟩
            · refine wpOp_plain rfl rfl (fun K' hK => ?_)
              have q9 : listed.getD 9 false = true := (ready_dep hi (j := 9) (by kernel_rfl))
              obtain ⟨X, c, Y, d, e9, r1, r2, _⟩ := I0.call q9
              go_simp
              exact hK _ _ (key 10 (T 9) u hs hn (Below.refl _ _) (by decide) (by decide) (by decide) (by intro x hx; first | (cases hx; done) | (cases hx; rfl)) (fun _ => rfl) (fun h => absurd h (by decide)) (fun h => absurd h (by decide)) (fun h => absurd h (by decide)) _ (by simp [upd, e9]))
            · refine wpOp_plain rfl rfl (fun K' hK => ?_)
              have q10 : listed.getD 10 false = true := (ready_dep hi (j := 10) (by kernel_rfl))
              have q9 : listed.getD 9 false = true := closed_reach hc 4 10 9 (by kernel_rfl) q10
              obtain ⟨X, c, Y, d, e9, r1, r2, e10, _⟩ := I0.call q9
              have e10 := e10 q10
              rw [e10, e9]
              go_simp
              exact hK _ _ (key 11 (.agg #[.slice X q.1.length c, .slice Y q.2.length d]) u hs hn (Below.refl _ _) (by decide) (by decide) (by decide) (by intro x hx; first | (cases hx; done) | (cases hx; rfl)) (fun h => absurd h (by decide)) (fun _ X' c' Y' d' h => by rw [e9] at h; injection h with h; have := congrArg (fun x : Array Value => x[0]?) h; simpa using this) (fun h => absurd h (by decide)) (fun h => absurd h (by decide)) _ (by simp [upd, e10, e9]))
            · refine wpOp_plain rfl rfl (fun K' hK => ?_)
              have q10 : listed.getD 10 false = true := (ready_dep hi (j := 10) (by kernel_rfl))
              have q9 : listed.getD 9 false = true := closed_reach hc 4 10 9 (by kernel_rfl) q10
              obtain ⟨X, c, Y, d, e9, r1, r2, e10, _⟩ := I0.call q9
              have e10 := e10 q10
              rw [e10, e9]
              go_simp
              exact hK _ _ (key 12 (.bool bo) u hs hn (Below.refl _ _) (by decide) (by decide) (by decide) (by intro x hx; first | (cases hx; done) | (cases hx; rfl)) (fun h => absurd h (by decide)) (fun h => absurd h (by decide)) (fun _ => rfl) (fun h => absurd h (by decide)) _ (by simp [upd, e10, e9]))
            · refine wpOp_plain rfl rfl (fun K' hK => ?_)
              go_simp
              exact hK _ _ ⟨upd T 13 (.pointer (some ⟨u.heap.size, 0, none⟩)), by simp [upd], I0.laid hs (not_yet hc hn 4 14 (by kernel_rfl)) rfl _ _⟩
            · refine wpOp_plain rfl rfl (fun K' hK => ?_)
              have q11 : listed.getD 11 false = true := (ready_dep hi (j := 11) (by kernel_rfl))
              have q13 : listed.getD 13 false = true := (ready_dep hi (j := 13) (by kernel_rfl))
              have q9 : listed.getD 9 false = true := closed_reach hc 4 11 9 (by kernel_rfl) q11
              obtain ⟨X, c, Y, d, e9, r1, r2, e10, e11, _⟩ := I0.call q9
              have e11 := e11 q11
              obtain ⟨g, x1, x2, eg, hg, hbx⟩ := I0.new q13 hn
              have y0 := hbx.cell 0
              have y1 := hbx.cell 1
              have y2 := hbx.frozen 0
              have y3 := hbx.frozen 1
              have y4 := hbx.lt
              simp only [List.getElem?_toArray, List.getElem?_cons_zero, List.getElem?_cons_succ] at y0 y1
              rw [eg, e11]
              go_simp
              exact hK _ _ ⟨upd T 14 undef, by simp [upd, eg, e11, e9], I0.stored hs hn q9 q11 rfl undef eg hg hbx e11⟩
            · refine wpOp_plain rfl rfl (fun K' hK => ?_)
              have q12 : listed.getD 12 false = true := (ready_dep hi (j := 12) (by kernel_rfl))
              have q9 : listed.getD 9 false = true := closed_reach hc 4 12 9 (by kernel_rfl) q12
              obtain ⟨X, c, Y, d, e9, r1, r2, e10, e11, e12, _⟩ := I0.call q9
              have e12 := e12 q12
              rw [e12]
              go_simp
              exact hK _ _ (key 15 (.bool bo) u hs hn (Below.refl _ _) (by decide) (by decide) (by decide) (by intro x hx; first | (cases hx; done) | (cases hx; rfl)) (fun h => absurd h (by decide)) (fun h => absurd h (by decide)) (fun h => absurd h (by decide)) (fun _ => rfl) _ (by simp [upd, e12, e9]))
          · rintro listed a u hz hall ⟨T, rfl, I0⟩
            obtain ⟨X, c, Y, d, e9, r1, r2, _, _, _, e14⟩ := I0.call (hall 9 (by decide))
            obtain ⟨g, eg, hg, hbx⟩ := e14 (hall 14 (by decide))
            have e15 := I0.last (hall 15 (by decide))
            have bw := I0.below
            rw [eg, e15]
            have x0 := hbx.cell 0
            have x1 := hbx.cell 1
            simp only [List.getElem?_toArray, List.getElem?_cons_zero, List.getElem?_cons_succ] at x0 x1
            have BB := Lib.hid (step hb2.out bw)
            have XX := Lib.hid (hX2.out.step bw)
            have CX := Lib.hid (hC2.out.step bw)
            have R1 := Lib.hid r1
            have R2 := Lib.hid r2
            clear I0 e14 hall e9 r1 r2
            cases bo
            · have OO := Lib.hid (show out2 = extB fs (r, ts) (ps.take n) ++ extA (fs.take (k + 1)) (r, ts) (us, bs) by rw [extA_no fs (r, ts) (us, bs) hlt2 HFk.out (by rw [MQ.out]; rfl)]; exact hO2.out)
              go_wp2
              go_roundw
              case rel => exact ⟨k + 1, A2, c2, out2, by omega, by go_num, rfl, OO, CX, XX, BB⟩
              case measure => simp [intOf]; omega
            · have OO := Lib.hid (show out2 ++ [q] = extB fs (r, ts) (ps.take n) ++ extA (fs.take (k + 1)) (r, ts) (us, bs) by rw [extA_yes fs (r, ts) (us, bs) hlt2 HFk.out (by rw [MQ.out]; rfl), ← List.append_assoc, ← hO2.out])
              have hsz : w.heap.size ≤ u.heap.size := BB.out.size
              go_wp2_with (at_builtin; refine wpList_pushB rfl _ _ 114 rfl i0 Tryz.underlying114 hi hz0 hz1 hz2 rfl rfl CX.out ⟨X, c, Y, d, rfl, rfl, R1.out, R2.out⟩ hsz hol ?_; intro v' w5 hC5 hg5
                           obtain ⟨A5, c5, rfl⟩ := hC5.form
                           have C5 := Lib.hid hC5
                           have G5 := Lib.hid hg5
                           clear hC5 hg5)
              go_roundw
              case rel =>
                refine ⟨k + 1, A5, c5, out2 ++ [q], by omega, by go_num, by rw [List.length_append]; rfl, OO, C5, Lib.hid ?_, Lib.hid ?_⟩
                · obtain ⟨cs, hown, _⟩ := CX.out
                  refine (G5.out.block _ XX.out.lt fun e => ?_).trans XX.out
                  rcases hown.2 with ⟨hv, _⟩ | ⟨g3, cap, cur, hv, hbk, hk3, _⟩
                  · have e3 := e.trans (congrArg Value.ownBlock hv)
                    simp [Value.ownBlock] at e3
                  · have e2 : g3 = w.heap.size := own_some ((e.trans (congrArg Value.ownBlock hv)).symm)
                    have h1 := XX.out
                    unfold Box at h1
                    rw [e2, h1] at hk3
                    injection hk3 with hk3
                    injection hk3 with _ h2
                    exact absurd h2 (by decide)
                · obtain ⟨cs, hown, _⟩ := CX.out
                  exact BB.out.grown G5.out hsz fun j hj => (World.ownsRow.lt hown j hj).1
              case measure => simp [intOf]; omega
        · obtain rfl : k = fs.length := by omega
          have OO := Lib.hid (show out2 = extB fs (r, ts) (ps.take (n + 1)) by rw [extB_take fs (r, ts) ps hlt HP.out, hO2.out, List.take_length])
          go_wp2
          go_roundw
          case rel => exact ⟨n + 1, A2, c2, out2, by omega, by go_num, rfl, OO, hC2, hX2, hb2⟩
          case measure => simp [intOf]; omega
    · obtain rfl : n = ps.length := by omega
      have OO := Lib.hid (show out = extB fs (r, ts) ps by rw [hO.out, List.take_length])
      go_wp2
      go_ret
      rw [← OO.out]
      exact ⟨A, ca, rfl, hC.out, hb.out⟩
end Go.Proofs.YtimlpdcambmcjaaGreat

namespace Go.Proofs.YtimlpdcambmcjaaGreat
open Go.ChangeShapes Go.WideShapes Go.ChangeAt Go.RowKit Go.Sort
set_option linter.unusedVariables false
set_option linter.unusedSimpArgs false

/-- How long a binding is. -/
theorem mtF_len {p q : PL} {a f : Int × List Int} (h : mtF p a f = some q) : q.1.length = q.2.length ∧ q.1.length ≤ p.1.length + a.2.length := by
  unfold mtF matB at h
  split at h
  · rename_i hc
    have := mgo_len _ _ _ _ h hc.2.2
    exact ⟨this.1, this.2.2⟩
  · cases h
theorem bndsF_elem (fs : FL) (m : Nat) : ∀ (ats : FL), (∀ a ∈ ats, a.2.length ≤ m) → ∀ ps : List PL, ∀ n, (∀ p ∈ ps, p.1.length = p.2.length ∧ p.1.length ≤ n) → ∀ p ∈ bndsF fs ats ps, p.1.length = p.2.length ∧ p.1.length ≤ n + m * ats.length
  | [], _, ps, n, h, p, hp => by simpa using h p hp
  | a :: ats, ha, ps, n, h, p, hp => by
    have ih := bndsF_elem fs m ats (fun b hb => ha b (List.mem_cons_of_mem _ hb)) (extB fs a ps) (n + m) (fun q hq => by
      unfold extB extA at hq
      rw [List.mem_flatMap] at hq
      obtain ⟨r, hr, hq⟩ := hq
      rw [List.mem_filterMap] at hq
      obtain ⟨f, _, hf⟩ := hq
      have h1 := mtF_len hf
      have h2 := (h r hr).2
      have h3 := ha a (List.mem_cons_self)
      exact ⟨h1.1, by omega⟩) p hp
    rw [List.length_cons, Nat.mul_add, Nat.mul_one]
    exact ⟨ih.1, by omega⟩
theorem bnds_few (fs ats : FL) (hf : fs.length ≤ 24) (ha : ats.length ≤ 4) : (bnds fs ats).length ≤ 331776 := by
  have h := bndsF_len fs 24 hf ats [noP]
  have h2 : (24 : Nat) ^ ats.length ≤ 24 ^ 4 := Nat.pow_le_pow_right (by omega) ha
  unfold bnds
  have e : ([noP] : List PL).length = 1 := rfl
  rw [e, Nat.one_mul] at h
  have : (24 : Nat) ^ 4 = 331776 := by decide
  exact Nat.le_trans h (by omega)

set_option maxRecDepth 100000 in
set_option maxHeartbeats 2000000 in
theorem spec_BindingsOf (H Q : Option Addr) (ch c : Nat) (hs : List Int) (ats : FL) (F : Option Addr) (cf : Nat) (fs : FL)
    (ha : ats.length ≤ 4) (hat : ∀ a ∈ ats, a.2.length ≤ 1024) (hf : fs.length ≤ 24) (hfl : szF fs ≤ 1048576)
    (w : World) (hQ : RF w Q ats) (hF : RF w F fs) :
    Calls Tryz.prog 98 #[.agg #[.slice H hs.length ch, .slice Q ats.length c], .slice F fs.length cf] w (BOut w (bnds fs ats)) := by
  have ha' : (ats.length : Int) ≤ 4 := by omega
  have B0 := Lib.hid (step (below_alloc w (.cells #[.slice H hs.length ch, .slice Q ats.length c] 29)) (below_alloc _ (.cells #[.slice none 0 0, .slice none 0 0] 100)))
  have X0 := Lib.hid ((Box.new w #[.slice H hs.length ch, .slice Q ats.length c] 29).step (below_alloc _ (.cells #[.slice none 0 0, .slice none 0 0] 100)))
  have C0 := Lib.hid (show BC ((w.alloc (.cells #[.slice H hs.length ch, .slice Q ats.length c] 29)).alloc (.cells #[.slice none 0 0, .slice none 0 0] 100)) w.heap.size (.slice (some ⟨w.heap.size + 1, 0, none⟩) ([noP] : List PL).length 1) [noP] from
    ⟨[.slice none 0 0, .slice none 0 0], by have := World.ownsRow_lit (base := w.heap.size) (e := 100) (size := 2) (w.alloc (.cells #[.slice H hs.length ch, .slice Q ats.length c] 29)) #[.slice none 0 0, .slice none 0 0] 1 (by simp) (by unfold maxLen; omega) rfl; simpa using this, fun k hk => by
      have : k = 0 := by simpa using hk
      subst this
      exact ⟨_, _, rfl, rfl, none, 0, none, 0, rfl, rfl, RW.nil _ _, RW.nil _ _⟩⟩)
  have HQ := Lib.hid hQ
  have HF := Lib.hid hF
  have HA := Lib.hid hat
  clear hQ hF hat
  go_enter Tryz.func98, Tryz.ntmps98
  go_wp2
  go_loopw [5, 6] (fun o i wr => ∃ (k : Nat) (A : Option Addr) (ca : Nat) (out : List PL), k ≤ ats.length ∧ i = .int .i64 k ∧ o = .slice A out.length ca ∧ Hid (out = bndsF fs (ats.take k) [noP]) ∧ Hid (BC wr w.heap.size (.slice A out.length ca) out) ∧ Hid (Box wr w.heap.size #[.slice H hs.length ch, .slice Q ats.length c] 29) ∧ Hid (Below w.heap.size w wr)) (fun _ i _ => ats.length - (intOf i).toNat)
  case atStart => exact ⟨0, _, 1, [noP], by omega, rfl, rfl, Lib.hid rfl, C0, X0, B0⟩
  case round =>
    clear C0 X0 B0
    obtain ⟨k, A, ca, out, hk, rfl, rfl, hO, hC, hX, hb⟩ := hrel
    have x1 := hX.out.cell 1
    simp only [List.getElem?_toArray, List.getElem?_cons_zero, List.getElem?_cons_succ] at x1
    have hk0 : (0 : Int) ≤ (k : Int) := by omega
    by_cases hlt : k < ats.length
    · have hk1 : (k : Int) < (ats.length : Int) := by omega
      generalize hf0 : ats.getD k (0, []) = a
      obtain ⟨r, ts⟩ := a
      have TK := Lib.hid (bndsF_take fs ats [noP] hlt hf0)
      have hl1 : (ats.take k).length ≤ 3 := by rw [List.length_take]; omega
      have hel := bndsF_elem fs 1024 (ats.take k) (fun a h => HA.out a (List.mem_of_mem_take h)) [noP] 0 (fun p hp => by
        have : p = noP := by simpa using hp
        subst this
        exact ⟨rfl, Nat.le_refl _⟩)
      have hts : ts.length ≤ 1024 := by
        have := HA.out (r, ts) (by rw [← hf0, List.getD_eq_getElem?_getD, List.getElem?_eq_getElem hlt]; exact List.getElem_mem _)
        exact this
      have hlen := bnds_few fs (ats.take k) hf (by omega)
      unfold bnds at hlen
      rw [← hO.out] at hel hlen
      have hmul : out.length * fs.length ≤ 331776 * 24 := Nat.mul_le_mul hlen hf
      obtain ⟨b, off, T0, tc, rfl, nb, e0, e1, _, _, hT⟩ := (HQ.out.step hb.out).at_ hlt hf0
      have XE := Lib.hid (l4Extend_any A ca out r ts T0 tc F cf fs w.heap.size (by omega) (by omega) hfl (fun p hp => by have := hel p hp; omega) wr hC.out hT (HF.out.step hb.out))
      clear hel hf0 hT
      go_wp2_with fail
      refine XE.out.mono ?_
      rintro e u ⟨A5, c5, rfl, hC5, d5⟩
      have C5 := Lib.hid (hC5.lo hb.out.size)
      have D5 := Lib.hid (step hb.out d5)
      have X5 := Lib.hid (hX.out.step d5)
      have O5 := Lib.hid (show extB fs (r, ts) out = bndsF fs (ats.take (k + 1)) [noP] by rw [TK.out, hO.out])
      clear hC5 d5
      go_wp2
      go_roundw
      case rel => exact ⟨k + 1, A5, c5, _, by omega, by go_num, rfl, O5, C5, X5, D5⟩
      case measure => simp [intOf]; omega
    · obtain rfl : k = ats.length := by omega
      have OO := Lib.hid (show out = bnds fs ats by rw [hO.out, List.take_length]; rfl)
      go_wp2
      go_ret
      rw [← OO.out]
      exact ⟨A, ca, rfl, hC.out, hb.out⟩
end Go.Proofs.YtimlpdcambmcjaaGreat

namespace Go.Proofs.YtimlpdcambmcjaaGreat
open Go.ChangeShapes Go.WideShapes Go.ChangeAt Go.RowKit Go.Sort
set_option linter.unusedVariables false
set_option linter.unusedSimpArgs false

set_option maxRecDepth 100000 in
set_option maxHeartbeats 1000000 in
theorem matchingsOf_any (H Q F X Y : Option Addr) (ch c cf cx cy nh nq nf nx ny : Nat) (w : World) :
    Calls Tryz.prog 109 #[.agg #[.slice H nh ch, .slice Q nq c], .slice F nf cf, .agg #[.slice X nx cx, .slice Y ny cy]] w fun e w' =>
      e = .returned (.func (.func 143) #[] #[.pointer (some ⟨w.heap.size + 1 + 1, 0, none⟩), .pointer (some ⟨w.heap.size, 0, none⟩), .pointer (some ⟨w.heap.size + 1, 0, none⟩)]) ∧
      Below w.heap.size w w' ∧ w'.heap.size = w.heap.size + 3 ∧ Box w' w.heap.size #[.slice H nh ch, .slice Q nq c] 29 ∧ Box w' (w.heap.size + 1) #[.slice F nf cf] 46 ∧ Box w' (w.heap.size + 1 + 1) #[.slice X nx cx, .slice Y ny cy] 100 := by
  have b1 := below_alloc w (.cells #[.slice H nh ch, .slice Q nq c] 29)
  have b2 := below_alloc (w.alloc (.cells #[.slice H nh ch, .slice Q nq c] 29)) (.cells #[.slice F nf cf] 46)
  have b3 := below_alloc ((w.alloc (.cells #[.slice H nh ch, .slice Q nq c] 29)).alloc (.cells #[.slice F nf cf] 46)) (.cells #[.slice X nx cx, .slice Y ny cy] 100)
  have B := Lib.hid (step (step b1 b2) b3)
  have X1 := Lib.hid (((Box.new w #[.slice H nh ch, .slice Q nq c] 29).step b2).step b3)
  have x2 := (Box.new (w.alloc (.cells #[.slice H nh ch, .slice Q nq c] 29)) #[.slice F nf cf] 46).step b3
  have x3 := Box.new ((w.alloc (.cells #[.slice H nh ch, .slice Q nq c] 29)).alloc (.cells #[.slice F nf cf] 46)) #[.slice X nx cx, .slice Y ny cy] 100
  rw [al_size] at x2
  rw [al_size, al_size] at x3
  have X2 := Lib.hid x2
  have X3 := Lib.hid x3
  clear b1 b2 b3 x2 x3
  go_enter Tryz.func109, Tryz.ntmps109
  go_wp2
  go_ret
  exact ⟨rfl, B.out, by rw [al_size, al_size, al_size], X1.out, X2.out, X3.out⟩
end Go.Proofs.YtimlpdcambmcjaaGreat
