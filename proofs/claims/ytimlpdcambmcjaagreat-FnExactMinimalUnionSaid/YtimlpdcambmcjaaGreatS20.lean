/- What l4Bind leaves. Conditions: none beyond each theorem's own. Queries in memory: their size, their copy, their comparison by the law. Conditions: none beyond each theorem's own. Marks on queries. Conditions: none beyond each theorem's own. What the laws of functions on queries carry from call to call. Conditions: none beyond each theorem's own. -/
import Derived.Test.YtimlpdcambmcjaaGreatS19
import Derived.Deep.RegionLaw
import Derived.Deep.DeepCutAuto
import Derived.Test.YtimlpdcambmcjaaGreatSAtom
import Derived.Test.YtimlpdcambmcjaaGreatS8
import Derived.Test.YtimlpdcambmcjaaGreatSVarsI

namespace Go.Proofs.YtimlpdcambmcjaaGreat
open Go.ChangeShapes Go.WideShapes Go.ChangeAt Go.RowKit Go.Sort
open Go.Maps (Keyed int_keyed keyOf_int_mk)
set_option linter.unusedVariables false
set_option linter.unusedSimpArgs false

def bdTab (ts vs : List Int) (p y : Int) : Nat → Option (List Int)
  | 0 => some [] | 3 => some ts | 5 => some [p] | 6 => some (ts ++ [p]) | 7 => some [] | 10 => some vs | 12 => some [y] | 13 => some (vs ++ [y]) | _ => none
def bdCons : Nat → Nat
  | 0 => 3 | 3 => 6 | 5 => 6 | 6 => 15 | 7 => 10 | 10 => 13 | 12 => 13 | 13 => 15 | _ => 16
def bdVals (g : Nat) (x z : Value) (p y : Int) : Nat → Option Value
  | 1 => some (.pointer (some ⟨g, 0, none⟩)) | 2 => some x | 4 => some (.int .i64 p) | 8 => some (.pointer (some ⟨g, 1, none⟩)) | 9 => some z | 11 => some (.int .i64 y) | _ => none

set_option maxRecDepth 100000 in
set_option maxHeartbeats 4000000 in
theorem l4Bind_any (p y : Int) (A B : Option Addr) (c d : Nat) (ts vs : List Int) (hts : ts.length ≤ 1048576) (hvs : vs.length ≤ 1048576) (w : World) (hA : RI w A ts) (hB : RI w B vs) :
    Calls Tryz.prog 149 #[.agg #[.slice A ts.length c, .slice B vs.length d], .int .i64 p, .int .i64 y] w fun e w' => ∃ X c' Y d', e = .returned (.agg #[.slice X (ts.length + 1) c', .slice Y (vs.length + 1) d']) ∧ RW w' X (ts ++ [p]) ∧ RW w' Y (vs ++ [y]) ∧ Below w.heap.size w w' := by
  have B0 := Lib.hid (step (below_alloc w (.cells #[.slice A ts.length c, .slice B vs.length d] 100)) (below_alloc _ (.cells #[.slice none 0 0, .slice none 0 0] 100)))
  have X0 := Lib.hid ((Box.new w #[.slice A ts.length c, .slice B vs.length d] 100).step (below_alloc _ (.cells #[.slice none 0 0, .slice none 0 0] 100)))
  have Y0 := Lib.hid (Box.new (w.alloc (.cells #[.slice A ts.length c, .slice B vs.length d] 100)) #[.slice none 0 0, .slice none 0 0] 100)
  rw [al_size] at Y0
  have HA := Lib.hid (hA.step B0.out)
  have HB := Lib.hid (hB.step B0.out)
  obtain ⟨w0, hw0⟩ : ∃ W, W = (w.alloc (.cells #[.slice A ts.length c, .slice B vs.length d] 100)).alloc (.cells #[.slice none 0 0, .slice none 0 0] 100) := ⟨_, rfl⟩
  have E0 := Lib.hid hw0
  rw [← hw0] at B0 X0 Y0 HA HB
  have hsz : w.heap.size + 2 = w0.heap.size := by rw [hw0, al_size, al_size]
  have x0 := X0.out.cell 0
  have x1 := X0.out.cell 1
  simp only [List.getElem?_toArray, List.getElem?_cons_zero, List.getElem?_cons_succ] at x0 x1
  clear hA hB hw0
  go_enter Tryz.func149, Tryz.ntmps149
  go_upto_region 1 with fail
  rw [← E0.out]
  refine wp_region_inv rfl (by kernel_rfl) (fun listed a u => ∃ T : Nat → Value, a = (⟨#[Value.agg #[Value.slice A ts.length c, Value.slice B vs.length d], Value.int .i64 p, Value.int .i64 y, Value.pointer (some ⟨w.heap.size, 0, none⟩), undef, undef, Value.pointer (some ⟨w.heap.size + 1, 0, none⟩), T 0, T 1, T 2, T 3, T 4, T 5, T 6, T 7, T 8, T 9, T 10, T 11, T 12, T 13, T 14], []⟩ : Act) ∧
    (listed.getD 15 false = false → RInv (bdTab ts vs p y) bdCons (bdVals w.heap.size (.slice A ts.length c) (.slice B vs.length d) p y) w0 listed T u ∧ (listed.getD 14 false = true → T 14 = .agg #[T 6, T 13])) ∧
    (listed.getD 15 false = true → NewB u w0.heap.size (w.heap.size + 1) (ts ++ [p]) (vs ++ [y]) ∧ Below w.heap.size w u)) ?_ ?_ ?_
  · refine ⟨fun _ => undef, rfl, fun _ => ⟨RInv.start _, fun h => ?_⟩, fun h => ?_⟩ <;> exact absurd h (by decide)
  · rintro listed a u i hi hz hc ⟨T, rfl, h1, h2⟩
    have hlt : i < 16 := ready_lt hi
    have hs : i < listed.size := by rw [hz]; exact ready_lt hi
    have hn := ready_new hi hz
    have n9 : listed.getD 15 false = false := by
      obtain rfl | rfl | rfl | rfl | rfl | rfl | rfl | rfl | rfl | rfl | rfl | rfl | rfl | rfl | rfl | rfl : i = 0 ∨ i = 1 ∨ i = 2 ∨ i = 3 ∨ i = 4 ∨ i = 5 ∨ i = 6 ∨ i = 7 ∨ i = 8 ∨ i = 9 ∨ i = 10 ∨ i = 11 ∨ i = 12 ∨ i = 13 ∨ i = 14 ∨ i = 15 := by omega
      all_goals first | exact hn | exact not_yet hc hn 0 15 (by kernel_rfl)
    obtain ⟨I0, h8⟩ := h1 n9
    clear h1 h2
    by_cases hlt8 : i < 14
    · have n8 : listed.getD 14 false = false := by
        obtain rfl | rfl | rfl | rfl | rfl | rfl | rfl | rfl | rfl | rfl | rfl | rfl | rfl | rfl : i = 0 ∨ i = 1 ∨ i = 2 ∨ i = 3 ∨ i = 4 ∨ i = 5 ∨ i = 6 ∨ i = 7 ∨ i = 8 ∨ i = 9 ∨ i = 10 ∨ i = 11 ∨ i = 12 ∨ i = 13 := by omega
        all_goals exact not_yet hc hn 4 14 (by kernel_rfl)
      have key : ∀ (v : Value) (u' : World), RInv (bdTab ts vs p y) bdCons (bdVals w.heap.size (.slice A ts.length c) (.slice B vs.length d) p y) w0 (listed.setIfInBounds i true) (upd T i v) u' → ∀ a', a' = (⟨#[Value.agg #[Value.slice A ts.length c, Value.slice B vs.length d], Value.int .i64 p, Value.int .i64 y, Value.pointer (some ⟨w.heap.size, 0, none⟩), undef, undef, Value.pointer (some ⟨w.heap.size + 1, 0, none⟩), upd T i v 0, upd T i v 1, upd T i v 2, upd T i v 3, upd T i v 4, upd T i v 5, upd T i v 6, upd T i v 7, upd T i v 8, upd T i v 9, upd T i v 10, upd T i v 11, upd T i v 12, upd T i v 13, upd T i v 14], []⟩ : Act) → _ :=
        fun v u' hr a' ha => (⟨upd T i v, ha, fun _ => ⟨hr, fun h => absurd h (by rw [getD_set hs, if_neg (by omega), n8]; decide)⟩, fun h => absurd h (by rw [getD_set hs, if_neg (by omega), n9]; decide)⟩ : (fun listed a u => ∃ T : Nat → Value, a = (⟨#[Value.agg #[Value.slice A ts.length c, Value.slice B vs.length d], Value.int .i64 p, Value.int .i64 y, Value.pointer (some ⟨w.heap.size, 0, none⟩), undef, undef, Value.pointer (some ⟨w.heap.size + 1, 0, none⟩), T 0, T 1, T 2, T 3, T 4, T 5, T 6, T 7, T 8, T 9, T 10, T 11, T 12, T 13, T 14], []⟩ : Act) ∧
    (listed.getD 15 false = false → RInv (bdTab ts vs p y) bdCons (bdVals w.heap.size (.slice A ts.length c) (.slice B vs.length d) p y) w0 listed T u ∧ (listed.getD 14 false = true → T 14 = .agg #[T 6, T 13])) ∧
    (listed.getD 15 false = true → NewB u w0.heap.size (w.heap.size + 1) (ts ++ [p]) (vs ++ [y]) ∧ Below w.heap.size w u)) (listed.setIfInBounds i true) a' u')
      obtain rfl | rfl | rfl | rfl | rfl | rfl | rfl | rfl | rfl | rfl | rfl | rfl | rfl | rfl : i = 0 ∨ i = 1 ∨ i = 2 ∨ i = 3 ∨ i = 4 ∨ i = 5 ∨ i = 6 ∨ i = 7 ∨ i = 8 ∨ i = 9 ∨ i = 10 ∨ i = 11 ∨ i = 12 ∨ i = 13 := by omega
      · refine wpOp_plain rfl rfl (fun K' hK => ?_)
        go_simp
        exact hK _ _ (key _ _ (I0.fresh hs (below_alloc _ _) rfl rfl (World.ownsRow_lit _ #[] 0 (Nat.le_refl _) (by unfold maxLen; omega) rfl)) _ rfl)
      · refine wpOp_plain rfl rfl (fun K' hK => ?_)
        go_simp
        exact hK _ _ (key _ _ (I0.quiet hs (Below.refl _ _) rfl (by rintro x ⟨⟩; rfl)) _ rfl)
      · refine wpOp_plain rfl rfl (fun K' hK => ?_)
        have e1 := I0.val (ready_dep hi (j := 1) (by kernel_rfl)) rfl
        have hx := (I0.below.cell (p := ⟨w.heap.size, 0, none⟩) (by simp; omega)).trans x0
        go_simp
        exact hK _ _ (key (.slice A ts.length c) _ (I0.quiet hs (Below.refl _ _) rfl (by rintro x ⟨⟩; rfl)) _ (by simp [upd, e1]))
      · refine wpOp_plain rfl rfl (fun K' hK => ?_)
        have e2 := I0.val (ready_dep hi (j := 2) (by kernel_rfl)) rfl
        have hl := live_here (tab := bdTab ts vs p y) (cons := bdCons) (ready_dep hi (j := 0) (by kernel_rfl)) hn rfl
        refine opwp_append_row (.tmp 7) (.tmp 9) rfl w0.heap.size (T 0) [] rfl (I0.own.row 0 [] hl) A c ts e2 (HA.out.step I0.below) (by simp; omega) I0.below.size ?_
        intro v' w' r1 r2 r3
        exact hK _ _ (key v' w' (I0.grow hs hl rfl rfl rfl r1 r2 r3) _ rfl)
      · refine wpOp_plain rfl rfl (fun K' hK => ?_)
        go_simp
        exact hK _ _ (key _ _ (I0.quiet hs (Below.refl _ _) rfl (by rintro x ⟨⟩; rfl)) _ rfl)
      · refine wpOp_plain rfl rfl (fun K' hK => ?_)
        have e1 := I0.val (ready_dep hi (j := 4) (by kernel_rfl)) rfl
        rw [e1]
        go_simp
        exact hK _ _ (key _ _ (I0.fresh hs (below_alloc _ _) rfl rfl (World.ownsRow_lit _ #[.int .i64 p] 1 (Nat.le_refl _) (by unfold maxLen; omega) rfl)) _ (by simp [upd, e1]))
      · refine wpOp_plain rfl rfl (fun K' hK => ?_)
        have hl := live_here (tab := bdTab ts vs p y) (cons := bdCons) (ready_dep hi (j := 3) (by kernel_rfl)) hn rfl
        have hl2 := live_here (tab := bdTab ts vs p y) (cons := bdCons) (ready_dep hi (j := 5) (by kernel_rfl)) hn rfl
        have r5 := I0.own.row 5 [p] hl2
        obtain ⟨X5, c5, e5⟩ := r5.form
        rw [e5] at r5
        refine opwp_append_row (.tmp 10) (.tmp 12) rfl w0.heap.size (T 3) ts rfl (I0.own.row 3 ts hl) X5 c5 [p] e5 (ri_of_row r5) (by simp; omega) I0.below.size ?_
        intro v' w' r1 r2 r3
        exact hK _ _ (key v' w' (I0.grow hs hl rfl rfl rfl r1 r2 r3) _ rfl)
      · refine wpOp_plain rfl rfl (fun K' hK => ?_)
        go_simp
        exact hK _ _ (key _ _ (I0.fresh hs (below_alloc _ _) rfl rfl (World.ownsRow_lit _ #[] 0 (Nat.le_refl _) (by unfold maxLen; omega) rfl)) _ rfl)
      · refine wpOp_plain rfl rfl (fun K' hK => ?_)
        go_simp
        exact hK _ _ (key _ _ (I0.quiet hs (Below.refl _ _) rfl (by rintro x ⟨⟩; rfl)) _ rfl)
      · refine wpOp_plain rfl rfl (fun K' hK => ?_)
        have e1 := I0.val (ready_dep hi (j := 8) (by kernel_rfl)) rfl
        have hx := (I0.below.cell (p := ⟨w.heap.size, 1, none⟩) (by simp; omega)).trans x1
        go_simp
        exact hK _ _ (key (.slice B vs.length d) _ (I0.quiet hs (Below.refl _ _) rfl (by rintro x ⟨⟩; rfl)) _ (by simp [upd, e1]))
      · refine wpOp_plain rfl rfl (fun K' hK => ?_)
        have e2 := I0.val (ready_dep hi (j := 9) (by kernel_rfl)) rfl
        have hl := live_here (tab := bdTab ts vs p y) (cons := bdCons) (ready_dep hi (j := 7) (by kernel_rfl)) hn rfl
        refine opwp_append_row (.tmp 14) (.tmp 16) rfl w0.heap.size (T 7) [] rfl (I0.own.row 7 [] hl) B d vs e2 (HB.out.step I0.below) (by simp; omega) I0.below.size ?_
        intro v' w' r1 r2 r3
        exact hK _ _ (key v' w' (I0.grow hs hl rfl rfl rfl r1 r2 r3) _ rfl)
      · refine wpOp_plain rfl rfl (fun K' hK => ?_)
        go_simp
        exact hK _ _ (key _ _ (I0.quiet hs (Below.refl _ _) rfl (by rintro x ⟨⟩; rfl)) _ rfl)
      · refine wpOp_plain rfl rfl (fun K' hK => ?_)
        have e1 := I0.val (ready_dep hi (j := 11) (by kernel_rfl)) rfl
        rw [e1]
        go_simp
        exact hK _ _ (key _ _ (I0.fresh hs (below_alloc _ _) rfl rfl (World.ownsRow_lit _ #[.int .i64 y] 1 (Nat.le_refl _) (by unfold maxLen; omega) rfl)) _ (by simp [upd, e1]))
      · refine wpOp_plain rfl rfl (fun K' hK => ?_)
        have hl := live_here (tab := bdTab ts vs p y) (cons := bdCons) (ready_dep hi (j := 10) (by kernel_rfl)) hn rfl
        have hl2 := live_here (tab := bdTab ts vs p y) (cons := bdCons) (ready_dep hi (j := 12) (by kernel_rfl)) hn rfl
        have r5 := I0.own.row 12 [y] hl2
        obtain ⟨X5, c5, e5⟩ := r5.form
        rw [e5] at r5
        refine opwp_append_row (.tmp 17) (.tmp 19) rfl w0.heap.size (T 10) vs rfl (I0.own.row 10 vs hl) X5 c5 [y] e5 (ri_of_row r5) (by simp; omega) I0.below.size ?_
        intro v' w' r1 r2 r3
        exact hK _ _ (key v' w' (I0.grow hs hl rfl rfl rfl r1 r2 r3) _ rfl)
    · have l3 := (closed_reach hc 0 14 6 (by kernel_rfl))
      have l7 := (closed_reach hc 0 14 13 (by kernel_rfl))
      obtain rfl | rfl : i = 14 ∨ i = 15 := by omega
      · refine wpOp_plain rfl rfl (fun K' hK => ?_)
        obtain ⟨X, cx, e3⟩ := (I0.own.row 6 (ts ++ [p]) (live_here (ready_dep hi (j := 6) (by kernel_rfl)) n9 rfl)).form
        obtain ⟨Y, cy, e7⟩ := (I0.own.row 13 (vs ++ [y]) (live_here (ready_dep hi (j := 13) (by kernel_rfl)) n9 rfl)).form
        rw [e3, e7]
        go_simp
        refine hK _ _ ⟨upd T 14 (.agg #[.slice X (ts ++ [p]).length cx, .slice Y (vs ++ [y]).length cy]), by simp [upd, e3, e7], fun _ => ⟨I0.quiet hs (Below.refl _ _) rfl (by rintro x ⟨⟩), fun _ => by simp [upd, e3, e7]⟩, fun h => absurd h (by rw [getD_set hs, if_neg (by omega), n9]; decide)⟩
      · refine wpOp_plain rfl rfl (fun K' hK => ?_)
        have d8 := ready_dep hi (j := 14) (by kernel_rfl)
        have r3 := I0.own.row 6 (ts ++ [p]) (live_here (l3 d8) n9 rfl)
        have r7 := I0.own.row 13 (vs ++ [y]) (live_here (l7 d8) n9 rfl)
        obtain ⟨X, cx, e3⟩ := r3.form
        obtain ⟨Y, cy, e7⟩ := r7.form
        have e8 := h8 d8
        rw [e3] at r3 e8
        rw [e7] at r7 e8
        have hy := Y0.out.step I0.below
        have y0 := hy.cell 0
        have y1 := hy.cell 1
        have y2 := hy.frozen 0
        have y3 := hy.frozen 1
        simp only [List.getElem?_toArray, List.getElem?_cons_zero, List.getElem?_cons_succ] at y0 y1
        have hst := NewB.store hy rfl r3 r7
        generalize (ts ++ [p]).length = n1 at *
        generalize (vs ++ [y]).length = n2 at *
        go_simp
        refine hK _ _ ⟨T, by rw [e8, e3, e7], fun h => absurd h (by rw [getD_set hs, if_pos rfl]; decide), fun _ => ⟨hst, ?_⟩⟩
        exact Below.setCell (Below.setCell (B0.out.trans (I0.below.mono B0.out.size)) (by (try simp) <;> omega) _) (by (try simp) <;> omega) _
  · rintro listed a u hz hall ⟨T, rfl, h1, h2⟩
    obtain ⟨⟨X, cx, Y, cy, hb, hr1, hr2⟩, hbw⟩ := h2 (hall 15 (by decide))
    have y0 := hb.cell 0
    have y1 := hb.cell 1
    simp only [List.getElem?_toArray, List.getElem?_cons_zero, List.getElem?_cons_succ, List.length_append, List.length_singleton] at y0 y1
    go_wp2
    refine bodyPost_ret (v := .agg #[.slice X (ts.length + 1) cx, .slice Y (vs.length + 1) cy]) (by simp [results, Tryz.results149, go_sem, y0, y1]) rfl ?_
    exact ⟨X, cx, Y, cy, rfl, RowV.rw hr1, RowV.rw hr2, hbw⟩
end Go.Proofs.YtimlpdcambmcjaaGreat

namespace Go.Proofs.YtimlpdcambmcjaaGreat
open Go.ChangeShapes Go.WideShapes Go.ChangeAt Go.RowKit Go.Sort
open Go.Proofs.YtimlpdcambmcjaaGreat.atom
set_option linter.unusedVariables false
set_option linter.unusedSimpArgs false

section
variable {H : Type} {enc : TypeId × Value → H} {w : World}
set_option maxRecDepth 100000 in
theorem open_queryT {r : Reach} {base : Nat} {v : Value} {d : DataW H} {p : List MemPlace} (hv : Value.okWide Tryz.prog w r base 25 v) (h : DataW.Trod enc Tryz.prog w 0 (fun _ => true) true 25 v d p) :
    ∃ (H A : Option Addr) (ch c : Nat) (hs : List Int) (l : FL), v = .agg #[.slice H hs.length ch, .slice A l.length c] ∧ hs.length ≤ ch ∧ ch ≤ maxLen ∧ l.length ≤ c ∧ c ≤ maxLen ∧ (Ints w 0 w.heap.size H hs ∧ Facts w 0 w.heap.size A l) := by
  have hok : Value.okWide Tryz.prog w r base 25 v := hv
  obtain ⟨v0, v1, y0, y1, n, rfl, _, _, h0, h1⟩ := Go.Joins.open_agg2 Tryz.underlying25 (by kernel_rfl) (by kernel_rfl) hv h
  obtain ⟨A, c, xs, hv1, hl, hm, hi⟩ := open_nums (v := v0) Tryz.underlying22 Tryz.underlying3 (by kernel_rfl) h0
  subst hv1
  have h2 := atom.open_atoms_at (v := v1) h1
  obtain ⟨B, c2, l, rfl, hl2, hm2, hf⟩ := h2
  exact ⟨A, B, c, c2, xs, l, rfl, hl, hm, hl2, hm2, hi, hf⟩
end

/-- How many values a query holds. -/
def szQ (hs : List Int) (l : FL) : Int := (hs.length : Int) + szF l

set_option maxRecDepth 100000 in
theorem szQuery_any (H A : Option Addr) (ch c : Nat) (hs : List Int) (l : FL) (left : Int) (hh : hs.length ≤ 9223372036854775807) (hl : l.length ≤ 9223372036854775807) (h0 : 0 ≤ left) (h1 : left ≤ 1048576) (w : World) (h : RF w A l) :
    Calls Tryz.prog 7 #[.agg #[.slice H hs.length ch, .slice A l.length c], .int .i64 left] w fun e w' => e = .returned (.int .i64 (szR left (szQ hs l))) ∧ Below w.heap.size w w' := by
  have hn := szF_nonneg l
  have HI := Lib.hid (h.step (below_alloc w (.cells #[.slice H hs.length ch, .slice A l.length c] 25)))
  clear h
  by_cases hb : left - (hs.length : Int) < 0
  · have E := Lib.hid (szR_neg (left := left) (z := szQ hs l) (by unfold szQ; omega))
    rw [E.out]
    go_enter Tryz.func7, Tryz.ntmps7
    go_wp2_with fail
    refine (szIntS_any H ch hs.length left hh h0 h1 _).mono ?_
    rintro e w1 ⟨rfl, rfl⟩
    rw [if_pos hb]
    go_wp2
    go_ret
    exact ⟨rfl, below_alloc _ _⟩
  · have hb' : (hs.length : Int) ≤ left := by omega
    have hb2 : 0 ≤ left - (hs.length : Int) := by omega
    have XS := Lib.hid fun (W : World) (hW : RF W A l) => szAtomS_w A c l (left - hs.length) hl (by omega) (by omega) W hW
    by_cases hz : left - (hs.length : Int) - szF l < 0
    · have E := Lib.hid (szR_neg (left := left) (z := szQ hs l) (by unfold szQ; omega))
      have E2 := Lib.hid (szR_neg hz)
      rw [E.out]
      go_enter Tryz.func7, Tryz.ntmps7
      go_wp2_with fail
      refine (szIntS_any H ch hs.length left hh h0 h1 _).mono ?_
      rintro e w1 ⟨rfl, rfl⟩
      rw [if_neg (show ¬ (left - (hs.length : Int) < 0) by omega)]
      go_wp2_with fail
      refine (XS.out _ HI.out).mono ?_
      rintro e w1 ⟨he, d⟩
      rw [E2.out] at he
      subst he
      have D := Lib.hid (below_new d)
      clear d
      go_wp2
      go_ret
      exact ⟨rfl, D.out⟩
    · have hz2 : 0 ≤ left - (hs.length : Int) - szF l := by omega
      have E := Lib.hid (show szR left (szQ hs l) = left - hs.length - szF l by rw [szR_pos (by unfold szQ; omega)]; unfold szQ; omega)
      have E2 := Lib.hid (szR_pos hz)
      rw [E.out]
      go_enter Tryz.func7, Tryz.ntmps7
      go_wp2_with fail
      refine (szIntS_any H ch hs.length left hh h0 h1 _).mono ?_
      rintro e w1 ⟨rfl, rfl⟩
      rw [if_neg (show ¬ (left - (hs.length : Int) < 0) by omega)]
      go_wp2_with fail
      refine (XS.out _ HI.out).mono ?_
      rintro e w1 ⟨he, d⟩
      rw [E2.out] at he
      subst he
      have D := Lib.hid (below_new d)
      clear d
      go_wp2
      go_ret
      exact ⟨rfl, D.out⟩

/-- A query of the call's own: its head in block g, its atoms from block g + 1 on. -/
def QX (w : World) (g hi : Nat) (hs : List Int) (l : FL) : Prop := Row w g hs ∧ atom.PX w (g + 1) hi (g + 1) (l.length * 2) l
theorem QX.step {w w' : World} {g hi : Nat} {hs : List Int} {l : FL} (h : QX w g hi hs l) (b : Below w.heap.size w w') : QX w' g hi hs l := ⟨h.1.step b, h.2.step b⟩
theorem QX.keep {w w' : World} {g hi : Nat} {hs : List Int} {l : FL} (h : QX w g hi hs l) (hk : ∀ b, g ≤ b → b < hi → w'.heap[b]? = w.heap[b]?) (hs' : w.heap.size ≤ w'.heap.size) : QX w' g hi hs l :=
  ⟨h.1.of_block (hk g (Nat.le_refl _) (by have := h.2.1.2.1; omega)), h.2.keep (fun b h1 h2 => hk b (by omega) h2) hs'⟩
theorem QX.ri {w : World} {g hi : Nat} {hs : List Int} {l : FL} (h : QX w g hi hs l) : RI w (some ⟨g, 0, none⟩) hs := h.1.ri
theorem QX.rf {w : World} {g hi : Nat} {hs : List Int} {l : FL} (h : QX w g hi hs l) : RF w (some ⟨g + 1, 0, none⟩) l := h.2.rf
theorem QX.lt {w : World} {g hi : Nat} {hs : List Int} {l : FL} (h : QX w g hi hs l) : g + 1 < hi ∧ hi ≤ w.heap.size := ⟨h.2.1.2.1, h.2.2.1⟩

set_option maxHeartbeats 1000000 in
set_option maxRecDepth 100000 in
theorem toQuery_r (H A : Option Addr) (ch c : Nat) (hs : List Int) (l : FL) (hh : hs.length ≤ 1048576) (hz : szF l ≤ 1048576) (w : World) (h : RI w H hs) (h' : RF w A l) :
    Calls Tryz.prog 10 #[.agg #[.slice H hs.length ch, .slice A l.length c]] w fun e w' =>
      e = .returned (.agg #[.slice (some ⟨w.heap.size + 3, 0, none⟩) hs.length hs.length, .slice (some ⟨w.heap.size + 3 + 1, 0, none⟩) l.length l.length]) ∧ QX w' (w.heap.size + 3) w'.heap.size hs l ∧ Below w.heap.size w w' ∧ w.heap.size + 4 < w'.heap.size := by
  obtain ⟨W, hW⟩ : ∃ W, W = ((w.alloc (.cells #[.slice H hs.length ch, .slice A l.length c] 25)).alloc (.cells #[.slice none 0 0, .slice none 0 0] 29)).alloc (.cells #[.slice none 0 0, .slice none 0 0] 29) := ⟨_, rfl⟩
  have BW := Lib.hid (show Below w.heap.size w W by rw [hW]; exact step (step (below_alloc _ _) (below_alloc _ _)) (below_alloc _ _))
  have ZW := Lib.hid (show W.heap.size = w.heap.size + 3 by rw [hW]; simp)
  have X0 : Box W w.heap.size #[.slice H hs.length ch, .slice A l.length c] 25 := by rw [hW]; exact ((Box.new w _ _).step (below_alloc _ _)).step (below_alloc _ _)
  have X1 : Box W (w.heap.size + 1) #[.slice none 0 0, .slice none 0 0] 29 := by
    have h1 := (Box.new (w.alloc (.cells #[.slice H hs.length ch, .slice A l.length c] 25)) #[.slice none 0 0, .slice none 0 0] 29).step (below_alloc _ (.cells #[.slice none 0 0, .slice none 0 0] 29))
    rw [hW]; simpa using h1
  have X2 : Box W (w.heap.size + 2) #[.slice none 0 0, .slice none 0 0] 29 := by
    have h1 := Box.new ((w.alloc (.cells #[.slice H hs.length ch, .slice A l.length c] 25)).alloc (.cells #[.slice none 0 0, .slice none 0 0] 29)) #[.slice none 0 0, .slice none 0 0] 29
    rw [hW]; simpa using h1
  have HX0 := Lib.hid X0
  have HX1 := Lib.hid X1
  have HX2 := Lib.hid X2
  have HI := Lib.hid h
  have HF := Lib.hid h'
  have EW := Lib.hid hW
  clear h h' X0 X1 X2 hW
  go_enter Tryz.func10, Tryz.ntmps10
  go_wp2_with fail
  rw [← EW.out]
  refine (toIntS_r H ch hs hh _ (HI.out.step BW.out)).mono ?_
  rintro e w1 ⟨rfl, hr, hb, hz1⟩
  have HR := Lib.hid hr
  have HB := Lib.hid hb
  have HZ := Lib.hid hz1
  have Y0 := Lib.hid (HX0.out.step hb)
  have Y1 := Lib.hid (HX1.out.step hb)
  have Y2 := Lib.hid (HX2.out.step hb)
  have a0 := Y0.out.cell 1
  have a2 := Y2.out.cell 0
  have a3 := Y2.out.frozen 0
  simp only [List.getElem?_toArray, List.getElem?_cons_zero, List.getElem?_cons_succ] at a0 a2
  obtain ⟨g, hg⟩ : ∃ g, g = W.heap.size := ⟨_, rfl⟩
  rw [← hg]
  have G := Lib.hid hg
  have L1 : w.heap.size + 2 < w1.heap.size := Y2.out.lt
  have BX := Lib.hid (show Below w.heap.size w (w1.setCell ⟨w.heap.size + 2, 0, none⟩ (.slice (some ⟨g, 0, none⟩) hs.length hs.length)) from (step BW.out hb).setCell (by simp) _)
  clear hr hb hz1 hg
  go_wp2_with fail
  refine (toAtomS_p A c l hz _ (HF.out.step BX.out)).mono ?_
  rintro e w2 ⟨rfl, hp, d, hz2⟩
  have Z0 := Lib.hid (((Y2.out.set 0 (.slice (some ⟨g, 0, none⟩) hs.length hs.length))).step d)
  have Z1 := Lib.hid ((Y1.out.set_other (p := ⟨w.heap.size + 2, 0, none⟩) (u := .slice (some ⟨g, 0, none⟩) hs.length hs.length) (by simp)).step d)
  have HP := Lib.hid hp
  have HD := Lib.hid (step BX.out d)
  have HR2 := Lib.hid ((HR.out.set_other (p := ⟨w.heap.size + 2, 0, none⟩) (u := .slice (some ⟨g, 0, none⟩) hs.length hs.length) (by have := ZW.out; (try simp); omega)).step d)
  have z0 := Z0.out.cell 0
  have z1 := Z0.out.cell 1
  have z2 := Z0.out.frozen 0
  have z3 := Z0.out.frozen 1
  have z4 := Z1.out.cell 0
  have z5 := Z1.out.cell 1
  have z6 := Z1.out.frozen 0
  have z7 := Z1.out.frozen 1
  simp only [List.setIfInBounds_toArray, List.set_cons_zero, List.getElem?_toArray, List.getElem?_cons_zero, List.getElem?_cons_succ] at z0 z1 z4 z5
  have L2 : w.heap.size + 2 < w2.heap.size := Z0.out.lt
  obtain ⟨g2, hg2⟩ : ∃ g2, g2 = (w1.setCell ⟨w.heap.size + 2, 0, none⟩ (.slice (some ⟨g, 0, none⟩) hs.length hs.length)).heap.size := ⟨_, rfl⟩
  rw [← hg2] at HP ⊢
  have E2 := Lib.hid (show g2 = w.heap.size + 3 + 1 by rw [hg2, set_size, HZ.out, ZW.out])
  have E1 := Lib.hid (show g = w.heap.size + 3 by rw [G.out, ZW.out])
  have LZ := Lib.hid (show w.heap.size + 4 < w2.heap.size by rw [set_size, HZ.out, ZW.out] at hz2; omega)
  have ER := Lib.hid (show Row w2 g hs by rw [G.out]; exact HR2.out)
  clear hp d hz2 hg2 a0 a2 a3 Z0 Z1 Y0 Y1 Y2
  go_wp2
  refine bodyPost_ret (v := .agg #[.slice (some ⟨g, 0, none⟩) hs.length hs.length, .slice (some ⟨g2, 0, none⟩) l.length l.length]) (by simp [results, Tryz.results10, go_sem, z0, z1, z2, z3, z4, z5, z6, z7]) rfl ?_
  refine ⟨by rw [E1.out, E2.out], ?_, ?_, ?_⟩
  · refine (show QX w2 (w.heap.size + 3) _ hs l from ⟨by have := ER.out; rwa [E1.out] at this, by have := HP.out; rw [E2.out] at this; simpa [set_size] using this⟩).keep (fun b h1 h2 => ?_) (by simp [set_size])
    exact ((Below.heap_setCell _ ⟨w.heap.size + 1, 1, none⟩ _ b (by (try simp); omega)).trans (Below.heap_setCell _ ⟨w.heap.size + 1, 0, none⟩ _ b (by (try simp); omega))).trans (Below.heap_setCell _ ⟨w.heap.size + 2, 1, none⟩ _ b (by (try simp); omega))
  · exact Below.setCell (Below.setCell (Below.setCell HD.out (by (try simp) <;> omega) _) (by (try simp) <;> omega) _) (by (try simp) <;> omega) _
  · rw [set_size, set_size, set_size]; exact LZ.out

set_option maxHeartbeats 1000000 in
set_option maxRecDepth 100000 in
theorem eqQuery_b (H A H' A' : Option Addr) (ch c ch' c' : Nat) (hs : List Int) (l : FL) (hh : hs.length ≤ 1048576) (hz : szF l ≤ 1048577) (w : World) (h1 : RI w H hs) (h2 : RF w A l) (h3 : RI w H' hs) (h4 : RF w A' l) :
    Calls Tryz.prog 12 #[.agg #[.slice H hs.length ch, .slice A l.length c], .agg #[.slice H' hs.length ch', .slice A' l.length c']] w fun e w' => e = .returned (.bool true) ∧ Below w.heap.size w w' := by
  have B0 := step (below_alloc w (.cells #[.slice H hs.length ch, .slice A l.length c] 29)) (below_alloc _ (.cells #[.slice H' hs.length ch', .slice A' l.length c'] 29))
  have H1 := Lib.hid (h1.step B0)
  have H2 := Lib.hid (h2.step B0)
  have H3 := Lib.hid (h3.step B0)
  have H4 := Lib.hid (h4.step B0)
  have HB0 := Lib.hid B0
  clear h1 h2 h3 h4 B0
  go_enter Tryz.func12, Tryz.ntmps12
  go_wp2_with fail
  refine (eqIntS_r H H' ch ch' hs hh _ H1.out H3.out).mono ?_
  rintro e w1 ⟨rfl, d⟩
  have X := Box.of_new2 d
  have x1 := X.1.cell 1
  have x2 := X.2.cell 1
  simp only [List.getElem?_toArray, List.getElem?_cons_zero, List.getElem?_cons_succ] at x1 x2
  have F2 := Lib.hid (H2.out.step d)
  have F4 := Lib.hid (H4.out.step d)
  have D1 := Lib.hid (step HB0.out d)
  clear X d
  go_wp2_with fail
  refine (eqAtomS_b A A' c c' l hz _ F2.out F4.out).mono ?_
  rintro e w2 ⟨rfl, d⟩
  have D2 := Lib.hid (step D1.out d)
  clear d x1 x2
  go_wp2
  go_ret
  exact ⟨rfl, D2.out⟩
end Go.Proofs.YtimlpdcambmcjaaGreat

namespace Go.Proofs.YtimlpdcambmcjaaGreat
open Go.ChangeShapes Go.WideShapes Go.ChangeAt Go.RowKit Go.Sort
open Go.Proofs.YtimlpdcambmcjaaGreat.atom
set_option linter.unusedVariables false
set_option linter.unusedSimpArgs false

/-- Of the memory that was there only the blocks from lo to below hi have turned. -/
structure Mk (lo hi : Nat) (w w' : World) : Prop where
  below : Below lo w w'
  above : ∀ b, hi ≤ b → b < w.heap.size → w'.heap[b]? = w.heap[b]?
theorem Mk.keep {lo hi : Nat} {w w' : World} (h : Mk lo hi w w') {b : Nat} (hb : b < lo ∨ hi ≤ b) (hlt : b < w.heap.size) : w'.heap[b]? = w.heap[b]? := by
  rcases hb with hb | hb
  · exact h.below.block b hb
  · exact h.above b hb hlt

/-- A query of the call's own: its head from block lo to below mid, its atoms from there to below hi. -/
def QO (w : World) (lo mid hi : Nat) (H A : Option Addr) (ch c : Nat) (hs : List Int) (l : FL) : Prop :=
  (∃ q, OwnV w lo mid (.slice H hs.length ch) q hs) ∧ (l = [] ∨ ∃ g m, A = some ⟨g, 0, none⟩ ∧ atom.OwnP w mid hi g m l.length l ∧ l.length * 2 ≤ m) ∧ lo ≤ mid ∧ mid ≤ hi ∧ hi ≤ w.heap.size
theorem QO.keep {w w' : World} {lo mid hi : Nat} {H A : Option Addr} {ch c : Nat} {hs : List Int} {l : FL} (h : QO w lo mid hi H A ch c hs l) (hk : ∀ b, lo ≤ b → b < hi → w'.heap[b]? = w.heap[b]?) (hz : w.heap.size ≤ w'.heap.size) : QO w' lo mid hi H A ch c hs l := by
  obtain ⟨⟨q, h1⟩, h2, h3, h4, h5⟩ := h
  refine ⟨⟨q, h1.keep fun a b _ => hk _ a (by omega)⟩, ?_, h3, h4, by omega⟩
  rcases h2 with h2 | ⟨g, m, e, h2, h6⟩
  · exact .inl h2
  · exact .inr ⟨g, m, e, h2.keep fun b a c => hk b (by omega) c, h6⟩
theorem QO.step {w w' : World} {lo mid hi : Nat} {H A : Option Addr} {ch c : Nat} {hs : List Int} {l : FL} (h : QO w lo mid hi H A ch c hs l) (d : Below w.heap.size w w') : QO w' lo mid hi H A ch c hs l :=
  h.keep (fun b _ hb => d.block b (by have := h.2.2.2.2; omega)) d.size
theorem QO.ri {w : World} {lo mid hi : Nat} {H A : Option Addr} {ch c : Nat} {hs : List Int} {l : FL} (h : QO w lo mid hi H A ch c hs l) : RI w H hs := by
  obtain ⟨⟨q, h1⟩, _, h3, h4, h5⟩ := h
  exact (h1.ints).2.2.2.mono (Nat.zero_le _) (by omega)
theorem QO.rf {w : World} {lo mid hi : Nat} {H A : Option Addr} {ch c : Nat} {hs : List Int} {l : FL} (h : QO w lo mid hi H A ch c hs l) : RF w A l := by
  obtain ⟨_, h2, h3, h4, h5⟩ := h
  rcases h2 with rfl | ⟨g, m, rfl, h2, h6⟩
  · exact fun hne => absurd rfl hne
  · exact (h2.facts h6).mono (Nat.zero_le _) h5
theorem QX.qo {w : World} {g hi : Nat} {hs : List Int} {l : FL} (h : QX w g hi hs l) (hh : hs.length ≤ 1048576) : QO w g (g + 1) hi (some ⟨g, 0, none⟩) (some ⟨g + 1, 0, none⟩) hs.length l.length hs l :=
  ⟨⟨g, OwnV.of_row h.1 (Nat.le_refl _) (Nat.lt_succ_self _) (Nat.le_refl _) (by unfold maxLen; omega)⟩, .inr ⟨g + 1, l.length * 2, rfl, h.2.1, Nat.le_refl _⟩, Nat.le_succ _, Nat.le_of_lt h.lt.1, h.lt.2⟩

set_option maxRecDepth 100000 in
theorem markAtomS_zero (A : Option Addr) (c : Nat) (q : Int) (w : World) (h0 : 0 ≤ q) (h1 : q ≤ 1099511627776) :
    Calls Tryz.prog 48 #[.slice A 0 c, .int .i64 q] w fun e w' => e = .returned (.int .i64 q) ∧ w = w' := by
  go_enter Tryz.func48, Tryz.ntmps48
  go_wp2
  refine wp_loop_rounds 1 ?_
  rw [rounds_succ]
  go_wp2
  go_ret
  exact ⟨rfl, rfl⟩

theorem mkK_nil (q : Int) (n : Nat) : mkK q [] n = [] := by simp [mkK]

/-- The marks of a list of numbers of the call's own. -/
theorem markIntS_own (lo hi q : Nat) (A : Option Addr) (c : Nat) (k : Int) (xs : List Int) (hl : xs.length ≤ 1048576) (h0 : 0 ≤ k) (h1 : k ≤ 33554432) (w : World) (hlt : hi ≤ w.heap.size) (hlo : lo ≤ hi) (h : OwnV w lo hi (.slice A xs.length c) q xs) :
    Calls Tryz.prog 14 #[.slice A xs.length c, .int .i64 k] w fun e w' => e = .returned (.int .i64 (k + xs.length)) ∧ Within lo hi w w' ∧ Ints w' lo hi A (marks k xs.length) := by
  obtain ⟨A', c', he, _, _, hx⟩ := h
  injection he with e1 e2 e3
  subst e1 e3
  by_cases hp : 0 < xs.length
  · obtain ⟨rfl, a, b, m, F, hm, hr, _⟩ := hx hp
    refine (markIntS_any _ q c xs.length m k w hl h0 (by omega) F (fun _ => rfl) hm (fun _ => hr)).mono ?_
    rintro e w' ⟨rfl, hw, hr'⟩
    refine ⟨rfl, hw.mono a (by omega), fun _ => ⟨q, 0, rfl, a, b, fun j hj => ?_⟩⟩
    rw [marks_length] at hj
    rw [Nat.zero_add, World.rowIs.cell (hr' hp) (show j < m by omega), marks_getD _ _ _ hj, if_pos hj]
  · have hz : xs.length = 0 := by omega
    rw [hz]
    refine (markIntS_zero A c k w h0 (by omega)).mono ?_
    rintro e w' ⟨rfl, rfl⟩
    exact ⟨by simp, Within.refl _ _ _, fun h => absurd rfl h⟩

/-- The marks of a list of atoms of the call's own. -/
theorem markAtomS_own (lo hi : Nat) (A : Option Addr) (c : Nat) (k : Int) (l : FL) (hz : szF l ≤ 1048576) (h0 : 0 ≤ k) (h1 : k ≤ 16777216) (w : World)
    (h : l = [] ∨ ∃ g m, A = some ⟨g, 0, none⟩ ∧ atom.OwnP w lo hi g m l.length l ∧ l.length * 2 ≤ m) :
    Calls Tryz.prog 48 #[.slice A l.length c, .int .i64 k] w fun e w' => e = .returned (.int .i64 (k + szF l)) ∧ Within lo hi w w' ∧ Facts w' lo hi A (mkK k l l.length) := by
  rcases h with rfl | ⟨g, m, rfl, hO, hm⟩
  · refine (markAtomS_zero A c k w h0 (by omega)).mono ?_
    rintro e w' ⟨rfl, rfl⟩
    exact ⟨by simp [szF, sumN], Within.refl _ _ _, by rw [mkK_nil]; exact fun h => absurd rfl h⟩
  · refine (markAtomS_any lo hi g m c k l (by omega) h0 (by omega) hm w hO).mono ?_
    rintro e w' ⟨rfl, hO', hw⟩
    exact ⟨rfl, hw, atom.OwnP.facts (by rw [mkK_length]; exact hO') (by rw [mkK_length]; exact hm)⟩

set_option maxRecDepth 100000 in
theorem markQuery_o (lo mid hi : Nat) (H A : Option Addr) (ch c : Nat) (hs : List Int) (l : FL) (k : Int) (h0 : 0 ≤ k) (h1 : k ≤ 8388608) (hz : szQ hs l ≤ 1048576) (w : World) (h : QO w lo mid hi H A ch c hs l) :
    Calls Tryz.prog 15 #[.agg #[.slice H hs.length ch, .slice A l.length c], .int .i64 k] w fun e w' =>
      e = .returned (.int .i64 (k + szQ hs l)) ∧ Mk lo hi w w' ∧ (Ints w' lo mid H (marks k hs.length) ∧ Facts w' mid hi A (mkK (k + hs.length) l l.length)) := by
  have hn := szF_nonneg l
  have hzh : (hs.length : Int) + szF l ≤ 1048576 := hz
  have hq := h.step (below_alloc w (.cells #[.slice H hs.length ch, .slice A l.length c] 29))
  obtain ⟨⟨q, hO⟩, hA, e1, e2, e3⟩ := hq
  have e4 := h.2.2.2.2
  have XM := Lib.hid (markIntS_own lo mid q H ch k hs (by omega) h0 (by omega) _ (by omega) e1 hO)
  have XB := Lib.hid (Box.new w #[.slice H hs.length ch, .slice A l.length c] 29)
  have HA := Lib.hid hA
  clear h hO hA
  go_enter Tryz.func15, Tryz.ntmps15
  go_wp2_with fail
  refine XM.out.mono ?_
  rintro e w1 ⟨rfl, hw, hi1⟩
  have X1 : Box w1 w.heap.size #[.slice H hs.length ch, .slice A l.length c] 29 := (hw.block _ (.inr (by omega))).trans XB.out
  have x1 := X1.cell 1
  simp only [List.getElem?_toArray, List.getElem?_cons_zero, List.getElem?_cons_succ] at x1
  have HW := Lib.hid hw
  have HI := Lib.hid hi1
  have XA := Lib.hid (markAtomS_own mid hi A c (k + hs.length) l (by omega) (by omega) (by omega) w1 (by
    rcases HA.out with h | ⟨g, m, e, h, hm⟩
    · exact .inl h
    · exact .inr ⟨g, m, e, h.keep fun b a _ => hw.block b (.inr a), hm⟩))
  have hk2 : 0 ≤ k + (hs.length : Int) := by omega
  clear X1 hw hi1
  go_wp2_with fail
  refine XA.out.mono ?_
  rintro e w2 ⟨rfl, hw, hf⟩
  have HW2 := Lib.hid hw
  have HF := Lib.hid hf
  clear hw hf x1
  go_wp2
  go_ret
  refine ⟨ret_int (by unfold szQ; omega), ⟨?_, fun b hb hlt => ?_⟩, HI.out.keep fun b _ hb => HW2.out.block b (.inl hb), HF.out⟩
  · exact ((below_alloc w _).mono (by omega)).trans (HW.out.below.trans (HW2.out.below.mono e1))
  · exact (HW2.out.block b (.inr hb)).trans ((HW.out.block b (.inr (by omega))).trans (Below.heap_alloc _ _ _ hlt))

set_option maxRecDepth 100000 in
theorem heldQuery_o (H A : Option Addr) (ch c : Nat) (hs : List Int) (l : FL) (k : Int) (h0 : 0 ≤ k) (h1 : k ≤ 1) (hz : szQ hs l ≤ 1048576) (w : World) (h : RI w H (marks k hs.length)) (h' : RF w A (mkK (k + hs.length) l l.length)) :
    Calls Tryz.prog 16 #[.agg #[.slice H hs.length ch, .slice A l.length c], .int .i64 k] w fun e w' => e = .returned (.int .i64 (k + szQ hs l)) ∧ Below w.heap.size w w' := by
  have hn := szF_nonneg l
  have hzh : (hs.length : Int) + szF l ≤ 1048576 := hz
  have HI := Lib.hid (h.step (below_alloc w (.cells #[.slice H hs.length ch, .slice A l.length c] 29)))
  have HF := Lib.hid (h'.step (below_alloc w (.cells #[.slice H hs.length ch, .slice A l.length c] 29)))
  have hk2 : 0 ≤ k + (hs.length : Int) := by omega
  have hk3 : 0 ≤ k + (hs.length : Int) + szF l := by omega
  clear h h'
  go_enter Tryz.func16, Tryz.ntmps16
  go_wp2_with fail
  refine (heldIntS_any _ _ H ch hs.length k _ (by omega) h0 (by omega) HI.out).mono ?_
  rintro e w1 ⟨rfl, rfl⟩
  go_wp2_with fail
  refine (heldAtomS_any A c (k + hs.length) l (by omega) (by omega) (by omega) _ HF.out).mono ?_
  rintro e w1 ⟨rfl, rfl⟩
  go_wp2
  go_ret
  exact ⟨ret_int (by unfold szQ; omega), below_alloc _ _⟩
end Go.Proofs.YtimlpdcambmcjaaGreat

namespace Go.Proofs.YtimlpdcambmcjaaGreat
open Go.ChangeShapes Go.WideShapes Go.ChangeAt Go.RowKit Go.Sort
open Go.Proofs.YtimlpdcambmcjaaGreat.atom
set_option linter.unusedVariables false
set_option linter.unusedSimpArgs false

/-- Numbers in blocks from lo to below hi, whatever is made later. -/
def IV (w : World) (lo hi : Nat) (A : Option Addr) (xs : List Int) : Prop := Ints w lo hi A xs ∧ hi ≤ w.heap.size
theorem IV.step {w w' : World} {lo hi : Nat} {A : Option Addr} {xs : List Int} (h : IV w lo hi A xs) (d : Below w.heap.size w w') : IV w' lo hi A xs := ⟨h.1.below d h.2, Nat.le_trans h.2 d.size⟩
theorem IV.keep {w w' : World} {lo hi : Nat} {A : Option Addr} {xs : List Int} (h : IV w lo hi A xs) (hk : ∀ b, lo ≤ b → b < hi → w'.heap[b]? = w.heap[b]?) (hz : w.heap.size ≤ w'.heap.size) : IV w' lo hi A xs := ⟨h.1.keep hk, Nat.le_trans h.2 hz⟩
theorem IV.ri {w : World} {lo hi : Nat} {A : Option Addr} {xs : List Int} (h : IV w lo hi A xs) : RI w A xs := h.1.mono (Nat.zero_le _) h.2
/-- Numbers of the call's own, in blocks from lo to below hi, whatever is made later. -/
def GV (w : World) (lo hi : Nat) (A : Option Addr) (c : Nat) (xs : List Int) : Prop := (∃ q, OwnV w lo hi (.slice A xs.length c) q xs) ∧ hi ≤ w.heap.size ∧ lo ≤ hi
theorem GV.keep {w w' : World} {lo hi : Nat} {A : Option Addr} {c : Nat} {xs : List Int} (h : GV w lo hi A c xs) (hk : ∀ b, lo ≤ b → b < hi → w'.heap[b]? = w.heap[b]?) (hz : w.heap.size ≤ w'.heap.size) : GV w' lo hi A c xs := by
  obtain ⟨⟨q, h1⟩, h2, h3⟩ := h
  exact ⟨⟨q, h1.keep fun a b _ => hk _ a b⟩, Nat.le_trans h2 hz, h3⟩
theorem GV.step {w w' : World} {lo hi : Nat} {A : Option Addr} {c : Nat} {xs : List Int} (h : GV w lo hi A c xs) (d : Below w.heap.size w w') : GV w' lo hi A c xs :=
  h.keep (fun b _ hb => d.block b (by have := h.2.1; omega)) d.size
theorem GV.ri {w : World} {lo hi : Nat} {A : Option Addr} {c : Nat} {xs : List Int} (h : GV w lo hi A c xs) : RI w A xs := by
  obtain ⟨⟨q, h1⟩, h2, h3⟩ := h
  exact (h1.ints).2.2.2.mono (Nat.zero_le _) h2

/-- What a function that lists numbers returns, as its blocks. -/
def ListG (w : World) (xs : List Int) (e : Ending) (w' : World) : Prop := ∃ A c, e = .returned (.slice A xs.length c) ∧ GV w' w.heap.size w'.heap.size A c xs ∧ Below w.heap.size w w'
theorem ListT.toG {w : World} {xs : List Int} {e : Ending} {w' : World} (h : ListT w xs e w') : ListG w xs e w' := by
  obtain ⟨v, he, ho, hb⟩ := h
  obtain ⟨A, c, rfl⟩ := ownsRow_form ho
  obtain ⟨q, hv⟩ := ownV_of_row ho
  exact ⟨A, c, he, ⟨⟨q, hv⟩, Nat.le_refl _, hb.size⟩, hb⟩
theorem PutO.toV {w : World} {xs : List Int} {e : Ending} {w' : World} (h : PutO w w.heap.size xs e w') : ∃ A c, e = .returned (.slice A xs.length c) ∧ IV w' w.heap.size w'.heap.size A xs ∧ Below w.heap.size w w' := by
  obtain ⟨A, c, he, hi, hb⟩ := h
  exact ⟨A, c, he, ⟨hi, Nat.le_refl _⟩, hb⟩
theorem markIntS_g (lo hi : Nat) (A : Option Addr) (c : Nat) (xs : List Int) (hl : xs.length ≤ 1048576) (w : World) (h : GV w lo hi A c xs) :
    Calls Tryz.prog 14 #[.slice A xs.length c, .int .i64 1] w fun e w' => e = .returned (.int .i64 (1 + xs.length)) ∧ Within lo hi w w' ∧ IV w' lo hi A (marks 1 xs.length) := by
  obtain ⟨⟨q, h1⟩, h2, h3⟩ := h
  refine (markIntS_own lo hi q A c 1 xs hl (by omega) (by omega) w h2 h3 h1).mono ?_
  rintro e w' ⟨rfl, hw, hi'⟩
  exact ⟨rfl, hw, hi', by rw [hw.size]; exact h2⟩
theorem heldIntS_g (lo hi : Nat) (A : Option Addr) (c n : Nat) (hl : n ≤ 1048576) (w : World) (h : IV w lo hi A (marks 1 n)) :
    Calls Tryz.prog 49 #[.slice A n c, .int .i64 1] w fun e w' => e = .returned (.int .i64 (1 + n)) ∧ w = w' := heldIntS_any lo hi A c n 1 w hl (by omega) (by omega) h.1
end Go.Proofs.YtimlpdcambmcjaaGreat
