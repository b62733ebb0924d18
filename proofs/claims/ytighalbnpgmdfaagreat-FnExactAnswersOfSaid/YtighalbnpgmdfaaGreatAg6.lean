/- Numbers in a block of numbers: they stay whatever turns in blocks of another type. Conditions: none beyond each theorem's own. Lists of bindings in memory, read and grown. Conditions: none beyond each theorem's own. What l4Copy leaves. Conditions: none beyond each theorem's own. What l4Bind leaves. Conditions: none beyond each theorem's own. -/
import Derived.Test.YtighalbnpgmdfaaGreatAg5
import Derived.Test.YtighalbnpgmdfaaGreatAnP
import Derived.Test.YtighalbnpgmdfaaGreatAg1
import Derived.Deep.RegionLaw
import Derived.Deep.DeepCutAuto

namespace Go.Proofs.YtighalbnpgmdfaaGreat
open Go.ChangeShapes Go.WideShapes Go.ChangeAt Go.RowKit Go.Sort
set_option linter.unusedVariables false
set_option linter.unusedSimpArgs false

/-- At A lie the numbers xs, in a block of numbers. -/
def RW (w : World) (A : Option Addr) (xs : List Int) : Prop := RI w A xs ∧ (xs ≠ [] → ∃ b off cs fr, A = some ⟨b, off, none⟩ ∧ w.heap[b]? = some (Obj.cells cs 3 fr))
theorem RW.ri {w : World} {A : Option Addr} {xs : List Int} (h : RW w A xs) : RI w A xs := h.1
theorem RW.nil (w : World) (A : Option Addr) : RW w A [] := ⟨fun h => absurd rfl h, fun h => absurd rfl h⟩
theorem RW.keep {w w' : World} {A : Option Addr} {xs : List Int} (h : RW w A xs) (hk : ∀ (b : Nat) cs fr, w.heap[b]? = some (Obj.cells cs 3 fr) → w'.heap[b]? = w.heap[b]?) (hs : w.heap.size ≤ w'.heap.size) : RW w' A xs := by
  refine ⟨fun hx => ?_, fun hx => ?_⟩
  · obtain ⟨b, off, h1, h2, h3, h4⟩ := h.1 hx
    obtain ⟨b', off', cs, fr, e1, e2⟩ := h.2 hx
    rw [h1] at e1
    injection e1 with e1
    injection e1 with e1 e3
    subst e1
    exact ⟨b, off, h1, h2, by omega, fun k hk' => (World.cell?_of_block (hk b cs fr e2)).trans (h4 k hk')⟩
  · obtain ⟨b', off', cs, fr, e1, e2⟩ := h.2 hx
    exact ⟨b', off', cs, fr, e1, (hk b' cs fr e2).trans e2⟩
theorem RW.step {w w' : World} {A : Option Addr} {xs : List Int} (h : RW w A xs) (b : Below w.heap.size w w') : RW w' A xs :=
  h.keep (fun k cs fr e => b.block k (Array.getElem?_eq_some_iff.1 e).1) b.size
theorem RowV.rw {w : World} {base : Nat} {A : Option Addr} {n c : Nat} {xs : List Int} (h : RowV w base (.slice A n c) xs) : RW w A xs := by
  refine ⟨ri_of_row h, fun hx => ?_⟩
  have hn : 0 < xs.length := List.length_pos_iff.2 hx
  rcases h.2 with ⟨hv, h0⟩ | ⟨g, cap, cur, hv, hbk, hk, _⟩
  · omega
  · injection hv with e1 e2 e3
    subst e1
    exact ⟨g, 0, _, _, rfl, hk⟩
theorem RW.setBox {w : World} {A : Option Addr} {xs : List Int} {g i : Nat} {u : Value} {bx : Array Value} {t : TypeId} (h : RW w A xs) (hb : Box w g bx t) (ht : t ≠ 3) : RW (w.setCell ⟨g, i, none⟩ u) A xs :=
  h.keep (fun b cs fr e => Below.heap_setCell _ _ _ _ (fun e' => by
    have e2 : b = g := e'
    unfold Box at hb
    rw [e2, hb] at e
    injection e with e
    injection e with _ h2
    exact ht h2)) (by rw [set_size]; exact Nat.le_refl _)
/-- A row of another type grows: numbers stay. -/
theorem RW.grown {w w' : World} {A : Option Addr} {xs : List Int} {base : Nat} {e : TypeId} {size : Nat} {v : Value} {n : Nat} {cs : List Value} (h : RW w A xs) (ho : w.ownsRow base e size v n cs) (hg : w.grownBy w' v.ownBlock) (he : e ≠ 3) : RW w' A xs :=
  h.keep (fun b cs fr hb => hg.block b (Array.getElem?_eq_some_iff.1 hb).1 (fun e' => by
    rcases ho.2 with ⟨hv, _⟩ | ⟨g, cap, cur, hv, hbk, hk, _⟩
    · rw [hv] at e'; simp [Value.ownBlock] at e'
    · have e2 : g = b := own_some (by rw [← hv]; exact e'.symm)
      rw [e2, hb] at hk
      injection hk with hk
      injection hk with _ h2
      exact he h2.symm)) hg.size
end Go.Proofs.YtighalbnpgmdfaaGreat

namespace Go.Proofs.YtighalbnpgmdfaaGreat
open Go.ChangeShapes Go.WideShapes Go.ChangeAt Go.RowKit Go.Sort
set_option linter.unusedVariables false
set_option linter.unusedSimpArgs false

abbrev noP : PL := ([], [])
/-- Two cells are the binding p. -/
def BE (w : World) (u v : Value) (p : PL) : Prop := ∃ X c Y d, u = .slice X p.1.length c ∧ v = .slice Y p.2.length d ∧ RW w X p.1 ∧ RW w Y p.2
theorem BE.keep {w w' : World} {u v : Value} {p : PL} (h : BE w u v p) (hk : ∀ (b : Nat) cs fr, w.heap[b]? = some (Obj.cells cs 3 fr) → w'.heap[b]? = w.heap[b]?) (hs : w.heap.size ≤ w'.heap.size) : BE w' u v p := by
  obtain ⟨X, c, Y, d, e1, e2, h1, h2⟩ := h
  exact ⟨X, c, Y, d, e1, e2, h1.keep hk hs, h2.keep hk hs⟩
theorem BE.step {w w' : World} {u v : Value} {p : PL} (h : BE w u v p) (b : Below w.heap.size w w') : BE w' u v p := h.keep (fun k cs fr e => b.block k (Array.getElem?_eq_some_iff.1 e).1) b.size
/-- The slice value v owns a row of the bindings ps. -/
def BC (w : World) (lo : Nat) (v : Value) (ps : List PL) : Prop :=
  ∃ cs, w.ownsRow lo 66 2 v ps.length cs ∧ ∀ k, k < ps.length → ∃ a b, cs[k * 2]? = some a ∧ cs[k * 2 + 1]? = some b ∧ BE w a b (ps.getD k noP)
theorem BC.nil (w : World) (lo : Nat) : BC w lo (.slice none 0 0) [] := ⟨[], World.ownsRow_nil _ _ _ _, fun k hk => by simp at hk⟩
theorem BC.form {w : World} {lo : Nat} {v : Value} {ps : List PL} (h : BC w lo v ps) : ∃ A c, v = .slice A ps.length c := by
  obtain ⟨cs, h, _⟩ := h
  exact ownsRow_form h
theorem BC.step {w w' : World} {lo : Nat} {v : Value} {ps : List PL} (h : BC w lo v ps) (b : Below w.heap.size w w') : BC w' lo v ps := by
  obtain ⟨cs, h1, h2⟩ := h
  exact ⟨cs, ownsRow_step h1 b, fun k hk => by
    obtain ⟨x, y, e1, e2, h3⟩ := h2 k hk
    exact ⟨x, y, e1, e2, h3.step b⟩⟩
theorem BC.lo {w : World} {lo lo' : Nat} {v : Value} {ps : List PL} (h : BC w lo v ps) (a : lo' ≤ lo) : BC w lo' v ps := by
  obtain ⟨cs, h1, h2⟩ := h
  exact ⟨cs, ownsRow_low h1 a, h2⟩
theorem BC.at_ {w : World} {lo c : Nat} {A : Option Addr} {ps : List PL} (h : BC w lo (.slice A ps.length c) ps) {k : Nat} (hk : k < ps.length) {p : PL} (hf : ps.getD k noP = p) :
    ∃ g X c1 Y d1, A = some ⟨g, 0, none⟩ ∧ g < w.heap.size ∧ w.cell? ⟨g, k * 2, none⟩ = some (.slice X p.1.length c1) ∧ w.cell? ⟨g, k * 2 + 1, none⟩ = some (.slice Y p.2.length d1) ∧ RW w X p.1 ∧ RW w Y p.2 := by
  obtain ⟨cs, h1, h2⟩ := h
  obtain ⟨x, y, e1, e2, X, c1, Y, d1, rfl, rfl, r1, r2⟩ := h2 k hk
  rw [hf] at e1 e2 r1 r2
  rcases h1.2 with ⟨hv, h0⟩ | ⟨g, cap, cur, hv, hbk, hg, _⟩
  · omega
  · injection hv with a1 a2 a3
    subst a1
    have q1 := World.ownsRow.cells h1 (g := g) rfl _ _ e1
    have q2 := World.ownsRow.cells h1 (g := g) rfl _ _ e2
    rw [add_eq] at q1 q2
    exact ⟨g, X, c1, Y, d1, rfl, (Array.getElem?_eq_some_iff.1 hg).1, by simpa using q1, by simpa using q2, r1, r2⟩
theorem getD_snocB (ps : List PL) (p : PL) (k : Nat) (hk : k < (ps ++ [p]).length) : (ps ++ [p]).getD k noP = if k < ps.length then ps.getD k noP else p := by
  rw [List.length_append, List.length_singleton] at hk
  by_cases h : k < ps.length
  · rw [if_pos h, List.getD_eq_getElem?_getD, List.getElem?_append_left h, ← List.getD_eq_getElem?_getD]
  · have : k = ps.length := by omega
    subst this
    rw [if_neg h]
    simp [List.getD_eq_getElem?_getD]

set_option maxRecDepth 100000 in
theorem binding_info : (Tryz.prog.info? 66).map (fun i => (i.zero, i.size, i.bytes)) = some (some (.agg #[.slice none 0 0, .slice none 0 0]), 2, 48) := by kernel_rfl

/-- append(v, y) of one binding, in a new block. -/
theorem wpList_pushB {P : Program} {W : World} {ops : Array Oper} {rest : List Oper} {o : Oper} {a : Act} {Q : Exit → Act → World → Prop} (hgd : o.guard = none) (s x : Operand) (t : TypeId)
    (ho : o.op = .call { callee := .builtin .append, args := #[s, x], argTypes := #[t, t] })
    (i : TypeInfo) (ht : P.underlying t = some (.slice 66)) (hi : P.info? 66 = some i) (hz : i.zero = some (.agg #[.slice none 0 0, .slice none 0 0])) (hz1 : i.size = 2) (hz2 : i.bytes = 48)
    {base : Nat} {v : Value} {ps : List PL} {p : PL} {y1 y2 : Value} (hs : a.eval s = v) (hx : a.eval x = .slice (some ⟨W.heap.size, 0, none⟩) 1 1)
    (hown : BC W base v ps) (hE : BE W y1 y2 p) (hbase : base ≤ W.heap.size) (hn : ps.length + 1 ≤ 1099511627776)
    (h : ∀ v' w', BC w' base v' (ps ++ [p]) → W.grownBy w' v.ownBlock → wpList P ops Q rest (a.put o.dst v') w') :
    wpList P ops Q (o :: rest) a (W.alloc (.cells #[y1, y2] 66)) := by
  obtain ⟨cs, h1, h2⟩ := hown
  obtain ⟨X, c, Y, d, rfl, rfl, r1, r2⟩ := hE
  refine wpList_append_own (P := P) _ hgd s x t ho base 66 i _ 2 48 ht hi hz hz1 hz2 rfl (by omega) v ps.length cs hs (h1.alloc _) ⟨W.heap.size, 0, none⟩ 1 1 [.slice X p.1.length c, .slice Y p.2.length d] hx rfl
    (World.news_of_block (cs := #[.slice X p.1.length c, .slice Y p.2.length d]) (t := 66) (fr := (0, 0)) (heap_alloc_new W _)) (by simp [Value.oneCell'])
    (by unfold maxLen; omega) (by omega) (by simp; omega) ?_
  intro v' w' hown' hg _
  have hcl : cs.length = ps.length * 2 := h1.1
  have hg2 : W.grownBy w' v.ownBlock := (World.grownBy_alloc W _ _).trans hg
  have kp : ∀ (b : Nat) ds fr, W.heap[b]? = some (Obj.cells ds 3 fr) → w'.heap[b]? = W.heap[b]? := fun b ds fr hb => hg2.block b (Array.getElem?_eq_some_iff.1 hb).1 (fun e' => by
    rcases h1.2 with ⟨hv, _⟩ | ⟨g, cap, cur, hv, hbk, hk, _⟩
    · rw [hv] at e'; simp [Value.ownBlock] at e'
    · have e2 : g = b := own_some (by rw [← hv]; exact e'.symm)
      rw [e2, hb] at hk
      injection hk with hk
      injection hk with _ h2
      exact absurd h2 (by decide))
  refine h v' w' ⟨cs ++ [.slice X p.1.length c, .slice Y p.2.length d], by rw [List.length_append]; exact hown', fun k hk => ?_⟩ hg2
  rw [getD_snocB ps p k hk]
  rw [List.length_append, List.length_singleton] at hk
  by_cases hlt : k < ps.length
  · rw [if_pos hlt]
    obtain ⟨x, y, e1, e2, h3⟩ := h2 k hlt
    refine ⟨x, y, ?_, ?_, h3.keep kp hg2.size⟩
    · rw [List.getElem?_append_left (by omega)]; exact e1
    · rw [List.getElem?_append_left (by omega)]; exact e2
  · have : k = ps.length := by omega
    subst this
    rw [if_neg hlt]
    refine ⟨_, _, ?_, ?_, X, c, Y, d, rfl, rfl, r1.keep kp hg2.size, r2.keep kp hg2.size⟩
    · rw [List.getElem?_append_right (by omega), hcl]; simp
    · rw [List.getElem?_append_right (by omega), hcl, show ps.length * 2 + 1 - ps.length * 2 = 1 by omega]; rfl
end Go.Proofs.YtighalbnpgmdfaaGreat

namespace Go.Proofs.YtighalbnpgmdfaaGreat
open Go.ChangeShapes Go.WideShapes Go.ChangeAt Go.RowKit Go.Sort
open Go.Maps (Keyed int_keyed keyOf_int_mk)
set_option linter.unusedVariables false
set_option linter.unusedSimpArgs false

def cpTab (ts vs : List Int) : Nat → Option (List Int)
  | 0 => some [] | 3 => some ts | 4 => some [] | 7 => some vs | _ => none
def cpCons : Nat → Nat
  | 0 => 3 | 3 => 9 | 4 => 7 | 7 => 9 | _ => 10
def cpVals (g : Nat) (x y : Value) : Nat → Option Value
  | 1 => some (.pointer (some ⟨g, 0, none⟩)) | 2 => some x | 5 => some (.pointer (some ⟨g, 1, none⟩)) | 6 => some y | _ => none

set_option maxRecDepth 100000 in
set_option maxHeartbeats 4000000 in
theorem l4Copy_any (A B : Option Addr) (c d : Nat) (ts vs : List Int) (hts : ts.length ≤ 1048576) (hvs : vs.length ≤ 1048576) (w : World) (hA : RI w A ts) (hB : RI w B vs) :
    Calls Tryz.prog 105 #[.agg #[.slice A ts.length c, .slice B vs.length d]] w fun e w' => ∃ X c' Y d', e = .returned (.agg #[.slice X ts.length c', .slice Y vs.length d']) ∧ RW w' X ts ∧ RW w' Y vs ∧ Below w.heap.size w w' := by
  have B0 := Lib.hid (step (below_alloc w (.cells #[.slice A ts.length c, .slice B vs.length d] 66)) (below_alloc _ (.cells #[.slice none 0 0, .slice none 0 0] 66)))
  have X0 := Lib.hid ((Box.new w #[.slice A ts.length c, .slice B vs.length d] 66).step (below_alloc _ (.cells #[.slice none 0 0, .slice none 0 0] 66)))
  have Y0 := Lib.hid (Box.new (w.alloc (.cells #[.slice A ts.length c, .slice B vs.length d] 66)) #[.slice none 0 0, .slice none 0 0] 66)
  rw [al_size] at Y0
  have HA := Lib.hid (hA.step B0.out)
  have HB := Lib.hid (hB.step B0.out)
  obtain ⟨w0, hw0⟩ : ∃ W, W = (w.alloc (.cells #[.slice A ts.length c, .slice B vs.length d] 66)).alloc (.cells #[.slice none 0 0, .slice none 0 0] 66) := ⟨_, rfl⟩
  have E0 := Lib.hid hw0
  rw [← hw0] at B0 X0 Y0 HA HB
  have hsz : w.heap.size + 2 = w0.heap.size := by rw [hw0, al_size, al_size]
  have x0 := X0.out.cell 0
  have x1 := X0.out.cell 1
  simp only [List.getElem?_toArray, List.getElem?_cons_zero, List.getElem?_cons_succ] at x0 x1
  clear hA hB hw0
  go_enter Tryz.func105, Tryz.ntmps105
  go_upto_region 1 with fail
  rw [← E0.out]
  refine wp_region_inv rfl (by kernel_rfl) (fun listed a u => ∃ T : Nat → Value, a = ⟨#[Value.agg #[Value.slice A ts.length c, Value.slice B vs.length d], Value.pointer (some ⟨w.heap.size, 0, none⟩), Value.pointer (some ⟨w.heap.size + 1, 0, none⟩), T 0, T 1, T 2, T 3, T 4, T 5, T 6, T 7, T 8], []⟩ ∧
    (listed.getD 9 false = false → RInv (cpTab ts vs) cpCons (cpVals w.heap.size (.slice A ts.length c) (.slice B vs.length d)) w0 listed T u ∧ (listed.getD 8 false = true → T 8 = .agg #[T 3, T 7])) ∧
    (listed.getD 9 false = true → NewB u w0.heap.size (w.heap.size + 1) ts vs ∧ Below w.heap.size w u)) ?_ ?_ ?_
  · refine ⟨fun _ => undef, rfl, fun _ => ⟨RInv.start _, fun h => ?_⟩, fun h => ?_⟩ <;> exact absurd h (by decide)
  · rintro listed a u i hi hz hc ⟨T, rfl, h1, h2⟩
    have hlt : i < 10 := ready_lt hi
    have hs : i < listed.size := by rw [hz]; exact ready_lt hi
    have hn := ready_new hi hz
    have n9 : listed.getD 9 false = false := by
      obtain rfl | rfl | rfl | rfl | rfl | rfl | rfl | rfl | rfl | rfl : i = 0 ∨ i = 1 ∨ i = 2 ∨ i = 3 ∨ i = 4 ∨ i = 5 ∨ i = 6 ∨ i = 7 ∨ i = 8 ∨ i = 9 := by omega
      all_goals first | exact hn | exact not_yet hc hn 0 9 (by kernel_rfl)
    obtain ⟨I0, h8⟩ := h1 n9
    clear h1 h2
    by_cases hlt8 : i < 8
    · have n8 : listed.getD 8 false = false := by
        obtain rfl | rfl | rfl | rfl | rfl | rfl | rfl | rfl : i = 0 ∨ i = 1 ∨ i = 2 ∨ i = 3 ∨ i = 4 ∨ i = 5 ∨ i = 6 ∨ i = 7 := by omega
        all_goals exact not_yet hc hn 3 8 (by kernel_rfl)
      have key : ∀ (v : Value) (u' : World), RInv (cpTab ts vs) cpCons (cpVals w.heap.size (.slice A ts.length c) (.slice B vs.length d)) w0 (listed.setIfInBounds i true) (upd T i v) u' → ∀ a', a' = (⟨#[Value.agg #[Value.slice A ts.length c, Value.slice B vs.length d], Value.pointer (some ⟨w.heap.size, 0, none⟩), Value.pointer (some ⟨w.heap.size + 1, 0, none⟩), upd T i v 0, upd T i v 1, upd T i v 2, upd T i v 3, upd T i v 4, upd T i v 5, upd T i v 6, upd T i v 7, upd T i v 8], []⟩ : Act) → _ :=
        fun v u' hr a' ha => (⟨upd T i v, ha, fun _ => ⟨hr, fun h => absurd h (by rw [getD_set hs, if_neg (by omega), n8]; decide)⟩, fun h => absurd h (by rw [getD_set hs, if_neg (by omega), n9]; decide)⟩ : (fun listed a u => ∃ T : Nat → Value, a = (⟨#[Value.agg #[Value.slice A ts.length c, Value.slice B vs.length d], Value.pointer (some ⟨w.heap.size, 0, none⟩), Value.pointer (some ⟨w.heap.size + 1, 0, none⟩), T 0, T 1, T 2, T 3, T 4, T 5, T 6, T 7, T 8], []⟩ : Act) ∧
    (listed.getD 9 false = false → RInv (cpTab ts vs) cpCons (cpVals w.heap.size (.slice A ts.length c) (.slice B vs.length d)) w0 listed T u ∧ (listed.getD 8 false = true → T 8 = .agg #[T 3, T 7])) ∧
    (listed.getD 9 false = true → NewB u w0.heap.size (w.heap.size + 1) ts vs ∧ Below w.heap.size w u)) (listed.setIfInBounds i true) a' u')
      obtain rfl | rfl | rfl | rfl | rfl | rfl | rfl | rfl : i = 0 ∨ i = 1 ∨ i = 2 ∨ i = 3 ∨ i = 4 ∨ i = 5 ∨ i = 6 ∨ i = 7 := by omega
      · refine wpOp_plain rfl rfl (fun K' hK => ?_)
        go_simp
        exact hK _ _ (key _ _ (I0.fresh hs (below_alloc _ _) rfl rfl (World.ownsRow_lit _ #[] 0 (Nat.le_refl _) (by unfold maxLen; omega) rfl)) _ rfl)
      · refine wpOp_plain rfl rfl (fun K' hK => ?_)
        go_simp
        exact hK _ _ (key _ _ (I0.quiet hs (Below.refl _ _) rfl (by rintro x ⟨⟩; rfl)) _ rfl)
      · refine wpOp_plain rfl rfl (fun K' hK => ?_)
        have e1 := I0.val (ready_dep hi (j := 1) (by kernel_rfl)) rfl
        have hx := (I0.below.cell (p := ⟨w.heap.size, 0, none⟩) (by simp; omega)).trans x0
        go_simp
        exact hK _ _ (key (.slice A ts.length c) _ (I0.quiet hs (Below.refl _ _) rfl (by rintro x ⟨⟩; rfl)) _ (by simp [upd, e1]))
      · refine wpOp_plain rfl rfl (fun K' hK => ?_)
        have e2 := I0.val (ready_dep hi (j := 2) (by kernel_rfl)) rfl
        have hl := live_here (tab := cpTab ts vs) (cons := cpCons) (ready_dep hi (j := 0) (by kernel_rfl)) hn rfl
        refine opwp_append_row (.tmp 3) (.tmp 5) rfl w0.heap.size (T 0) [] rfl (I0.own.row 0 [] hl) A c ts e2 (HA.out.step I0.below) (by simp; omega) I0.below.size ?_
        intro v' w' r1 r2 r3
        exact hK _ _ (key v' w' (I0.grow hs hl rfl rfl rfl r1 r2 r3) _ rfl)
      · refine wpOp_plain rfl rfl (fun K' hK => ?_)
        go_simp
        exact hK _ _ (key _ _ (I0.fresh hs (below_alloc _ _) rfl rfl (World.ownsRow_lit _ #[] 0 (Nat.le_refl _) (by unfold maxLen; omega) rfl)) _ rfl)
      · refine wpOp_plain rfl rfl (fun K' hK => ?_)
        go_simp
        exact hK _ _ (key _ _ (I0.quiet hs (Below.refl _ _) rfl (by rintro x ⟨⟩; rfl)) _ rfl)
      · refine wpOp_plain rfl rfl (fun K' hK => ?_)
        have e1 := I0.val (ready_dep hi (j := 5) (by kernel_rfl)) rfl
        have hx := (I0.below.cell (p := ⟨w.heap.size, 1, none⟩) (by simp; omega)).trans x1
        go_simp
        exact hK _ _ (key (.slice B vs.length d) _ (I0.quiet hs (Below.refl _ _) rfl (by rintro x ⟨⟩; rfl)) _ (by simp [upd, e1]))
      · refine wpOp_plain rfl rfl (fun K' hK => ?_)
        have e2 := I0.val (ready_dep hi (j := 6) (by kernel_rfl)) rfl
        have hl := live_here (tab := cpTab ts vs) (cons := cpCons) (ready_dep hi (j := 4) (by kernel_rfl)) hn rfl
        refine opwp_append_row (.tmp 7) (.tmp 9) rfl w0.heap.size (T 4) [] rfl (I0.own.row 4 [] hl) B d vs e2 (HB.out.step I0.below) (by simp; omega) I0.below.size ?_
        intro v' w' r1 r2 r3
        exact hK _ _ (key v' w' (I0.grow hs hl rfl rfl rfl r1 r2 r3) _ rfl)
    · have l3 := (closed_reach hc 0 8 3 (by kernel_rfl))
      have l7 := (closed_reach hc 0 8 7 (by kernel_rfl))
      obtain rfl | rfl : i = 8 ∨ i = 9 := by omega
      · refine wpOp_plain rfl rfl (fun K' hK => ?_)
        obtain ⟨X, cx, e3⟩ := (I0.own.row 3 ts (live_here (ready_dep hi (j := 3) (by kernel_rfl)) n9 rfl)).form
        obtain ⟨Y, cy, e7⟩ := (I0.own.row 7 vs (live_here (ready_dep hi (j := 7) (by kernel_rfl)) n9 rfl)).form
        rw [e3, e7]
        go_simp
        refine hK _ _ ⟨upd T 8 (.agg #[.slice X ts.length cx, .slice Y vs.length cy]), by simp [upd, e3, e7], fun _ => ⟨I0.quiet hs (Below.refl _ _) rfl (by rintro x ⟨⟩), fun _ => by simp [upd, e3, e7]⟩, fun h => absurd h (by rw [getD_set hs, if_neg (by omega), n9]; decide)⟩
      · refine wpOp_plain rfl rfl (fun K' hK => ?_)
        have d8 := ready_dep hi (j := 8) (by kernel_rfl)
        have r3 := I0.own.row 3 ts (live_here (l3 d8) n9 rfl)
        have r7 := I0.own.row 7 vs (live_here (l7 d8) n9 rfl)
        obtain ⟨X, cx, e3⟩ := r3.form
        obtain ⟨Y, cy, e7⟩ := r7.form
        have e8 := h8 d8
        rw [e3] at r3 e8
        rw [e7] at r7 e8
        have hy := Y0.out.step I0.below
        have y0 := hy.cell 0
        have y1 := hy.cell 1
        have y2 := hy.frozen 0
        have y3 := hy.frozen 1
        simp only [List.getElem?_toArray, List.getElem?_cons_zero, List.getElem?_cons_succ] at y0 y1
        go_simp
        refine hK _ _ ⟨T, by rw [e8, e3, e7], fun h => absurd h (by rw [getD_set hs, if_pos rfl]; decide), fun _ => ⟨NewB.store hy rfl r3 r7, ?_⟩⟩
        exact Below.setCell (Below.setCell (B0.out.trans (I0.below.mono B0.out.size)) (by (try simp) <;> omega) _) (by (try simp) <;> omega) _
  · rintro listed a u hz hall ⟨T, rfl, h1, h2⟩
    obtain ⟨⟨X, cx, Y, cy, hb, hr1, hr2⟩, hbw⟩ := h2 (hall 9 (by decide))
    have y0 := hb.cell 0
    have y1 := hb.cell 1
    simp only [List.getElem?_toArray, List.getElem?_cons_zero, List.getElem?_cons_succ] at y0 y1
    go_wp2
    refine bodyPost_ret (v := .agg #[.slice X ts.length cx, .slice Y vs.length cy]) (by simp [results, Tryz.results105, go_sem, y0, y1]) rfl ?_
    exact ⟨X, cx, Y, cy, rfl, RowV.rw hr1, RowV.rw hr2, hbw⟩
end Go.Proofs.YtighalbnpgmdfaaGreat

namespace Go.Proofs.YtighalbnpgmdfaaGreat
open Go.ChangeShapes Go.WideShapes Go.ChangeAt Go.RowKit Go.Sort
open Go.Maps (Keyed int_keyed keyOf_int_mk)
set_option linter.unusedVariables false
set_option linter.unusedSimpArgs false

def bdTab (ts vs : List Int) (p y : Int) : Nat → Option (List Int)
  | 0 => some [] | 3 => some ts | 5 => some [p] | 6 => some (ts ++ [p]) | 7 => some [] | 10 => some vs | 12 => some [y] | 13 => some (vs ++ [y]) | _ => none
def bdCons : Nat → Nat
  | 0 => 3 | 3 => 6 | 5 => 6 | 6 => 15 | 7 => 10 | 10 => 13 | 12 => 13 | 13 => 15 | _ => 16
def bdVals (g : Nat) (x z : Value) (p y : Int) : Nat → Option Value
  | 1 => some (.pointer (some ⟨g, 0, none⟩)) | 2 => some x | 4 => some (.int .i64 p) | 8 => some (.pointer (some ⟨g, 1, none⟩)) | 9 => some z | 11 => some (.int .i64 y) | _ => none

set_option maxRecDepth 100000 in
set_option maxHeartbeats 4000000 in
theorem l4Bind_any (p y : Int) (A B : Option Addr) (c d : Nat) (ts vs : List Int) (hts : ts.length ≤ 1048576) (hvs : vs.length ≤ 1048576) (w : World) (hA : RI w A ts) (hB : RI w B vs) :
    Calls Tryz.prog 114 #[.agg #[.slice A ts.length c, .slice B vs.length d], .int .i64 p, .int .i64 y] w fun e w' => ∃ X c' Y d', e = .returned (.agg #[.slice X (ts.length + 1) c', .slice Y (vs.length + 1) d']) ∧ RW w' X (ts ++ [p]) ∧ RW w' Y (vs ++ [y]) ∧ Below w.heap.size w w' := by
  have B0 := Lib.hid (step (below_alloc w (.cells #[.slice A ts.length c, .slice B vs.length d] 66)) (below_alloc _ (.cells #[.slice none 0 0, .slice none 0 0] 66)))
  have X0 := Lib.hid ((Box.new w #[.slice A ts.length c, .slice B vs.length d] 66).step (below_alloc _ (.cells #[.slice none 0 0, .slice none 0 0] 66)))
  have Y0 := Lib.hid (Box.new (w.alloc (.cells #[.slice A ts.length c, .slice B vs.length d] 66)) #[.slice none 0 0, .slice none 0 0] 66)
  rw [al_size] at Y0
  have HA := Lib.hid (hA.step B0.out)
  have HB := Lib.hid (hB.step B0.out)
  obtain ⟨w0, hw0⟩ : ∃ W, W = (w.alloc (.cells #[.slice A ts.length c, .slice B vs.length d] 66)).alloc (.cells #[.slice none 0 0, .slice none 0 0] 66) := ⟨_, rfl⟩
  have E0 := Lib.hid hw0
  rw [← hw0] at B0 X0 Y0 HA HB
  have hsz : w.heap.size + 2 = w0.heap.size := by rw [hw0, al_size, al_size]
  have x0 := X0.out.cell 0
  have x1 := X0.out.cell 1
  simp only [List.getElem?_toArray, List.getElem?_cons_zero, List.getElem?_cons_succ] at x0 x1
  clear hA hB hw0
  go_enter Tryz.func114, Tryz.ntmps114
  go_upto_region 1 with fail
  rw [← E0.out]
  refine wp_region_inv rfl (by kernel_rfl) (fun listed a u => ∃ T : Nat → Value, a = (⟨#[Value.agg #[Value.slice A ts.length c, Value.slice B vs.length d], Value.int .i64 p, Value.int .i64 y, Value.pointer (some ⟨w.heap.size, 0, none⟩), undef, undef, Value.pointer (some ⟨w.heap.size + 1, 0, none⟩), T 0, T 1, T 2, T 3, T 4, T 5, T 6, T 7, T 8, T 9, T 10, T 11, T 12, T 13, T 14], []⟩ : Act) ∧
    (listed.getD 15 false = false → RInv (bdTab ts vs p y) bdCons (bdVals w.heap.size (.slice A ts.length c) (.slice B vs.length d) p y) w0 listed T u ∧ (listed.getD 14 false = true → T 14 = .agg #[T 6, T 13])) ∧
    (listed.getD 15 false = true → NewB u w0.heap.size (w.heap.size + 1) (ts ++ [p]) (vs ++ [y]) ∧ Below w.heap.size w u)) ?_ ?_ ?_
  · refine ⟨fun _ => undef, rfl, fun _ => ⟨RInv.start _, fun h => ?_⟩, fun h => ?_⟩ <;> exact absurd h (by decide)
  · rintro listed a u i hi hz hc ⟨T, rfl, h1, h2⟩
    have hlt : i < 16 := ready_lt hi
    have hs : i < listed.size := by rw [hz]; exact ready_lt hi
    have hn := ready_new hi hz
    have n9 : listed.getD 15 false = false := by
      obtain rfl | rfl | rfl | rfl | rfl | rfl | rfl | rfl | rfl | rfl | rfl | rfl | rfl | rfl | rfl | rfl : i = 0 ∨ i = 1 ∨ i = 2 ∨ i = 3 ∨ i = 4 ∨ i = 5 ∨ i = 6 ∨ i = 7 ∨ i = 8 ∨ i = 9 ∨ i = 10 ∨ i = 11 ∨ i = 12 ∨ i = 13 ∨ i = 14 ∨ i = 15 := by omega
      all_goals first | exact hn | exact not_yet hc hn 0 15 (by kernel_rfl)
    obtain ⟨I0, h8⟩ := h1 n9
    clear h1 h2
    by_cases hlt8 : i < 14
    · have n8 : listed.getD 14 false = false := by
        obtain rfl | rfl | rfl | rfl | rfl | rfl | rfl | rfl | rfl | rfl | rfl | rfl | rfl | rfl : i = 0 ∨ i = 1 ∨ i = 2 ∨ i = 3 ∨ i = 4 ∨ i = 5 ∨ i = 6 ∨ i = 7 ∨ i = 8 ∨ i = 9 ∨ i = 10 ∨ i = 11 ∨ i = 12 ∨ i = 13 := by omega
        all_goals exact not_yet hc hn 4 14 (by kernel_rfl)
      have key : ∀ (v : Value) (u' : World), RInv (bdTab ts vs p y) bdCons (bdVals w.heap.size (.slice A ts.length c) (.slice B vs.length d) p y) w0 (listed.setIfInBounds i true) (upd T i v) u' → ∀ a', a' = (⟨#[Value.agg #[Value.slice A ts.length c, Value.slice B vs.length d], Value.int .i64 p, Value.int .i64 y, Value.pointer (some ⟨w.heap.size, 0, none⟩), undef, undef, Value.pointer (some ⟨w.heap.size + 1, 0, none⟩), upd T i v 0, upd T i v 1, upd T i v 2, upd T i v 3, upd T i v 4, upd T i v 5, upd T i v 6, upd T i v 7, upd T i v 8, upd T i v 9, upd T i v 10, upd T i v 11, upd T i v 12, upd T i v 13, upd T i v 14], []⟩ : Act) → _ :=
        fun v u' hr a' ha => (⟨upd T i v, ha, fun _ => ⟨hr, fun h => absurd h (by rw [getD_set hs, if_neg (by omega), n8]; decide)⟩, fun h => absurd h (by rw [getD_set hs, if_neg (by omega), n9]; decide)⟩ : (fun listed a u => ∃ T : Nat → Value, a = (⟨#[Value.agg #[Value.slice A ts.length c, Value.slice B vs.length d], Value.int .i64 p, Value.int .i64 y, Value.pointer (some ⟨w.heap.size, 0, none⟩), undef, undef, Value.pointer (some ⟨w.heap.size + 1, 0, none⟩), T 0, T 1, T 2, T 3, T 4, T 5, T 6, T 7, T 8, T 9, T 10, T 11, T 12, T 13, T 14], []⟩ : Act) ∧
    (listed.getD 15 false = false → RInv (bdTab ts vs p y) bdCons (bdVals w.heap.size (.slice A ts.length c) (.slice B vs.length d) p y) w0 listed T u ∧ (listed.getD 14 false = true → T 14 = .agg #[T 6, T 13])) ∧
    (listed.getD 15 false = true → NewB u w0.heap.size (w.heap.size + 1) (ts ++ [p]) (vs ++ [y]) ∧ Below w.heap.size w u)) (listed.setIfInBounds i true) a' u')
      obtain rfl | rfl | rfl | rfl | rfl | rfl | rfl | rfl | rfl | rfl | rfl | rfl | rfl | rfl : i = 0 ∨ i = 1 ∨ i = 2 ∨ i = 3 ∨ i = 4 ∨ i = 5 ∨ i = 6 ∨ i = 7 ∨ i = 8 ∨ i = 9 ∨ i = 10 ∨ i = 11 ∨ i = 12 ∨ i = 13 := by omega
      · refine wpOp_plain rfl rfl (fun K' hK => ?_)
        go_simp
        exact hK _ _ (key _ _ (I0.fresh hs (below_alloc _ _) rfl rfl (World.ownsRow_lit _ #[] 0 (Nat.le_refl _) (by unfold maxLen; omega) rfl)) _ rfl)
      · refine wpOp_plain rfl rfl (fun K' hK => ?_)
        go_simp
        exact hK _ _ (key _ _ (I0.quiet hs (Below.refl _ _) rfl (by rintro x ⟨⟩; rfl)) _ rfl)
      · refine wpOp_plain rfl rfl (fun K' hK => ?_)
        have e1 := I0.val (ready_dep hi (j := 1) (by kernel_rfl)) rfl
        have hx := (I0.below.cell (p := ⟨w.heap.size, 0, none⟩) (by simp; omega)).trans x0
        go_simp
        exact hK _ _ (key (.slice A ts.length c) _ (I0.quiet hs (Below.refl _ _) rfl (by rintro x ⟨⟩; rfl)) _ (by simp [upd, e1]))
      · refine wpOp_plain rfl rfl (fun K' hK => ?_)
        have e2 := I0.val (ready_dep hi (j := 2) (by kernel_rfl)) rfl
        have hl := live_here (tab := bdTab ts vs p y) (cons := bdCons) (ready_dep hi (j := 0) (by kernel_rfl)) hn rfl
        refine opwp_append_row (.tmp 7) (.tmp 9) rfl w0.heap.size (T 0) [] rfl (I0.own.row 0 [] hl) A c ts e2 (HA.out.step I0.below) (by simp; omega) I0.below.size ?_
        intro v' w' r1 r2 r3
        exact hK _ _ (key v' w' (I0.grow hs hl rfl rfl rfl r1 r2 r3) _ rfl)
      · refine wpOp_plain rfl rfl (fun K' hK => ?_)
        go_simp
        exact hK _ _ (key _ _ (I0.quiet hs (Below.refl _ _) rfl (by rintro x ⟨⟩; rfl)) _ rfl)
      · refine wpOp_plain rfl rfl (fun K' hK => ?_)
        have e1 := I0.val (ready_dep hi (j := 4) (by kernel_rfl)) rfl
        rw [e1]
        go_simp
        exact hK _ _ (key _ _ (I0.fresh hs (below_alloc _ _) rfl rfl (World.ownsRow_lit _ #[.int .i64 p] 1 (Nat.le_refl _) (by unfold maxLen; omega) rfl)) _ (by simp [upd, e1]))
      · refine wpOp_plain rfl rfl (fun K' hK => ?_)
        have hl := live_here (tab := bdTab ts vs p y) (cons := bdCons) (ready_dep hi (j := 3) (by kernel_rfl)) hn rfl
        have hl2 := live_here (tab := bdTab ts vs p y) (cons := bdCons) (ready_dep hi (j := 5) (by kernel_rfl)) hn rfl
        have r5 := I0.own.row 5 [p] hl2
        obtain ⟨X5, c5, e5⟩ := r5.form
        rw [e5] at r5
        refine opwp_append_row (.tmp 10) (.tmp 12) rfl w0.heap.size (T 3) ts rfl (I0.own.row 3 ts hl) X5 c5 [p] e5 (ri_of_row r5) (by simp; omega) I0.below.size ?_
        intro v' w' r1 r2 r3
        exact hK _ _ (key v' w' (I0.grow hs hl rfl rfl rfl r1 r2 r3) _ rfl)
      · refine wpOp_plain rfl rfl (fun K' hK => ?_)
        go_simp
        exact hK _ _ (key _ _ (I0.fresh hs (below_alloc _ _) rfl rfl (World.ownsRow_lit _ #[] 0 (Nat.le_refl _) (by unfold maxLen; omega) rfl)) _ rfl)
      · refine wpOp_plain rfl rfl (fun K' hK => ?_)
        go_simp
        exact hK _ _ (key _ _ (I0.quiet hs (Below.refl _ _) rfl (by rintro x ⟨⟩; rfl)) _ rfl)
      · refine wpOp_plain rfl rfl (fun K' hK => ?_)
        have e1 := I0.val (ready_dep hi (j := 8) (by kernel_rfl)) rfl
        have hx := (I0.below.cell (p := ⟨w.heap.size, 1, none⟩) (by simp; omega)).trans x1
        go_simp
        exact hK _ _ (key (.slice B vs.length d) _ (I0.quiet hs (Below.refl _ _) rfl (by rintro x ⟨⟩; rfl)) _ (by simp [upd, e1]))
      · refine wpOp_plain rfl rfl (fun K' hK => ?_)
        have e2 := I0.val (ready_dep hi (j := 9) (by kernel_rfl)) rfl
        have hl := live_here (tab := bdTab ts vs p y) (cons := bdCons) (ready_dep hi (j := 7) (by kernel_rfl)) hn rfl
        refine opwp_append_row (.tmp 14) (.tmp 16) rfl w0.heap.size (T 7) [] rfl (I0.own.row 7 [] hl) B d vs e2 (HB.out.step I0.below) (by simp; omega) I0.below.size ?_
        intro v' w' r1 r2 r3
        exact hK _ _ (key v' w' (I0.grow hs hl rfl rfl rfl r1 r2 r3) _ rfl)
      · refine wpOp_plain rfl rfl (fun K' hK => ?_)
        go_simp
        exact hK _ _ (key _ _ (I0.quiet hs (Below.refl _ _) rfl (by rintro x ⟨⟩; rfl)) _ rfl)
      · refine wpOp_plain rfl rfl (fun K' hK => ?_)
        have e1 := I0.val (ready_dep hi (j := 11) (by kernel_rfl)) rfl
        rw [e1]
        go_simp
        exact hK _ _ (key _ _ (I0.fresh hs (below_alloc _ _) rfl rfl (World.ownsRow_lit _ #[.int .i64 y] 1 (Nat.le_refl _) (by unfold maxLen; omega) rfl)) _ (by simp [upd, e1]))
      · refine wpOp_plain rfl rfl (fun K' hK => ?_)
        have hl := live_here (tab := bdTab ts vs p y) (cons := bdCons) (ready_dep hi (j := 10) (by kernel_rfl)) hn rfl
        have hl2 := live_here (tab := bdTab ts vs p y) (cons := bdCons) (ready_dep hi (j := 12) (by kernel_rfl)) hn rfl
        have r5 := I0.own.row 12 [y] hl2
        obtain ⟨X5, c5, e5⟩ := r5.form
        rw [e5] at r5
        refine opwp_append_row (.tmp 17) (.tmp 19) rfl w0.heap.size (T 10) vs rfl (I0.own.row 10 vs hl) X5 c5 [y] e5 (ri_of_row r5) (by simp; omega) I0.below.size ?_
        intro v' w' r1 r2 r3
        exact hK _ _ (key v' w' (I0.grow hs hl rfl rfl rfl r1 r2 r3) _ rfl)
    · have l3 := (closed_reach hc 0 14 6 (by kernel_rfl))
      have l7 := (closed_reach hc 0 14 13 (by kernel_rfl))
      obtain rfl | rfl : i = 14 ∨ i = 15 := by omega
      · refine wpOp_plain rfl rfl (fun K' hK => ?_)
        obtain ⟨X, cx, e3⟩ := (I0.own.row 6 (ts ++ [p]) (live_here (ready_dep hi (j := 6) (by kernel_rfl)) n9 rfl)).form
        obtain ⟨Y, cy, e7⟩ := (I0.own.row 13 (vs ++ [y]) (live_here (ready_dep hi (j := 13) (by kernel_rfl)) n9 rfl)).form
        rw [e3, e7]
        go_simp
        refine hK _ _ ⟨upd T 14 (.agg #[.slice X (ts ++ [p]).length cx, .slice Y (vs ++ [y]).length cy]), by simp [upd, e3, e7], fun _ => ⟨I0.quiet hs (Below.refl _ _) rfl (by rintro x ⟨⟩), fun _ => by simp [upd, e3, e7]⟩, fun h => absurd h (by rw [getD_set hs, if_neg (by omega), n9]; decide)⟩
      · refine wpOp_plain rfl rfl (fun K' hK => ?_)
        have d8 := ready_dep hi (j := 14) (by kernel_rfl)
        have r3 := I0.own.row 6 (ts ++ [p]) (live_here (l3 d8) n9 rfl)
        have r7 := I0.own.row 13 (vs ++ [y]) (live_here (l7 d8) n9 rfl)
        obtain ⟨X, cx, e3⟩ := r3.form
        obtain ⟨Y, cy, e7⟩ := r7.form
        have e8 := h8 d8
        rw [e3] at r3 e8
        rw [e7] at r7 e8
        have hy := Y0.out.step I0.below
        have y0 := hy.cell 0
        have y1 := hy.cell 1
        have y2 := hy.frozen 0
        have y3 := hy.frozen 1
        simp only [List.getElem?_toArray, List.getElem?_cons_zero, List.getElem?_cons_succ] at y0 y1
        have hst := NewB.store hy rfl r3 r7
        generalize (ts ++ [p]).length = n1 at *
        generalize (vs ++ [y]).length = n2 at *
        go_simp
        refine hK _ _ ⟨T, by rw [e8, e3, e7], fun h => absurd h (by rw [getD_set hs, if_pos rfl]; decide), fun _ => ⟨hst, ?_⟩⟩
        exact Below.setCell (Below.setCell (B0.out.trans (I0.below.mono B0.out.size)) (by (try simp) <;> omega) _) (by (try simp) <;> omega) _
  · rintro listed a u hz hall ⟨T, rfl, h1, h2⟩
    obtain ⟨⟨X, cx, Y, cy, hb, hr1, hr2⟩, hbw⟩ := h2 (hall 15 (by decide))
    have y0 := hb.cell 0
    have y1 := hb.cell 1
    simp only [List.getElem?_toArray, List.getElem?_cons_zero, List.getElem?_cons_succ, List.length_append, List.length_singleton] at y0 y1
    go_wp2
    refine bodyPost_ret (v := .agg #[.slice X (ts.length + 1) cx, .slice Y (vs.length + 1) cy]) (by simp [results, Tryz.results114, go_sem, y0, y1]) rfl ?_
    exact ⟨X, cx, Y, cy, rfl, RowV.rw hr1, RowV.rw hr2, hbw⟩
end Go.Proofs.YtighalbnpgmdfaaGreat
