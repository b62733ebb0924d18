/- The search for bindings with a list of choices, purely: what is still to come, and how many rounds. Conditions: none beyond each theorem's own. A row of choices of the call's own: read, grown, cut back, one of them turned. Conditions: none beyond each theorem's own. The search for matchings with a list of choices: what holds between its rounds. Conditions: none beyond each theorem's own. -/
import Derived.Test.YtighalbnpgmdfaaGreatAnP
import Derived.Test.YtighalbnpgmdfaaGreatAg1
import Derived.Test.YtighalbnpgmdfaaGreatOnceM
import Derived.Maps.AppendAt
import Derived.Test.YtighalbnpgmdfaaGreatAg4
import Derived.Test.YtighalbnpgmdfaaGreatFgt
import Derived.Deep.LoopGhost

namespace Go.Proofs.YtighalbnpgmdfaaGreat
open Go.ChangeShapes Go.WideShapes Go.ChangeAt Go.RowKit Go.Sort
set_option linter.unusedVariables false
set_option linter.unusedSimpArgs false

/-- What comes of the atoms, from fact number n on for the first of them. -/
def enumN (fs : FL) : FL → Nat → PL → List PL
  | [], _, p => [p]
  | a :: ats, n, p => ((fs.drop n).filterMap (mtF p a)).flatMap (enum fs ats)
/-- How many rounds that takes. -/
def wkE (fs : FL) : FL → PL → Nat
  | [], _ => 1
  | a :: ats, p => 1 + (fs.map fun f => 1 + ((mtF p a f).map (wkE fs ats)).getD 0).sum
def wkN (fs : FL) : FL → Nat → PL → Nat
  | [], _, _ => 1
  | a :: ats, n, p => 1 + ((fs.drop n).map fun f => 1 + ((mtF p a f).map (wkE fs ats)).getD 0).sum
theorem enumN_cons (fs : FL) (a : Int × List Int) (ats : FL) (n : Nat) (p : PL) : enumN fs (a :: ats) n p = ((fs.drop n).filterMap (mtF p a)).flatMap (enum fs ats) := rfl
theorem wkN_cons (fs : FL) (a : Int × List Int) (ats : FL) (n : Nat) (p : PL) : wkN fs (a :: ats) n p = 1 + ((fs.drop n).map fun f => 1 + ((mtF p a f).map (wkE fs ats)).getD 0).sum := rfl
theorem enumN_zero (fs ats : FL) (p : PL) : enumN fs ats 0 p = enum fs ats p := by
  cases ats <;> rfl
theorem wkN_zero (fs ats : FL) (p : PL) : wkN fs ats 0 p = wkE fs ats p := by
  cases ats <;> rfl
theorem drop_at (fs : FL) {n : Nat} (hn : n < fs.length) {f : Int × List Int} (hf : fs.getD n (0, []) = f) : fs.drop n = f :: fs.drop (n + 1) := by
  have e : fs[n] = f := by rw [← hf]; simp [List.getD_eq_getElem?_getD, hn]
  rw [← e, List.drop_eq_getElem_cons hn]
theorem enumN_end (fs : FL) (a : Int × List Int) (ats : FL) (p : PL) {n : Nat} (h : fs.length ≤ n) : enumN fs (a :: ats) n p = [] := by
  rw [enumN_cons, List.drop_eq_nil_iff.2 h]
  rfl
theorem wkN_end (fs : FL) (a : Int × List Int) (ats : FL) (p : PL) {n : Nat} (h : fs.length ≤ n) : wkN fs (a :: ats) n p = 1 := by
  rw [wkN_cons, List.drop_eq_nil_iff.2 h]
  rfl
theorem enumN_no (fs : FL) (a : Int × List Int) (ats : FL) (p : PL) {n : Nat} (hn : n < fs.length) {f : Int × List Int} (hf : fs.getD n (0, []) = f) (hm : mtF p a f = none) : enumN fs (a :: ats) n p = enumN fs (a :: ats) (n + 1) p := by
  rw [enumN_cons, enumN_cons, drop_at fs hn hf, List.filterMap_cons_none hm]
theorem enumN_yes (fs : FL) (a : Int × List Int) (ats : FL) (p : PL) {n : Nat} (hn : n < fs.length) {f : Int × List Int} (hf : fs.getD n (0, []) = f) {q : PL} (hm : mtF p a f = some q) : enumN fs (a :: ats) n p = enumN fs ats 0 q ++ enumN fs (a :: ats) (n + 1) p := by
  rw [enumN_zero]
  rw [enumN_cons, enumN_cons, drop_at fs hn hf, List.filterMap_cons_some hm, List.flatMap_cons]
theorem wkN_no (fs : FL) (a : Int × List Int) (ats : FL) (p : PL) {n : Nat} (hn : n < fs.length) {f : Int × List Int} (hf : fs.getD n (0, []) = f) (hm : mtF p a f = none) : wkN fs (a :: ats) n p = wkN fs (a :: ats) (n + 1) p + 1 := by
  rw [wkN_cons, wkN_cons, drop_at fs hn hf, List.map_cons, List.sum_cons, hm]
  simp only [Option.map_none, Option.getD_none]
  omega
theorem wkN_yes (fs : FL) (a : Int × List Int) (ats : FL) (p : PL) {n : Nat} (hn : n < fs.length) {f : Int × List Int} (hf : fs.getD n (0, []) = f) {q : PL} (hm : mtF p a f = some q) : wkN fs (a :: ats) n p = wkN fs ats 0 q + wkN fs (a :: ats) (n + 1) p + 1 := by
  rw [wkN_zero]
  rw [wkN_cons, wkN_cons, drop_at fs hn hf, List.map_cons, List.sum_cons, hm]
  simp only [Option.map_some, Option.getD_some]
  omega

/-- The choices, the last one first: the next fact, and the binding before it. -/
abbrev CL := List (Nat × PL)
def remC (fs ats : FL) : CL → List PL
  | [] => []
  | (n, p) :: r => enumN fs (ats.drop r.length) n p ++ remC fs ats r
def wkC (fs ats : FL) : CL → Nat
  | [] => 0
  | (n, p) :: r => wkN fs (ats.drop r.length) n p + wkC fs ats r
theorem remC_cons (fs ats : FL) (n : Nat) (p : PL) (r : CL) : remC fs ats ((n, p) :: r) = enumN fs (ats.drop r.length) n p ++ remC fs ats r := rfl
theorem wkC_cons (fs ats : FL) (n : Nat) (p : PL) (r : CL) : wkC fs ats ((n, p) :: r) = wkN fs (ats.drop r.length) n p + wkC fs ats r := rfl
theorem remC_start (fs ats : FL) : remC fs ats [(0, ([], []))] = bnds fs ats := by
  show enumN fs (ats.drop 0) 0 ([], []) ++ [] = _
  rw [List.append_nil, enumN_zero, bnds_enum]
  rfl
/-- The last choice is complete. -/
theorem remC_leaf (fs ats : FL) (n : Nat) (p : PL) (r : CL) (h : r.length = ats.length) : remC fs ats ((n, p) :: r) = p :: remC fs ats r ∧ wkC fs ats ((n, p) :: r) = wkC fs ats r + 1 := by
  rw [remC_cons, wkC_cons, h, List.drop_length]
  exact ⟨rfl, by show 1 + wkC fs ats r = _; omega⟩
theorem drop_atA (ats : FL) {k : Nat} (hk : k < ats.length) {a : Int × List Int} (hf : ats.getD k (0, []) = a) : ats.drop k = a :: ats.drop (k + 1) := drop_at ats hk hf
/-- No fact is left for the last choice. -/
theorem remC_end (fs ats : FL) (n : Nat) (p : PL) (r : CL) (h : r.length < ats.length) (hn : fs.length ≤ n) : remC fs ats ((n, p) :: r) = remC fs ats r ∧ wkC fs ats ((n, p) :: r) = wkC fs ats r + 1 := by
  rw [remC_cons, wkC_cons, drop_atA ats h rfl, enumN_end fs _ _ p hn, wkN_end fs _ _ p hn]
  exact ⟨rfl, by omega⟩
/-- The next fact does not match. -/
theorem remC_no (fs ats : FL) (n : Nat) (p : PL) (r : CL) (h : r.length < ats.length) {a : Int × List Int} (ha : ats.getD r.length (0, []) = a) (hn : n < fs.length) {f : Int × List Int} (hf : fs.getD n (0, []) = f) (hm : mtF p a f = none) :
    remC fs ats ((n, p) :: r) = remC fs ats ((n + 1, p) :: r) ∧ wkC fs ats ((n, p) :: r) = wkC fs ats ((n + 1, p) :: r) + 1 := by
  rw [remC_cons, wkC_cons, remC_cons, wkC_cons, drop_atA ats h ha, enumN_no fs a _ p hn hf hm, wkN_no fs a _ p hn hf hm]
  exact ⟨rfl, by omega⟩
/-- The next fact matches. -/
theorem remC_yes (fs ats : FL) (n : Nat) (p : PL) (r : CL) (h : r.length < ats.length) {a : Int × List Int} (ha : ats.getD r.length (0, []) = a) (hn : n < fs.length) {f : Int × List Int} (hf : fs.getD n (0, []) = f) {q : PL} (hm : mtF p a f = some q) :
    remC fs ats ((n, p) :: r) = remC fs ats ((0, q) :: (n + 1, p) :: r) ∧ wkC fs ats ((n, p) :: r) = wkC fs ats ((0, q) :: (n + 1, p) :: r) + 1 := by
  have e1 := enumN_yes fs a (ats.drop (r.length + 1)) p hn hf hm
  have e2 := wkN_yes fs a (ats.drop (r.length + 1)) p hn hf hm
  have d := drop_atA ats h ha
  show enumN fs (ats.drop r.length) n p ++ remC fs ats r = enumN fs (ats.drop (r.length + 1)) 0 q ++ (enumN fs (ats.drop r.length) (n + 1) p ++ remC fs ats r) ∧
    wkN fs (ats.drop r.length) n p + wkC fs ats r = wkN fs (ats.drop (r.length + 1)) 0 q + (wkN fs (ats.drop r.length) (n + 1) p + wkC fs ats r) + 1
  rw [d, e1, e2, List.append_assoc]
  exact ⟨rfl, by omega⟩
end Go.Proofs.YtighalbnpgmdfaaGreat

namespace Go.Proofs.YtighalbnpgmdfaaGreat
open Go.ChangeShapes Go.WideShapes Go.ChangeAt Go.RowKit Go.Sort
set_option linter.unusedVariables false
set_option linter.unusedSimpArgs false

def flatC (l : List (Int × Int)) : List Value := l.flatMap fun st => [Value.int .i64 st.1, Value.int .i64 st.2]
theorem flatC_snoc (l : List (Int × Int)) (a b : Int) : flatC (l ++ [(a, b)]) = flatC l ++ [.int .i64 a, .int .i64 b] := by simp [flatC]
theorem flatC_len : ∀ l : List (Int × Int), (flatC l).length = l.length * 2
  | [] => rfl
  | st :: l => by
    have := flatC_len l
    show ([Value.int .i64 st.1, Value.int .i64 st.2] ++ flatC l).length = _
    rw [List.length_append, this, List.length_cons]
    simp
    omega
theorem flatC_at : ∀ (l : List (Int × Int)) {k : Nat} (hk : k < l.length), (flatC l)[k * 2]? = some (.int .i64 (l.getD k (0, 0)).1) ∧ (flatC l)[k * 2 + 1]? = some (.int .i64 (l.getD k (0, 0)).2)
  | st :: l, 0, _ => ⟨rfl, rfl⟩
  | st :: l, k + 1, hk => by
    have := flatC_at l (k := k) (by simpa using hk)
    have e : flatC (st :: l) = .int .i64 st.1 :: .int .i64 st.2 :: flatC l := rfl
    rw [e, show (k + 1) * 2 = k * 2 + 1 + 1 by omega, show k * 2 + 1 + 1 + 1 = k * 2 + 1 + 1 + 1 by rfl]
    simpa using this
/-- A row of choices of the call's own, not nil. -/
def ZC (w : World) (base : Nat) (g cap : Nat) (l : List (Int × Int)) : Prop :=
  ∃ cur, base ≤ g ∧ w.heap[g]? = some (.cells cur 100 (0, 0)) ∧ l.length ≤ cap ∧ cap ≤ maxLen ∧ cur.size = cap * 2 ∧ cur.toList.take (l.length * 2) = flatC l
theorem ZC.own {w : World} {base g cap : Nat} {l : List (Int × Int)} (h : ZC w base g cap l) : w.ownsRow base 100 2 (.slice (some ⟨g, 0, none⟩) l.length cap) l.length (flatC l) := by
  obtain ⟨cur, h1, h2, h3, h4, h5, h6⟩ := h
  exact ⟨flatC_len l, .inr ⟨g, cap, cur, rfl, h1, h2, h3, h4, h5, h6⟩⟩
theorem ZC.of_own {w : World} {base g cap : Nat} {l : List (Int × Int)} (h : w.ownsRow base 100 2 (.slice (some ⟨g, 0, none⟩) l.length cap) l.length (flatC l)) : ZC w base g cap l := by
  rcases h.2 with ⟨hv, _⟩ | ⟨g', cap', cur, hv, h1, h2, h3, h4, h5, h6⟩
  · cases hv
  · injection hv with e1 e2 e3
    injection e1 with e1
    injection e1 with e1
    subst e1 e3
    exact ⟨cur, h1, h2, h3, h4, h5, h6⟩
theorem ZC.lt {w : World} {base g cap : Nat} {l : List (Int × Int)} (h : ZC w base g cap l) : g < w.heap.size := by
  obtain ⟨cur, h1, h2, _⟩ := h
  exact (Array.getElem?_eq_some_iff.1 h2).1
theorem ZC.keep {w w' : World} {base g cap : Nat} {l : List (Int × Int)} (h : ZC w base g cap l) (e : w'.heap[g]? = w.heap[g]?) : ZC w' base g cap l := by
  obtain ⟨cur, h1, h2, r⟩ := h
  exact ⟨cur, h1, e.trans h2, r⟩
theorem ZC.typed {w : World} {base g cap : Nat} {l : List (Int × Int)} (h : ZC w base g cap l) : ∃ cs fr, w.heap[g]? = some (Obj.cells cs 100 fr) := by
  obtain ⟨cur, h1, h2, _⟩ := h
  exact ⟨_, _, h2⟩
theorem ZC.cells {w : World} {base g cap : Nat} {l : List (Int × Int)} (h : ZC w base g cap l) {k : Nat} (hk : k < l.length) {a b : Int} (hf : l.getD k (0, 0) = (a, b)) :
    w.cell? ⟨g, k * 2, none⟩ = some (.int .i64 a) ∧ w.cell? ⟨g, k * 2 + 1, none⟩ = some (.int .i64 b) := by
  have e := flatC_at l hk
  rw [hf] at e
  have q1 := World.ownsRow.cells h.own (g := g) rfl _ _ e.1
  have q2 := World.ownsRow.cells h.own (g := g) rfl _ _ e.2
  rw [add_eq] at q1 q2
  exact ⟨by simpa using q1, by simpa using q2⟩
theorem ZC.frozen {w : World} {base g cap : Nat} {l : List (Int × Int)} (h : ZC w base g cap l) (i : Nat) : w.frozen? ⟨g, i, none⟩ = false := by
  obtain ⟨cur, h1, h2, _⟩ := h
  simp [World.frozen?, h2]
/-- The row cut back. -/
theorem flatC_take : ∀ (l : List (Int × Int)) (n : Nat), flatC (l.take n) = (flatC l).take (n * 2)
  | [], n => by simp [flatC]
  | st :: l, 0 => by simp [flatC]
  | st :: l, n + 1 => by
    have := flatC_take l n
    have e : flatC (st :: l) = .int .i64 st.1 :: .int .i64 st.2 :: flatC l := rfl
    rw [List.take_succ_cons, e, show (n + 1) * 2 = n * 2 + 1 + 1 by omega, List.take_succ_cons, List.take_succ_cons, ← this]
    rfl
theorem ZC.take {w : World} {base g cap : Nat} {l : List (Int × Int)} (h : ZC w base g cap l) (n : Nat) : ZC w base g cap (l.take n) := by
  obtain ⟨cur, h1, h2, h3, h4, h5, h6⟩ := h
  have hl : (l.take n).length ≤ l.length := by rw [List.length_take]; omega
  refine ⟨cur, h1, h2, by omega, h4, h5, ?_⟩
  rw [flatC_take, ← h6, List.take_take, List.length_take]
  congr 1
  by_cases h : n ≤ l.length
  · rw [Nat.min_eq_left h, Nat.min_eq_left (by omega)]
  · rw [Nat.min_eq_right (by omega), Nat.min_eq_right (by omega)]
/-- The first number of a choice turned. -/
theorem flatC_set : ∀ (l : List (Int × Int)) (k : Nat) (x : Int), k < l.length → flatC (l.set k (x, (l.getD k (0, 0)).2)) = (flatC l).set (k * 2) (.int .i64 x)
  | st :: l, 0, x, _ => rfl
  | st :: l, k + 1, x, hk => by
    have := flatC_set l k x (by simpa using hk)
    have e : flatC (st :: l) = .int .i64 st.1 :: .int .i64 st.2 :: flatC l := rfl
    rw [List.set_cons_succ, e, show (k + 1) * 2 = k * 2 + 1 + 1 by omega, List.set_cons_succ, List.set_cons_succ, ← this]
    rfl
theorem take_setL {α : Type} (l : List α) (n k : Nat) (x : α) (hk : k < n) : (l.set k x).take n = (l.take n).set k x := by
  rw [List.take_set]
theorem ZC.set {w : World} {base g cap : Nat} {l : List (Int × Int)} (h : ZC w base g cap l) {k : Nat} (hk : k < l.length) (x : Int) : ZC (w.setCell ⟨g, k * 2, none⟩ (.int .i64 x)) base g cap (l.set k (x, (l.getD k (0, 0)).2)) := by
  obtain ⟨cur, h1, h2, h3, h4, h5, h6⟩ := h
  have hlt := (Array.getElem?_eq_some_iff.1 h2).1
  refine ⟨cur.setIfInBounds (k * 2) (.int .i64 x), h1, ?_, by rw [List.length_set]; exact h3, h4, by rw [Array.size_setIfInBounds]; exact h5, ?_⟩
  · have h' : w.heap[g] = .cells cur 100 (0, 0) := by simpa [Array.getElem?_eq_getElem hlt] using h2
    show (w.heap.modify g _)[g]? = _
    rw [Array.getElem?_eq_getElem (by simpa using hlt), Array.getElem_modify_self, h']
    rfl
  · rw [Array.toList_setIfInBounds, List.length_set, take_setL _ _ _ _ (by omega), h6, flatC_set l k x hk]

set_option maxRecDepth 100000 in
theorem choice_info : (Tryz.prog.info? 100).map (fun i => (i.zero, i.size, i.bytes)) = some (some (.agg #[.int .i64 0, .int .i64 0]), 2, 16) := by kernel_rfl
/-- append(v, y) of one choice, in a new block. -/
theorem wpList_pushC {P : Program} {W : World} {ops : Array Oper} {rest : List Oper} {o : Oper} {a : Act} {Q : Exit → Act → World → Prop} (hgd : o.guard = none) (s x : Operand) (t : TypeId)
    (ho : o.op = .call { callee := .builtin .append, args := #[s, x], argTypes := #[t, t] })
    (i : TypeInfo) (ht : P.underlying t = some (.slice 100)) (hi : P.info? 100 = some i) (hz : i.zero = some (.agg #[.int .i64 0, .int .i64 0])) (hz1 : i.size = 2) (hz2 : i.bytes = 16)
    {base g cap : Nat} {l : List (Int × Int)} {y1 y2 : Int} (hs : a.eval s = .slice (some ⟨g, 0, none⟩) l.length cap) (hx : a.eval x = .slice (some ⟨W.heap.size, 0, none⟩) 1 1)
    (hown : ZC W base g cap l) (hbase : base ≤ W.heap.size) (hn : l.length + 1 ≤ 1048580)
    (h : ∀ g' cap' w', ZC w' base g' cap' (l ++ [(y1, y2)]) → W.grownBy w' (some g) → (g' = g ∨ W.heap.size ≤ g') → wpList P ops Q rest (a.put o.dst (.slice (some ⟨g', 0, none⟩) (l.length + 1) cap')) w') :
    wpList P ops Q (o :: rest) a (W.alloc (.cells #[.int .i64 y1, .int .i64 y2] 100)) := by
  refine wpList_append_own_at (P := P) _ hgd s x t ho base 100 i _ 2 16 ht hi hz hz1 hz2 rfl (by omega) _ l.length _ hs (hown.own.alloc _) ⟨W.heap.size, 0, none⟩ 1 1 [.int .i64 y1, .int .i64 y2] hx rfl
    (World.news_of_block (cs := #[.int .i64 y1, .int .i64 y2]) (t := 100) (fr := (0, 0)) (heap_alloc_new W _)) (by simp [Value.oneCell'])
    (by unfold maxLen; omega) (by omega) (by simp; omega) ?_
  intro v' w' hown' hg _ hloc
  have hg2 : W.grownBy w' (some g) := (World.grownBy_alloc W _ _).trans hg
  rcases hown'.2 with ⟨_, h0⟩ | ⟨g', cap', cur, hv, _⟩
  · omega
  · subst hv
    refine h g' cap' w' (ZC.of_own (by rw [flatC_snoc, List.length_append]; exact hown')) hg2 ?_
    have hl : (some g' = some g ∨ some g' = some (W.alloc (.cells #[.int .i64 y1, .int .i64 y2] 100)).heap.size) := by
      simpa [Value.ownBlock] using hloc
    rcases hl with e | e
    · injection e with e; exact .inl e
    · injection e with e; rw [al_size] at e; exact .inr (by omega)
end Go.Proofs.YtighalbnpgmdfaaGreat

namespace Go.Proofs.YtighalbnpgmdfaaGreat
open Go.ChangeShapes Go.WideShapes Go.ChangeAt Go.RowKit Go.Sort
set_option linter.unusedVariables false
set_option linter.unusedSimpArgs false

/-- The choices as they lie in memory. -/
def stL (st : CL) : List (Int × Int) := st.reverse.map fun x => ((x.1 : Int), (x.2.1.length : Int))
theorem stL_len (st : CL) : (stL st).length = st.length := by simp [stL]
theorem stL_cons (n : Nat) (p : PL) (r : CL) : stL ((n, p) :: r) = stL r ++ [((n : Int), (p.1.length : Int))] := by simp [stL]
theorem stL_top (n : Nat) (p : PL) (r : CL) : (stL ((n, p) :: r)).getD r.length (0, 0) = ((n : Int), (p.1.length : Int)) := by
  rw [stL_cons, List.getD_eq_getElem?_getD, List.getElem?_append_right (by rw [stL_len]; exact Nat.le_refl _), stL_len]
  simp
theorem stL_pop (n : Nat) (p : PL) (r : CL) : (stL ((n, p) :: r)).take r.length = stL r := by
  rw [stL_cons, List.take_append_of_le_length (by rw [stL_len]; exact Nat.le_refl _), List.take_of_length_le (by rw [stL_len]; exact Nat.le_refl _)]
theorem stL_set (n : Nat) (p : PL) (r : CL) : (stL ((n, p) :: r)).set r.length ((n : Int) + 1, (p.1.length : Int)) = stL ((n + 1, p) :: r) := by
  rw [stL_cons, stL_cons, List.set_append_right _ _ (by rw [stL_len]; exact Nat.le_refl _), stL_len]
  simp
/-- The choices fit the matching q: each grows out of the one before. -/
def WfC (fs ats : FL) : CL → PL → Prop
  | [], _ => True
  | (n, p) :: r, q => Pre p q ∧ Gd p ∧ n ≤ fs.length ∧ r.length ≤ ats.length ∧ WfC fs ats r p
theorem Pre.cut {p q : PL} (h : Pre p q) (hp : p.1.length = p.2.length) : cutP p.1.length q = p := by
  obtain ⟨u, v, rfl, _⟩ := h
  unfold cutP
  have e1 : (p.1 ++ u).take p.1.length = p.1 := by simp
  have e2 : (p.2 ++ v).take p.1.length = p.2 := by rw [hp]; simp
  simp only [e1, e2]
theorem Pre.len {p q : PL} (h : Pre p q) : p.1.length ≤ q.1.length := by
  obtain ⟨u, v, rfl, _⟩ := h
  simp
theorem gd_wf {q : PL} (h : Gd q) : ∀ x ∈ q.1, wf x := fun x hx => by
  have := allB_mem h.2.2.1 hx
  exact WalkArith.wf_i64 ⟨by omega, by omega⟩
theorem MS.lo {w : World} {base base' g : Nat} {p0 q : PL} {ads : List Int} (h : MS w base g p0 q ads) (hb : base' ≤ base) : MS w base' g p0 q ads := by
  obtain ⟨h1, mb, n, v, D, hB, hM, hR, hL, hn, hmb, hgb⟩ := h
  exact ⟨h1, mb, n, v, D, hB, hM, ownsRow_low hR hb, hL, hn, by omega, by omega⟩
theorem MS.kept {w w' : World} {base g mb' : Nat} {p0 q : PL} {ads : List Int} (h : MS w base g p0 q ads) (hg : w.grownBy w' (some mb')) (hb : mb' < base) : MS w' base g p0 q ads := by
  obtain ⟨h1, mb, n, v, D, hB, hM, hR, hL, hn, hmb, hgb⟩ := h
  refine ⟨h1, mb, n, v, D, (hg.block g hB.lt (fun e => by injection e; omega)).trans hB, World.ownsMap.kept hM hg (fun e => by injection e; omega), ?_, hL, hn, hmb, hgb⟩
  exact World.ownsRow.kept hR hg (by
    cases e : v.ownBlock with
    | none => exact .inl rfl
    | some k =>
      refine .inr fun e2 => ?_
      have := (World.ownsRow.lt hR k e).1
      injection e2 with e2
      omega)
/-- What may have turned since w: the block mb. -/
theorem fr_trn {w a b : World} {mb : Nat} (h : w.grownBy a (some mb)) (d : Trn w.heap.size a b) : w.grownBy b (some mb) :=
  ⟨d.os.trans h.os, d.tape.trans h.tape, d.output.trans h.output, Nat.le_trans h.size d.size, fun i hi hn => (d.block i (Nat.lt_of_lt_of_le hi h.size) (.inl hi)).trans (h.block i hi hn)⟩
theorem fr_grown {w a b : World} {mb : Nat} {row : Option Nat} (h : w.grownBy a (some mb)) (d : a.grownBy b row) (hr : ∀ j, row = some j → j = mb ∨ w.heap.size ≤ j) : w.grownBy b (some mb) :=
  ⟨d.os.trans h.os, d.tape.trans h.tape, d.output.trans h.output, Nat.le_trans h.size d.size, fun i hi hn => (d.block i (Nat.lt_of_lt_of_le hi h.size) (fun e => by
    rcases hr i e.symm with h1 | h1
    · exact hn (by rw [h1])
    · omega)).trans (h.block i hi hn)⟩
theorem fr_below {w a b : World} {mb : Nat} (h : w.grownBy a (some mb)) (d : Below a.heap.size a b) : w.grownBy b (some mb) :=
  ⟨d.os.trans h.os, d.tape.trans h.tape, d.output.trans h.output, Nat.le_trans h.size d.size, fun i hi hn => (d.block i (Nat.lt_of_lt_of_le hi h.size)).trans (h.block i hi hn)⟩
theorem fr_set {w a : World} {mb : Nat} {p : Addr} {v : Value} (h : w.grownBy a (some mb)) (hp : w.heap.size ≤ p.block) : w.grownBy (a.setCell p v) (some mb) :=
  ⟨h.os, h.tape, h.output, by rw [set_size]; exact h.size, fun i hi hn => (Below.heap_setCell _ _ _ _ (by omega)).trans (h.block i hi hn)⟩
theorem Ints.fr {w a : World} {mb B0 : Nat} {A : Option Addr} {xs : List Int} (h : Ints w 0 B0 A xs) (d : w.grownBy a (some mb)) (h1 : B0 ≤ mb) (h2 : B0 ≤ w.heap.size) : Ints a 0 B0 A xs :=
  h.keep fun b _ hb => d.block b (by omega) (fun e => by injection e; omega)
theorem Facts.fr {w a : World} {mb B0 : Nat} {A : Option Addr} {fs : FL} (h : Facts w 0 B0 A fs) (d : w.grownBy a (some mb)) (h1 : B0 ≤ mb) (h2 : B0 ≤ w.heap.size) : Facts a 0 B0 A fs :=
  h.keep fun b _ hb => d.block b (by omega) (fun e => by injection e; omega)
theorem mgo_part {p q : PL} {ts vs : List Int} {k : Nat} (h : mgo p (ts.take k) (vs.take k) = some q) (hp : Gd p) (hv : allB 0 9 vs = true) : Pre p q ∧ Gd q :=
  ⟨(mgo_pre _ _ _ _ h).1, mgo_gd _ _ _ _ h hp (allB_of fun x hx => allB_mem hv (List.mem_of_mem_take hx))⟩
theorem matG_mtF {p : PL} (hp : p.1.length = p.2.length) (r : Int) (ts : List Int) (r' : Int) (vs : List Int) : matG p r ts r' vs = mtF p (r, ts) (r', vs) := by
  unfold matG mtF matB
  by_cases h : r = r' ∧ ts.length = vs.length
  · rw [if_pos h, if_pos ⟨h.1, h.2, hp⟩]
  · rw [if_neg h, if_neg fun k => h ⟨k.1, k.2.1⟩]
theorem remC_mem {fs ats : FL} {all done : List PL} {p : PL} {r : CL} {n : Nat} (h : done ++ remC fs ats ((n, p) :: r) = all) (hr : r.length = ats.length) : p ∈ all ∧ done ++ [p] ++ remC fs ats r = all := by
  rw [(remC_leaf fs ats n p r hr).1] at h
  rw [← h]
  exact ⟨by simp, by simp⟩
theorem small_gd {q : PL} (h : Gd q) : q.1.length ≤ 8 := by
  have h1 := nodup_nat 18 (q.1.map Int.toNat) (by
    refine List.pairwise_map.2 (List.Pairwise.imp_of_mem ?_ h.2.1)
    intro a b ha hb hab e
    have h2 := allB_mem h.2.2.1 ha
    have h3 := allB_mem h.2.2.1 hb
    exact hab (by omega)) (fun x hx => by
    rw [List.mem_map] at hx
    obtain ⟨a, ha, rfl⟩ := hx
    have h2 := allB_mem h.2.2.1 ha
    omega)
  have h2 := nodup_nat 8 (q.1.map fun x => x.toNat - 10) (by
    refine List.pairwise_map.2 (List.Pairwise.imp_of_mem ?_ h.2.1)
    intro a b ha hb hab e
    have h2 := allB_mem h.2.2.1 ha
    have h3 := allB_mem h.2.2.1 hb
    exact hab (by omega)) (fun x hx => by
    rw [List.mem_map] at hx
    obtain ⟨a, ha, rfl⟩ := hx
    have h2 := allB_mem h.2.2.1 ha
    omega)
  simpa using h2
theorem step_callP3 {P : Program} {ops : Array Oper} {o : Oper} {a : Act} {w : World} {K : Act → World → Prop} {Q : Exit → Act → World → Prop} {E : Prop}
    (hgd : o.guard = none) (g : FuncId) (x y z : Operand) (t t' t'' : TypeId) (ho : o.op = .call { callee := .value (.func g), args := #[x, y, z], argTypes := #[t, t', t''] })
    (vx vy vz : Value) (hx : a.eval x = vx) (hy : a.eval y = vy) (hz : a.eval z = vz) (hcf : (callFunc g #[vx, vy, vz]).run P w = .ok (.enter g #[vx, vy, vz]) w) {R : Value → World → Prop} (hc : Calls P g #[vx, vy, vz] w fun e w' => ∃ v, e = .returned v ∧ R v w') (hK : ∀ v w', R v w' → K (a.put o.dst v) w') :
    if Region.wanted o (yielded ops a.tmps) = true then Oper.wp P o a w K Q else E := by
  have hw : Region.wanted o (yielded ops a.tmps) = true := by simp [Region.wanted, hgd]
  rw [if_pos hw]
  unfold Oper.wp
  have hf : a.eval (.func g) = Value.func (.func g) #[] #[] := rfl
  have e : (execOp a.eval o).run P w = .ok (.enter g #[vx, vy, vz]) w := by
    rw [← hx, ← hy, ← hz] at hcf ⊢
    simpa [go_sem, execOp, ho, resolve, invoke] using hcf
  rw [e, Oper.upon_enter]
  refine hc.mono ?_
  rintro _ w' ⟨v, rfl, d⟩
  exact hK v w' d
theorem ZC.new (w : World) (lo : Nat) (h : lo ≤ w.heap.size) : ZC (w.alloc (.cells #[.int .i64 0, .int .i64 0] 100)) lo w.heap.size 1 [(0, 0)] :=
  ⟨#[.int .i64 0, .int .i64 0], h, heap_alloc_new w _, by simp, by unfold maxLen; omega, rfl, rfl⟩
theorem ZC.trn {base lo g cap : Nat} {w w' : World} {l : List (Int × Int)} (h : ZC w lo g cap l) (d : Trn base w w') : ZC w' lo g cap l := by
  obtain ⟨cs, fr, e⟩ := h.typed
  exact h.keep (d.block g h.lt (.inr ⟨cs, _, fr, e, by decide, by decide⟩))
theorem MS.setC {w : World} {base g k i : Nat} {p0 q : PL} {ads : List Int} {u : Value} {cs : Array Value} {fr : Nat × Nat} (h : MS w base g p0 q ads) (hk : w.heap[k]? = some (Obj.cells cs 100 fr)) : MS (w.setCell ⟨k, i, none⟩ u) base g p0 q ads := by
  obtain ⟨h1, mb, n, v, D, hB, hM, hR, hL, hn, hmb, hgb⟩ := h
  have e1 : g ≠ k := fun e => by
    unfold Box at hB
    rw [e, hk] at hB
    injection hB with hB
    injection hB with _ h2
    exact absurd h2 (by decide)
  have e2 : mb ≠ k := fun e => by
    obtain ⟨es, ck, h2⟩ := ownsMap_block hM
    rw [e, hk] at h2
    cases h2
  refine ⟨h1, mb, n, v, D, hB.set_other e1, ownsMap_trn hM (fun es ck e => Below.heap_setCell _ _ _ _ e2), ?_, hL, hn, hmb, hgb⟩
  refine ⟨hR.1, ?_⟩
  rcases hR.2 with hn | ⟨j, cap, cur, hv, hbk, hj, r⟩
  · exact .inl hn
  · refine .inr ⟨j, cap, cur, hv, hbk, ?_, r⟩
    rw [Below.heap_setCell _ _ _ _ (fun e => by
      have e' : j = k := e
      rw [e', hk] at hj
      injection hj with hj
      injection hj with _ h2
      exact absurd h2 (by decide))]
    exact hj
/-- A row of choices has grown. -/
theorem MS.grownC {w w' : World} {base g k : Nat} {p0 q : PL} {ads : List Int} (h : MS w base g p0 q ads) (hg : w.grownBy w' (some k)) (ht : ∃ cs fr, w.heap[k]? = some (Obj.cells cs 100 fr)) : MS w' base g p0 q ads := by
  obtain ⟨cs, fr, hk⟩ := ht
  obtain ⟨h1, mb, n, v, D, hB, hM, hR, hL, hn, hmb, hgb⟩ := h
  have e1 : g ≠ k := fun e => by
    unfold Box at hB
    rw [e, hk] at hB
    injection hB with hB
    injection hB with _ h2
    exact absurd h2 (by decide)
  have e2 : mb ≠ k := fun e => by
    obtain ⟨es, ck, h2⟩ := ownsMap_block hM
    rw [e, hk] at h2
    cases h2
  refine ⟨h1, mb, n, v, D, (hg.block g hB.lt (fun e => e1 (by injection e))).trans hB, World.ownsMap.kept hM hg (fun e => e2 (by injection e)), ?_, hL, hn, hmb, hgb⟩
  refine World.ownsRow.kept hR hg ?_
  rcases hR.2 with ⟨hv, _⟩ | ⟨j, cap, cur, hv, hbk, hj, r⟩
  · exact .inl (by rw [hv]; rfl)
  · refine .inr fun e => ?_
    rw [hv] at e
    have e' : j = k := own_some e
    rw [e', hk] at hj
    injection hj with hj
    injection hj with _ h2
    exact absurd h2 (by decide)

/-- A row of choices of the call's own, or none. -/
def ZN (w : World) (base : Nat) (A : Option Addr) (cap : Nat) (l : List (Int × Int)) : Prop := (A = none ∧ cap = 0 ∧ l = []) ∨ ∃ g, A = some ⟨g, 0, none⟩ ∧ ZC w base g cap l
theorem ZN.own {w : World} {base cap : Nat} {A : Option Addr} {l : List (Int × Int)} (h : ZN w base A cap l) : w.ownsRow base 100 2 (.slice A l.length cap) l.length (flatC l) := by
  rcases h with ⟨rfl, rfl, rfl⟩ | ⟨g, rfl, h⟩
  · exact World.ownsRow_nil w base 100 2
  · exact h.own
theorem ZN.trn {base lo cap : Nat} {A : Option Addr} {w w' : World} {l : List (Int × Int)} (h : ZN w lo A cap l) (d : Trn base w w') : ZN w' lo A cap l := h.imp id fun ⟨g, e, h⟩ => ⟨g, e, h.trn d⟩
theorem ZN.take {w : World} {base cap : Nat} {A : Option Addr} {l : List (Int × Int)} (h : ZN w base A cap l) (n : Nat) : ZN w base A cap (l.take n) := h.imp (fun ⟨a, b, c⟩ => ⟨a, b, by rw [c]; simp⟩) fun ⟨g, e, h⟩ => ⟨g, e, h.take n⟩
theorem ZN.keep {w w' : World} {base cap : Nat} {A : Option Addr} {l : List (Int × Int)} (h : ZN w base A cap l) (e : ∀ b, base ≤ b → b < w.heap.size → w'.heap[b]? = w.heap[b]?) : ZN w' base A cap l :=
  h.imp id fun ⟨g, e', h⟩ => ⟨g, e', h.keep (e g (by obtain ⟨_, h1, _⟩ := h; exact h1) h.lt)⟩
theorem MS.keepB {w w' : World} {base g : Nat} {p0 q : PL} {ads : List Int} (h : MS w base g p0 q ads) (hk : ∀ b, base ≤ b → b < w.heap.size → w'.heap[b]? = w.heap[b]?) : MS w' base g p0 q ads := by
  obtain ⟨h1, mb, n, v, D, hB, hM, hR, hL, hn, hmb, hgb⟩ := h
  refine ⟨h1, mb, n, v, D, (hk g hgb hB.lt).trans hB, ownsMap_trn hM (fun es ck e => hk mb hmb (Array.getElem?_eq_some_iff.1 e).1), ⟨hR.1, ?_⟩, hL, hn, hmb, hgb⟩
  rcases hR.2 with hn | ⟨j, cap, cur, hv, hbk, hj, r⟩
  · exact .inl hn
  · exact .inr ⟨j, cap, cur, hv, hbk, (hk j hbk (Array.getElem?_eq_some_iff.1 hj).1).trans hj, r⟩
theorem ZN.ms {w w' : World} {base base' g cap : Nat} {A : Option Addr} {l : List (Int × Int)} {n : Nat} {p0 q : PL} {ads : List Int} (h : ZN w base A cap l) (hm : MS w base' g p0 q ads) (hg : w.grownBy w' ((Value.slice A n cap).ownBlock)) : MS w' base' g p0 q ads := by
  rcases h with ⟨rfl, _, _⟩ | ⟨k, rfl, h⟩
  · exact hm.keepB fun b _ hb => hg.block b hb (by simp [Value.ownBlock])
  · exact hm.grownC hg h.typed
theorem ZN.below {w w' : World} {base cap : Nat} {A : Option Addr} {l : List (Int × Int)} {n : Nat} (h : ZN w base A cap l) (hb : base ≤ w.heap.size) (hg : w.grownBy w' ((Value.slice A n cap).ownBlock)) : Below base w w' := by
  refine ⟨hg.os, hg.tape, hg.output, hg.size, fun b hb2 => hg.block b (by omega) fun e => ?_⟩
  rcases h with ⟨rfl, _, _⟩ | ⟨k, rfl, h⟩
  · simp [Value.ownBlock] at e
  · obtain ⟨_, h1, _⟩ := h
    simp [Value.ownBlock] at e
    omega
/-- append(v, y) of one choice, to a row or to none. -/
theorem wpList_pushN {P : Program} {W : World} {ops : Array Oper} {rest : List Oper} {o : Oper} {a : Act} {Q : Exit → Act → World → Prop} (hgd : o.guard = none) (s x : Operand) (t : TypeId)
    (ho : o.op = .call { callee := .builtin .append, args := #[s, x], argTypes := #[t, t] })
    (i : TypeInfo) (ht : P.underlying t = some (.slice 100)) (hi : P.info? 100 = some i) (hz : i.zero = some (.agg #[.int .i64 0, .int .i64 0])) (hz1 : i.size = 2) (hz2 : i.bytes = 16)
    {base cap : Nat} {A : Option Addr} {l : List (Int × Int)} {y1 y2 : Int} (hs : a.eval s = .slice A l.length cap) (hx : a.eval x = .slice (some ⟨W.heap.size, 0, none⟩) 1 1)
    (hown : ZN W base A cap l) (hbase : base ≤ W.heap.size) (hn : l.length + 1 ≤ 1048580)
    (h : ∀ g' cap' w', ZC w' base g' cap' (l ++ [(y1, y2)]) → (∀ b, b < W.heap.size → A ≠ some ⟨b, 0, none⟩ → w'.heap[b]? = W.heap[b]?) → W.grownBy w' ((Value.slice A l.length cap).ownBlock) → wpList P ops Q rest (a.put o.dst (.slice (some ⟨g', 0, none⟩) (l.length + 1) cap')) w') :
    wpList P ops Q (o :: rest) a (W.alloc (.cells #[.int .i64 y1, .int .i64 y2] 100)) := by
  refine wpList_append_own_at (P := P) _ hgd s x t ho base 100 i _ 2 16 ht hi hz hz1 hz2 rfl (by omega) _ l.length _ hs (hown.own.alloc _) ⟨W.heap.size, 0, none⟩ 1 1 [.int .i64 y1, .int .i64 y2] hx rfl
    (World.news_of_block (cs := #[.int .i64 y1, .int .i64 y2]) (t := 100) (fr := (0, 0)) (heap_alloc_new W _)) (by simp [Value.oneCell'])
    (by unfold maxLen; omega) (by omega) (by simp; omega) ?_
  intro v' w' hown' hg _ hloc
  have hg2 := (World.grownBy_alloc W (.cells #[.int .i64 y1, .int .i64 y2] 100) ((Value.slice A l.length cap).ownBlock)).trans hg
  rcases hown'.2 with ⟨_, h0⟩ | ⟨g', cap', cur, hv, _⟩
  · omega
  · subst hv
    refine h g' cap' w' (ZC.of_own (by rw [flatC_snoc, List.length_append]; exact hown')) (fun b hb hA => hg2.block b hb fun e => hA ?_) hg2
    rcases hown with ⟨rfl, _, _⟩ | ⟨g, rfl, _⟩
    · simp [Value.ownBlock] at e
    · simp [Value.ownBlock] at e
      rw [e]
end Go.Proofs.YtighalbnpgmdfaaGreat
