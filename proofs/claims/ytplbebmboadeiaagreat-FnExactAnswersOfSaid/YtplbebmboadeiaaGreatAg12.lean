/- The search for bindings with a list of choices, purely: what is still to come, and how many rounds. Conditions: none beyond each theorem's own. A row of choices of the call's own: read, grown, cut back, one of them turned. Conditions: none beyond each theorem's own. The search with a list of choices: what holds between its rounds. Conditions: none beyond each theorem's own. -/
import Derived.Test.YtplbebmboadeiaaGreatAnP
import Derived.Test.YtplbebmboadeiaaGreatAg1
import Derived.Test.YtplbebmboadeiaaGreatOnceM
import Derived.Maps.AppendAt
import Derived.Test.YtplbebmboadeiaaGreatAg11
import Derived.Deep.LoopGhost

namespace Go.Proofs.YtplbebmboadeiaaGreat
open Go.ChangeShapes Go.WideShapes Go.ChangeAt Go.RowKit Go.Sort
set_option linter.unusedVariables false
set_option linter.unusedSimpArgs false

/-- What comes of the atoms, from fact number n on for the first of them. -/
def enumN (fs : FL) : FL → Nat → PL → List PL
  | [], _, p => [p]
  | a :: ats, n, p => ((fs.drop n).filterMap (mtF p a)).flatMap (enum fs ats)
/-- How many rounds that takes. -/
def wkE (fs : FL) : FL → PL → Nat
  | [], _ => 1
  | a :: ats, p => 1 + (fs.map fun f => 1 + ((mtF p a f).map (wkE fs ats)).getD 0).sum
def wkN (fs : FL) : FL → Nat → PL → Nat
  | [], _, _ => 1
  | a :: ats, n, p => 1 + ((fs.drop n).map fun f => 1 + ((mtF p a f).map (wkE fs ats)).getD 0).sum
theorem enumN_cons (fs : FL) (a : Int × List Int) (ats : FL) (n : Nat) (p : PL) : enumN fs (a :: ats) n p = ((fs.drop n).filterMap (mtF p a)).flatMap (enum fs ats) := rfl
theorem wkN_cons (fs : FL) (a : Int × List Int) (ats : FL) (n : Nat) (p : PL) : wkN fs (a :: ats) n p = 1 + ((fs.drop n).map fun f => 1 + ((mtF p a f).map (wkE fs ats)).getD 0).sum := rfl
theorem enumN_zero (fs ats : FL) (p : PL) : enumN fs ats 0 p = enum fs ats p := by
  cases ats <;> rfl
theorem wkN_zero (fs ats : FL) (p : PL) : wkN fs ats 0 p = wkE fs ats p := by
  cases ats <;> rfl
theorem drop_at (fs : FL) {n : Nat} (hn : n < fs.length) {f : Int × List Int} (hf : fs.getD n (0, []) = f) : fs.drop n = f :: fs.drop (n + 1) := by
  have e : fs[n] = f := by rw [← hf]; simp [List.getD_eq_getElem?_getD, hn]
  rw [← e, List.drop_eq_getElem_cons hn]
theorem enumN_end (fs : FL) (a : Int × List Int) (ats : FL) (p : PL) {n : Nat} (h : fs.length ≤ n) : enumN fs (a :: ats) n p = [] := by
  rw [enumN_cons, List.drop_eq_nil_iff.2 h]
  rfl
theorem wkN_end (fs : FL) (a : Int × List Int) (ats : FL) (p : PL) {n : Nat} (h : fs.length ≤ n) : wkN fs (a :: ats) n p = 1 := by
  rw [wkN_cons, List.drop_eq_nil_iff.2 h]
  rfl
theorem enumN_no (fs : FL) (a : Int × List Int) (ats : FL) (p : PL) {n : Nat} (hn : n < fs.length) {f : Int × List Int} (hf : fs.getD n (0, []) = f) (hm : mtF p a f = none) : enumN fs (a :: ats) n p = enumN fs (a :: ats) (n + 1) p := by
  rw [enumN_cons, enumN_cons, drop_at fs hn hf, List.filterMap_cons_none hm]
theorem enumN_yes (fs : FL) (a : Int × List Int) (ats : FL) (p : PL) {n : Nat} (hn : n < fs.length) {f : Int × List Int} (hf : fs.getD n (0, []) = f) {q : PL} (hm : mtF p a f = some q) : enumN fs (a :: ats) n p = enumN fs ats 0 q ++ enumN fs (a :: ats) (n + 1) p := by
  rw [enumN_zero]
  rw [enumN_cons, enumN_cons, drop_at fs hn hf, List.filterMap_cons_some hm, List.flatMap_cons]
theorem wkN_no (fs : FL) (a : Int × List Int) (ats : FL) (p : PL) {n : Nat} (hn : n < fs.length) {f : Int × List Int} (hf : fs.getD n (0, []) = f) (hm : mtF p a f = none) : wkN fs (a :: ats) n p = wkN fs (a :: ats) (n + 1) p + 1 := by
  rw [wkN_cons, wkN_cons, drop_at fs hn hf, List.map_cons, List.sum_cons, hm]
  simp only [Option.map_none, Option.getD_none]
  omega
theorem wkN_yes (fs : FL) (a : Int × List Int) (ats : FL) (p : PL) {n : Nat} (hn : n < fs.length) {f : Int × List Int} (hf : fs.getD n (0, []) = f) {q : PL} (hm : mtF p a f = some q) : wkN fs (a :: ats) n p = wkN fs ats 0 q + wkN fs (a :: ats) (n + 1) p + 1 := by
  rw [wkN_zero]
  rw [wkN_cons, wkN_cons, drop_at fs hn hf, List.map_cons, List.sum_cons, hm]
  simp only [Option.map_some, Option.getD_some]
  omega

/-- The choices, the last one first: the next fact, and the binding before it. -/
abbrev CL := List (Nat × PL)
def remC (fs ats : FL) : CL → List PL
  | [] => []
  | (n, p) :: r => enumN fs (ats.drop r.length) n p ++ remC fs ats r
def wkC (fs ats : FL) : CL → Nat
  | [] => 0
  | (n, p) :: r => wkN fs (ats.drop r.length) n p + wkC fs ats r
theorem remC_cons (fs ats : FL) (n : Nat) (p : PL) (r : CL) : remC fs ats ((n, p) :: r) = enumN fs (ats.drop r.length) n p ++ remC fs ats r := rfl
theorem wkC_cons (fs ats : FL) (n : Nat) (p : PL) (r : CL) : wkC fs ats ((n, p) :: r) = wkN fs (ats.drop r.length) n p + wkC fs ats r := rfl
theorem remC_start (fs ats : FL) : remC fs ats [(0, ([], []))] = bnds fs ats := by
  show enumN fs (ats.drop 0) 0 ([], []) ++ [] = _
  rw [List.append_nil, enumN_zero, bnds_enum]
  rfl
/-- The last choice is complete. -/
theorem remC_leaf (fs ats : FL) (n : Nat) (p : PL) (r : CL) (h : r.length = ats.length) : remC fs ats ((n, p) :: r) = p :: remC fs ats r ∧ wkC fs ats ((n, p) :: r) = wkC fs ats r + 1 := by
  rw [remC_cons, wkC_cons, h, List.drop_length]
  exact ⟨rfl, by show 1 + wkC fs ats r = _; omega⟩
theorem drop_atA (ats : FL) {k : Nat} (hk : k < ats.length) {a : Int × List Int} (hf : ats.getD k (0, []) = a) : ats.drop k = a :: ats.drop (k + 1) := drop_at ats hk hf
/-- No fact is left for the last choice. -/
theorem remC_end (fs ats : FL) (n : Nat) (p : PL) (r : CL) (h : r.length < ats.length) (hn : fs.length ≤ n) : remC fs ats ((n, p) :: r) = remC fs ats r ∧ wkC fs ats ((n, p) :: r) = wkC fs ats r + 1 := by
  rw [remC_cons, wkC_cons, drop_atA ats h rfl, enumN_end fs _ _ p hn, wkN_end fs _ _ p hn]
  exact ⟨rfl, by omega⟩
/-- The next fact does not match. -/
theorem remC_no (fs ats : FL) (n : Nat) (p : PL) (r : CL) (h : r.length < ats.length) {a : Int × List Int} (ha : ats.getD r.length (0, []) = a) (hn : n < fs.length) {f : Int × List Int} (hf : fs.getD n (0, []) = f) (hm : mtF p a f = none) :
    remC fs ats ((n, p) :: r) = remC fs ats ((n + 1, p) :: r) ∧ wkC fs ats ((n, p) :: r) = wkC fs ats ((n + 1, p) :: r) + 1 := by
  rw [remC_cons, wkC_cons, remC_cons, wkC_cons, drop_atA ats h ha, enumN_no fs a _ p hn hf hm, wkN_no fs a _ p hn hf hm]
  exact ⟨rfl, by omega⟩
/-- The next fact matches. -/
theorem remC_yes (fs ats : FL) (n : Nat) (p : PL) (r : CL) (h : r.length < ats.length) {a : Int × List Int} (ha : ats.getD r.length (0, []) = a) (hn : n < fs.length) {f : Int × List Int} (hf : fs.getD n (0, []) = f) {q : PL} (hm : mtF p a f = some q) :
    remC fs ats ((n, p) :: r) = remC fs ats ((0, q) :: (n + 1, p) :: r) ∧ wkC fs ats ((n, p) :: r) = wkC fs ats ((0, q) :: (n + 1, p) :: r) + 1 := by
  have e1 := enumN_yes fs a (ats.drop (r.length + 1)) p hn hf hm
  have e2 := wkN_yes fs a (ats.drop (r.length + 1)) p hn hf hm
  have d := drop_atA ats h ha
  show enumN fs (ats.drop r.length) n p ++ remC fs ats r = enumN fs (ats.drop (r.length + 1)) 0 q ++ (enumN fs (ats.drop r.length) (n + 1) p ++ remC fs ats r) ∧
    wkN fs (ats.drop r.length) n p + wkC fs ats r = wkN fs (ats.drop (r.length + 1)) 0 q + (wkN fs (ats.drop r.length) (n + 1) p + wkC fs ats r) + 1
  rw [d, e1, e2, List.append_assoc]
  exact ⟨rfl, by omega⟩
end Go.Proofs.YtplbebmboadeiaaGreat

namespace Go.Proofs.YtplbebmboadeiaaGreat
open Go.ChangeShapes Go.WideShapes Go.ChangeAt Go.RowKit Go.Sort
set_option linter.unusedVariables false
set_option linter.unusedSimpArgs false

def flatC (l : List (Int × Int)) : List Value := l.flatMap fun st => [Value.int .i64 st.1, Value.int .i64 st.2]
theorem flatC_snoc (l : List (Int × Int)) (a b : Int) : flatC (l ++ [(a, b)]) = flatC l ++ [.int .i64 a, .int .i64 b] := by simp [flatC]
theorem flatC_len : ∀ l : List (Int × Int), (flatC l).length = l.length * 2
  | [] => rfl
  | st :: l => by
    have := flatC_len l
    show ([Value.int .i64 st.1, Value.int .i64 st.2] ++ flatC l).length = _
    rw [List.length_append, this, List.length_cons]
    simp
    omega
theorem flatC_at : ∀ (l : List (Int × Int)) {k : Nat} (hk : k < l.length), (flatC l)[k * 2]? = some (.int .i64 (l.getD k (0, 0)).1) ∧ (flatC l)[k * 2 + 1]? = some (.int .i64 (l.getD k (0, 0)).2)
  | st :: l, 0, _ => ⟨rfl, rfl⟩
  | st :: l, k + 1, hk => by
    have := flatC_at l (k := k) (by simpa using hk)
    have e : flatC (st :: l) = .int .i64 st.1 :: .int .i64 st.2 :: flatC l := rfl
    rw [e, show (k + 1) * 2 = k * 2 + 1 + 1 by omega, show k * 2 + 1 + 1 + 1 = k * 2 + 1 + 1 + 1 by rfl]
    simpa using this
/-- A row of choices of the call's own, not nil. -/
def ZC (w : World) (base : Nat) (g cap : Nat) (l : List (Int × Int)) : Prop :=
  ∃ cur, base ≤ g ∧ w.heap[g]? = some (.cells cur 89 (0, 0)) ∧ l.length ≤ cap ∧ cap ≤ maxLen ∧ cur.size = cap * 2 ∧ cur.toList.take (l.length * 2) = flatC l
theorem ZC.own {w : World} {base g cap : Nat} {l : List (Int × Int)} (h : ZC w base g cap l) : w.ownsRow base 89 2 (.slice (some ⟨g, 0, none⟩) l.length cap) l.length (flatC l) := by
  obtain ⟨cur, h1, h2, h3, h4, h5, h6⟩ := h
  exact ⟨flatC_len l, .inr ⟨g, cap, cur, rfl, h1, h2, h3, h4, h5, h6⟩⟩
theorem ZC.of_own {w : World} {base g cap : Nat} {l : List (Int × Int)} (h : w.ownsRow base 89 2 (.slice (some ⟨g, 0, none⟩) l.length cap) l.length (flatC l)) : ZC w base g cap l := by
  rcases h.2 with ⟨hv, _⟩ | ⟨g', cap', cur, hv, h1, h2, h3, h4, h5, h6⟩
  · cases hv
  · injection hv with e1 e2 e3
    injection e1 with e1
    injection e1 with e1
    subst e1 e3
    exact ⟨cur, h1, h2, h3, h4, h5, h6⟩
theorem ZC.lt {w : World} {base g cap : Nat} {l : List (Int × Int)} (h : ZC w base g cap l) : g < w.heap.size := by
  obtain ⟨cur, h1, h2, _⟩ := h
  exact (Array.getElem?_eq_some_iff.1 h2).1
theorem ZC.keep {w w' : World} {base g cap : Nat} {l : List (Int × Int)} (h : ZC w base g cap l) (e : w'.heap[g]? = w.heap[g]?) : ZC w' base g cap l := by
  obtain ⟨cur, h1, h2, r⟩ := h
  exact ⟨cur, h1, e.trans h2, r⟩
theorem ZC.typed {w : World} {base g cap : Nat} {l : List (Int × Int)} (h : ZC w base g cap l) : ∃ cs fr, w.heap[g]? = some (.cells cs 89 fr) := by
  obtain ⟨cur, h1, h2, _⟩ := h
  exact ⟨_, _, h2⟩
theorem ZC.cells {w : World} {base g cap : Nat} {l : List (Int × Int)} (h : ZC w base g cap l) {k : Nat} (hk : k < l.length) {a b : Int} (hf : l.getD k (0, 0) = (a, b)) :
    w.cell? ⟨g, k * 2, none⟩ = some (.int .i64 a) ∧ w.cell? ⟨g, k * 2 + 1, none⟩ = some (.int .i64 b) := by
  have e := flatC_at l hk
  rw [hf] at e
  have q1 := World.ownsRow.cells h.own (g := g) rfl _ _ e.1
  have q2 := World.ownsRow.cells h.own (g := g) rfl _ _ e.2
  rw [add_eq] at q1 q2
  exact ⟨by simpa using q1, by simpa using q2⟩
theorem ZC.frozen {w : World} {base g cap : Nat} {l : List (Int × Int)} (h : ZC w base g cap l) (i : Nat) : w.frozen? ⟨g, i, none⟩ = false := by
  obtain ⟨cur, h1, h2, _⟩ := h
  simp [World.frozen?, h2]
/-- The row cut back. -/
theorem flatC_take : ∀ (l : List (Int × Int)) (n : Nat), flatC (l.take n) = (flatC l).take (n * 2)
  | [], n => by simp [flatC]
  | st :: l, 0 => by simp [flatC]
  | st :: l, n + 1 => by
    have := flatC_take l n
    have e : flatC (st :: l) = .int .i64 st.1 :: .int .i64 st.2 :: flatC l := rfl
    rw [List.take_succ_cons, e, show (n + 1) * 2 = n * 2 + 1 + 1 by omega, List.take_succ_cons, List.take_succ_cons, ← this]
    rfl
theorem ZC.take {w : World} {base g cap : Nat} {l : List (Int × Int)} (h : ZC w base g cap l) (n : Nat) : ZC w base g cap (l.take n) := by
  obtain ⟨cur, h1, h2, h3, h4, h5, h6⟩ := h
  have hl : (l.take n).length ≤ l.length := by rw [List.length_take]; omega
  refine ⟨cur, h1, h2, by omega, h4, h5, ?_⟩
  rw [flatC_take, ← h6, List.take_take, List.length_take]
  congr 1
  by_cases h : n ≤ l.length
  · rw [Nat.min_eq_left h, Nat.min_eq_left (by omega)]
  · rw [Nat.min_eq_right (by omega), Nat.min_eq_right (by omega)]
/-- The first number of a choice turned. -/
theorem flatC_set : ∀ (l : List (Int × Int)) (k : Nat) (x : Int), k < l.length → flatC (l.set k (x, (l.getD k (0, 0)).2)) = (flatC l).set (k * 2) (.int .i64 x)
  | st :: l, 0, x, _ => rfl
  | st :: l, k + 1, x, hk => by
    have := flatC_set l k x (by simpa using hk)
    have e : flatC (st :: l) = .int .i64 st.1 :: .int .i64 st.2 :: flatC l := rfl
    rw [List.set_cons_succ, e, show (k + 1) * 2 = k * 2 + 1 + 1 by omega, List.set_cons_succ, List.set_cons_succ, ← this]
    rfl
theorem take_setL {α : Type} (l : List α) (n k : Nat) (x : α) (hk : k < n) : (l.set k x).take n = (l.take n).set k x := by
  rw [List.take_set]
theorem ZC.set {w : World} {base g cap : Nat} {l : List (Int × Int)} (h : ZC w base g cap l) {k : Nat} (hk : k < l.length) (x : Int) : ZC (w.setCell ⟨g, k * 2, none⟩ (.int .i64 x)) base g cap (l.set k (x, (l.getD k (0, 0)).2)) := by
  obtain ⟨cur, h1, h2, h3, h4, h5, h6⟩ := h
  have hlt := (Array.getElem?_eq_some_iff.1 h2).1
  refine ⟨cur.setIfInBounds (k * 2) (.int .i64 x), h1, ?_, by rw [List.length_set]; exact h3, h4, by rw [Array.size_setIfInBounds]; exact h5, ?_⟩
  · have h' : w.heap[g] = .cells cur 89 (0, 0) := by simpa [Array.getElem?_eq_getElem hlt] using h2
    show (w.heap.modify g _)[g]? = _
    rw [Array.getElem?_eq_getElem (by simpa using hlt), Array.getElem_modify_self, h']
    rfl
  · rw [Array.toList_setIfInBounds, List.length_set, take_setL _ _ _ _ (by omega), h6, flatC_set l k x hk]

set_option maxRecDepth 100000 in
theorem choice_info : (Tryz.prog.info? 89).map (fun i => (i.zero, i.size, i.bytes)) = some (some (.agg #[.int .i64 0, .int .i64 0]), 2, 16) := by kernel_rfl
/-- append(v, y) of one choice, in a new block. -/
theorem wpList_pushC {P : Program} {W : World} {ops : Array Oper} {rest : List Oper} {o : Oper} {a : Act} {Q : Exit → Act → World → Prop} (hgd : o.guard = none) (s x : Operand) (t : TypeId)
    (ho : o.op = .call { callee := .builtin .append, args := #[s, x], argTypes := #[t, t] })
    (i : TypeInfo) (ht : P.underlying t = some (.slice 89)) (hi : P.info? 89 = some i) (hz : i.zero = some (.agg #[.int .i64 0, .int .i64 0])) (hz1 : i.size = 2) (hz2 : i.bytes = 16)
    {base g cap : Nat} {l : List (Int × Int)} {y1 y2 : Int} (hs : a.eval s = .slice (some ⟨g, 0, none⟩) l.length cap) (hx : a.eval x = .slice (some ⟨W.heap.size, 0, none⟩) 1 1)
    (hown : ZC W base g cap l) (hbase : base ≤ W.heap.size) (hn : l.length + 1 ≤ 1048580)
    (h : ∀ g' cap' w', ZC w' base g' cap' (l ++ [(y1, y2)]) → W.grownBy w' (some g) → (g' = g ∨ W.heap.size ≤ g') → wpList P ops Q rest (a.put o.dst (.slice (some ⟨g', 0, none⟩) (l.length + 1) cap')) w') :
    wpList P ops Q (o :: rest) a (W.alloc (.cells #[.int .i64 y1, .int .i64 y2] 89)) := by
  refine wpList_append_own_at (P := P) _ hgd s x t ho base 89 i _ 2 16 ht hi hz hz1 hz2 rfl (by omega) _ l.length _ hs (hown.own.alloc _) ⟨W.heap.size, 0, none⟩ 1 1 [.int .i64 y1, .int .i64 y2] hx rfl
    (World.news_of_block (cs := #[.int .i64 y1, .int .i64 y2]) (t := 89) (fr := (0, 0)) (heap_alloc_new W _)) (by simp [Value.oneCell'])
    (by unfold maxLen; omega) (by omega) (by simp; omega) ?_
  intro v' w' hown' hg _ hloc
  have hg2 : W.grownBy w' (some g) := (World.grownBy_alloc W _ _).trans hg
  rcases hown'.2 with ⟨_, h0⟩ | ⟨g', cap', cur, hv, _⟩
  · omega
  · subst hv
    refine h g' cap' w' (ZC.of_own (by rw [flatC_snoc, List.length_append]; exact hown')) hg2 ?_
    have hl : (some g' = some g ∨ some g' = some (W.alloc (.cells #[.int .i64 y1, .int .i64 y2] 89)).heap.size) := by
      simpa [Value.ownBlock] using hloc
    rcases hl with e | e
    · injection e with e; exact .inl e
    · injection e with e; rw [al_size] at e; exact .inr (by omega)
end Go.Proofs.YtplbebmboadeiaaGreat

namespace Go.Proofs.YtplbebmboadeiaaGreat
open Go.ChangeShapes Go.WideShapes Go.ChangeAt Go.RowKit Go.Sort
set_option linter.unusedVariables false
set_option linter.unusedSimpArgs false

/-- The choices as they lie in memory. -/
def stL (st : CL) : List (Int × Int) := st.reverse.map fun x => ((x.1 : Int), (x.2.1.length : Int))
theorem stL_len (st : CL) : (stL st).length = st.length := by simp [stL]
theorem stL_cons (n : Nat) (p : PL) (r : CL) : stL ((n, p) :: r) = stL r ++ [((n : Int), (p.1.length : Int))] := by simp [stL]
theorem stL_top (n : Nat) (p : PL) (r : CL) : (stL ((n, p) :: r)).getD r.length (0, 0) = ((n : Int), (p.1.length : Int)) := by
  rw [stL_cons, List.getD_eq_getElem?_getD, List.getElem?_append_right (by rw [stL_len]; exact Nat.le_refl _), stL_len]
  simp
theorem stL_pop (n : Nat) (p : PL) (r : CL) : (stL ((n, p) :: r)).take r.length = stL r := by
  rw [stL_cons, List.take_append_of_le_length (by rw [stL_len]; exact Nat.le_refl _), List.take_of_length_le (by rw [stL_len]; exact Nat.le_refl _)]
theorem stL_set (n : Nat) (p : PL) (r : CL) : (stL ((n, p) :: r)).set r.length ((n : Int) + 1, (p.1.length : Int)) = stL ((n + 1, p) :: r) := by
  rw [stL_cons, stL_cons, List.set_append_right _ _ (by rw [stL_len]; exact Nat.le_refl _), stL_len]
  simp
/-- The choices fit the matching q: each grows out of the one before. -/
def WfC (fs ats : FL) : CL → PL → Prop
  | [], _ => True
  | (n, p) :: r, q => Pre p q ∧ Gd p ∧ n ≤ fs.length ∧ r.length ≤ ats.length ∧ WfC fs ats r p
theorem Pre.cut {p q : PL} (h : Pre p q) (hp : p.1.length = p.2.length) : cutP p.1.length q = p := by
  obtain ⟨u, v, rfl, _⟩ := h
  unfold cutP
  have e1 : (p.1 ++ u).take p.1.length = p.1 := by simp
  have e2 : (p.2 ++ v).take p.1.length = p.2 := by rw [hp]; simp
  simp only [e1, e2]
theorem Pre.len {p q : PL} (h : Pre p q) : p.1.length ≤ q.1.length := by
  obtain ⟨u, v, rfl, _⟩ := h
  simp
theorem gd_wf {q : PL} (h : Gd q) : ∀ x ∈ q.1, wf x := fun x hx => by
  have := allB_mem h.2.2.1 hx
  exact WalkArith.wf_i64 ⟨by omega, by omega⟩
theorem MS.lo {w : World} {base base' g : Nat} {p0 q : PL} {ads : List Int} (h : MS w base g p0 q ads) (hb : base' ≤ base) : MS w base' g p0 q ads := by
  obtain ⟨h1, mb, n, v, D, hB, hM, hR, hL, hn, hmb, hgb⟩ := h
  exact ⟨h1, mb, n, v, D, hB, hM, ownsRow_low hR hb, hL, hn, by omega, by omega⟩
theorem MS.kept {w w' : World} {base g mb' : Nat} {p0 q : PL} {ads : List Int} (h : MS w base g p0 q ads) (hg : w.grownBy w' (some mb')) (hb : mb' < base) : MS w' base g p0 q ads := by
  obtain ⟨h1, mb, n, v, D, hB, hM, hR, hL, hn, hmb, hgb⟩ := h
  refine ⟨h1, mb, n, v, D, (hg.block g hB.lt (fun e => by injection e; omega)).trans hB, World.ownsMap.kept hM hg (fun e => by injection e; omega), ?_, hL, hn, hmb, hgb⟩
  exact World.ownsRow.kept hR hg (by
    cases e : v.ownBlock with
    | none => exact .inl rfl
    | some k =>
      refine .inr fun e2 => ?_
      have := (World.ownsRow.lt hR k e).1
      injection e2 with e2
      omega)
/-- What may have turned since w: the block mb. -/
theorem fr_trn {w a b : World} {mb : Nat} (h : w.grownBy a (some mb)) (d : Trn w.heap.size a b) : w.grownBy b (some mb) :=
  ⟨d.os.trans h.os, d.tape.trans h.tape, d.output.trans h.output, Nat.le_trans h.size d.size, fun i hi hn => (d.block i (Nat.lt_of_lt_of_le hi h.size) (.inl hi)).trans (h.block i hi hn)⟩
theorem fr_grown {w a b : World} {mb : Nat} {row : Option Nat} (h : w.grownBy a (some mb)) (d : a.grownBy b row) (hr : ∀ j, row = some j → j = mb ∨ w.heap.size ≤ j) : w.grownBy b (some mb) :=
  ⟨d.os.trans h.os, d.tape.trans h.tape, d.output.trans h.output, Nat.le_trans h.size d.size, fun i hi hn => (d.block i (Nat.lt_of_lt_of_le hi h.size) (fun e => by
    rcases hr i e.symm with h1 | h1
    · exact hn (by rw [h1])
    · omega)).trans (h.block i hi hn)⟩
theorem fr_below {w a b : World} {mb : Nat} (h : w.grownBy a (some mb)) (d : Below a.heap.size a b) : w.grownBy b (some mb) :=
  ⟨d.os.trans h.os, d.tape.trans h.tape, d.output.trans h.output, Nat.le_trans h.size d.size, fun i hi hn => (d.block i (Nat.lt_of_lt_of_le hi h.size)).trans (h.block i hi hn)⟩
theorem fr_set {w a : World} {mb : Nat} {p : Addr} {v : Value} (h : w.grownBy a (some mb)) (hp : w.heap.size ≤ p.block) : w.grownBy (a.setCell p v) (some mb) :=
  ⟨h.os, h.tape, h.output, by rw [set_size]; exact h.size, fun i hi hn => (Below.heap_setCell _ _ _ _ (by omega)).trans (h.block i hi hn)⟩
theorem Ints.fr {w a : World} {mb B0 : Nat} {A : Option Addr} {xs : List Int} (h : Ints w 0 B0 A xs) (d : w.grownBy a (some mb)) (h1 : B0 ≤ mb) (h2 : B0 ≤ w.heap.size) : Ints a 0 B0 A xs :=
  h.keep fun b _ hb => d.block b (by omega) (fun e => by injection e; omega)
theorem Facts.fr {w a : World} {mb B0 : Nat} {A : Option Addr} {fs : FL} (h : Facts w 0 B0 A fs) (d : w.grownBy a (some mb)) (h1 : B0 ≤ mb) (h2 : B0 ≤ w.heap.size) : Facts a 0 B0 A fs :=
  h.keep fun b _ hb => d.block b (by omega) (fun e => by injection e; omega)
theorem mgo_part {p q : PL} {ts vs : List Int} {k : Nat} (h : mgo p (ts.take k) (vs.take k) = some q) (hp : Gd p) (hv : allB 0 9 vs = true) : Pre p q ∧ Gd q :=
  ⟨(mgo_pre _ _ _ _ h).1, mgo_gd _ _ _ _ h hp (allB_of fun x hx => allB_mem hv (List.mem_of_mem_take hx))⟩
theorem matG_mtF {p : PL} (hp : p.1.length = p.2.length) (r : Int) (ts : List Int) (r' : Int) (vs : List Int) : matG p r ts r' vs = mtF p (r, ts) (r', vs) := by
  unfold matG mtF matB
  by_cases h : r = r' ∧ ts.length = vs.length
  · rw [if_pos h, if_pos ⟨h.1, h.2, hp⟩]
  · rw [if_neg h, if_neg fun k => h ⟨k.1, k.2.1⟩]
theorem remC_mem {fs ats : FL} {all done : List PL} {p : PL} {r : CL} {n : Nat} (h : done ++ remC fs ats ((n, p) :: r) = all) (hr : r.length = ats.length) : p ∈ all ∧ done ++ [p] ++ remC fs ats r = all := by
  rw [(remC_leaf fs ats n p r hr).1] at h
  rw [← h]
  exact ⟨by simp, by simp⟩
theorem small_gd {q : PL} (h : Gd q) : q.1.length ≤ 8 := by
  have h1 := nodup_nat 18 (q.1.map Int.toNat) (by
    refine List.pairwise_map.2 (List.Pairwise.imp_of_mem ?_ h.2.1)
    intro a b ha hb hab e
    have h2 := allB_mem h.2.2.1 ha
    have h3 := allB_mem h.2.2.1 hb
    exact hab (by omega)) (fun x hx => by
    rw [List.mem_map] at hx
    obtain ⟨a, ha, rfl⟩ := hx
    have h2 := allB_mem h.2.2.1 ha
    omega)
  have h2 := nodup_nat 8 (q.1.map fun x => x.toNat - 10) (by
    refine List.pairwise_map.2 (List.Pairwise.imp_of_mem ?_ h.2.1)
    intro a b ha hb hab e
    have h2 := allB_mem h.2.2.1 ha
    have h3 := allB_mem h.2.2.1 hb
    exact hab (by omega)) (fun x hx => by
    rw [List.mem_map] at hx
    obtain ⟨a, ha, rfl⟩ := hx
    have h2 := allB_mem h.2.2.1 ha
    omega)
  simpa using h2
end Go.Proofs.YtplbebmboadeiaaGreat
