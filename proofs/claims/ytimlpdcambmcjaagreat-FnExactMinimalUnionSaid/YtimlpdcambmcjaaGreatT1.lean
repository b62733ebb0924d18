/- Minimal unions, purely, and rows of queries of the model's. Conditions: none beyond each theorem's own. -/
import Derived.Test.YtimlpdcambmcjaaGreatS41
import Derived.Test.YtimlpdcambmcjaaGreatSL9c
import Derived.Maps.AppendAt

namespace Go.Proofs.YtimlpdcambmcjaaGreat
open Go.ChangeShapes Go.WideShapes Go.ChangeAt Go.RowKit Go.Sort
set_option linter.unusedVariables false
set_option linter.unusedSimpArgs false

/-- Which items are left: those kept so far, then those of the m from number r on that are not contained in the others that are left by then. -/
def minI (s : List Int) (f : Nat → Qr) : List Nat → Nat → Nat → List Nat
  | kept, _, 0 => kept
  | kept, r, m + 1 => if cinB s (f r).1 (f r).2 ((kept ++ List.range' (r + 1) m).map f) = true then minI s f kept (r + 1) m else minI s f (kept ++ [r]) (r + 1) m
def atU (us : UL) (j : Nat) : Qr := us.getD j noU
def minU (s : List Int) (us : UL) : UL := if unionB s us = true then (minI s (atU us) [] 0 us.length).map (atU us) else us
theorem minI_yes {s : List Int} {f : Nat → Qr} {kept : List Nat} {r m : Nat} (h : cinB s (f r).1 (f r).2 ((kept ++ List.range' (r + 1) m).map f) = true) : minI s f kept r (m + 1) = minI s f kept (r + 1) m := by
  rw [minI, if_pos h]
theorem minI_no {s : List Int} {f : Nat → Qr} {kept : List Nat} {r m : Nat} (h : cinB s (f r).1 (f r).2 ((kept ++ List.range' (r + 1) m).map f) = false) : minI s f kept r (m + 1) = minI s f (kept ++ [r]) (r + 1) m := by
  rw [minI, if_neg (by rw [h]; decide)]
theorem range_atU (us : UL) : (List.range us.length).map (atU us) = us := by
  apply List.ext_getElem
  · simp
  · intro i h1 h2
    simp [atU, List.getD_eq_getElem?_getD, h2]
theorem left_len (kept : List Nat) (r m : Nat) : (kept ++ List.range' r m).length = kept.length + m := by simp
theorem left_at (kept : List Nat) (r m : Nat) : (kept ++ List.range' r (m + 1))[kept.length]? = some r := by
  rw [List.getElem?_append_right (Nat.le_refl _), Nat.sub_self, List.range'_succ]
  rfl
theorem left_erase (kept : List Nat) (r m : Nat) : (kept ++ List.range' r (m + 1)).eraseIdx kept.length = kept ++ List.range' (r + 1) m := by
  rw [List.eraseIdx_append_of_length_le (Nat.le_refl _), Nat.sub_self, List.range'_succ]
  rfl
theorem left_more (kept : List Nat) (r m : Nat) : kept ++ List.range' r (m + 1) = (kept ++ [r]) ++ List.range' (r + 1) m := by
  rw [List.range'_succ, List.append_assoc]
  rfl
theorem eraseIdx_mapN {α : Type} (f : Nat → α) : ∀ (l : List Nat) (i : Nat), (l.map f).eraseIdx i = (l.eraseIdx i).map f
  | [], i => rfl
  | a :: l, 0 => rfl
  | a :: l, i + 1 => by simp [eraseIdx_mapN f l i]
theorem take_snocU {α : Type} (l : List α) {j : Nat} (hj : j < l.length) : l.take (j + 1) = l.take j ++ [l[j]] := List.take_succ_eq_append_getElem hj
theorem erase_here {α : Type} (l : List α) {j : Nat} (hj : j < l.length) : (l.take (j + 1)).eraseIdx j = (l.take j).eraseIdx j := by
  have hl : (l.take j).length = j := by rw [List.length_take]; omega
  rw [take_snocU l hj, List.eraseIdx_append_of_length_le (by omega), hl, Nat.sub_self, List.eraseIdx_of_length_le (l := l.take j) (by omega)]
  simp
theorem erase_more {α : Type} (l : List α) {j k : Nat} (hj : j < l.length) (hne : j ≠ k) : (l.take (j + 1)).eraseIdx k = (l.take j).eraseIdx k ++ [l[j]] := by
  have hl : (l.take j).length = j := by rw [List.length_take]; omega
  rw [take_snocU l hj]
  by_cases h : k < j
  · rw [List.eraseIdx_append_of_lt_length (by omega)]
  · rw [List.eraseIdx_of_length_le (by rw [List.length_append, hl]; simp; omega), List.eraseIdx_of_length_le (by omega)]

theorem ownsRow_cap {w : World} {base : Nat} {e : TypeId} {size : Nat} {A : Option Addr} {n c : Nat} {cs : List Value} (h : w.ownsRow base e size (.slice A n c) n cs) : n ≤ c ∧ c ≤ maxLen := by
  rcases h.2 with ⟨hv, h0⟩ | ⟨g, cap, cur, hv, hbk, hk, h1, h2, _⟩
  · injection hv with e1 e2 e3
    subst e3
    exact ⟨by omega, Nat.zero_le _⟩
  · injection hv with e1 e2 e3
    subst e3
    exact ⟨h1, h2⟩

/-- A row of queries of the call's own, each query's parts in blocks apart from the row's. -/
def UB (w : World) (base : Nat) (v : Value) (us : UL) : Prop :=
  ∃ cs, w.ownsRow base 29 2 v us.length cs ∧ ∀ k, k < us.length → ∃ H ch B c lo hi, cs[k * 2]? = some (.slice H (us.getD k noU).1.length ch) ∧ cs[k * 2 + 1]? = some (.slice B (us.getD k noU).2.length c) ∧
    ((us.getD k noU).1.length ≤ ch ∧ ch ≤ maxLen ∧ (us.getD k noU).2.length ≤ c ∧ c ≤ maxLen) ∧ Ints w lo hi H (us.getD k noU).1 ∧ Facts w lo hi B (us.getD k noU).2 ∧ hi ≤ w.heap.size ∧ ∀ g, v.ownBlock = some g → g < lo ∨ hi ≤ g
theorem UB.form {w : World} {base : Nat} {v : Value} {us : UL} (h : UB w base v us) : ∃ A c, v = .slice A us.length c := by
  obtain ⟨cs, h, _⟩ := h
  exact ownsRow_form h
theorem UB.step {w w' : World} {base : Nat} {v : Value} {us : UL} (h : UB w base v us) (b : Below w.heap.size w w') : UB w' base v us := by
  obtain ⟨cs, h1, h2⟩ := h
  refine ⟨cs, ownsRow_step h1 b, fun k hk => ?_⟩
  obtain ⟨H, ch, B, c, lo, hi, e1, e2, e3, e4, e5, e6, e7⟩ := h2 k hk
  exact ⟨H, ch, B, c, lo, hi, e1, e2, e3, e4.keep fun b' _ hb => b.block b' (by omega), e5.keep fun b' _ hb => b.block b' (by omega), Nat.le_trans e6 b.size, e7⟩
theorem UB.nil (w : World) : UB (w.alloc (.cells #[] 29)) w.heap.size (.slice (some ⟨w.heap.size, 0, none⟩) ([] : UL).length 0) [] :=
  ⟨[], World.ownsRow_lit (base := w.heap.size) (e := 29) (size := 2) w #[] 0 (Nat.le_refl _) (by unfold maxLen; omega) rfl, fun k hk => by simp at hk⟩
theorem UB.ru {w : World} {base c : Nat} {A : Option Addr} {us : UL} (h : UB w base (.slice A us.length c) us) : RU w A us := fun hne => by
  obtain ⟨cs, h1, h2⟩ := h
  have hn : 0 < us.length := List.length_pos_iff.2 hne
  rcases h1.2 with ⟨hv, h0⟩ | ⟨g, cap, cur, hv, hbk, hk, hr⟩
  · omega
  · injection hv with e1 e2 e3
    subst e1
    refine ⟨g, 0, rfl, Nat.zero_le _, (Array.getElem?_eq_some_iff.1 hk).1, fun k hk' => ?_⟩
    obtain ⟨H, ch, B, c', lo, hi, e1, e2, e3, e4, e5, e6, _⟩ := h2 k hk'
    have q1 := World.ownsRow.cells h1 (g := g) rfl _ _ e1
    have q2 := World.ownsRow.cells h1 (g := g) rfl _ _ e2
    rw [add_eq] at q1 q2
    exact ⟨H, ch, B, c', by simpa using q1, by simpa [Nat.add_assoc] using q2, e3.1, e3.2.1, e3.2.2.1, e3.2.2.2, e4.mono (Nat.zero_le _) e6, e5.mono (Nat.zero_le _) e6⟩
theorem getD_snocU (us : UL) (q : Qr) (k : Nat) (hk : k < (us ++ [q]).length) : (us ++ [q]).getD k noU = if k < us.length then us.getD k noU else q := by
  rw [List.length_append, List.length_singleton] at hk
  by_cases h : k < us.length
  · rw [if_pos h, List.getD_eq_getElem?_getD, List.getElem?_append_left h, ← List.getD_eq_getElem?_getD]
  · have : k = us.length := by omega
    subst this
    rw [if_neg h]
    simp [List.getD_eq_getElem?_getD]
/-- append(v, q) of one query whose parts lie apart. -/
theorem wpList_pushU {P : Program} {W : World} {ops : Array Oper} {rest : List Oper} {o : Oper} {a : Act} {Q : Exit → Act → World → Prop} (hgd : o.guard = none) (s x : Operand) (t : TypeId)
    (ho : o.op = .call { callee := .builtin .append, args := #[s, x], argTypes := #[t, t] })
    (i : TypeInfo) (z : Value) (ht : P.underlying t = some (.slice 29)) (hi : P.info? 29 = some i) (hz : i.zero = some z) (hz1 : i.size = 2) (hz2 : i.bytes = 48) (hzs : z.cells.size = 2)
    {base lo hi' : Nat} {v : Value} {us : UL} {hs : List Int} {l : FL} {H B : Option Addr} {ch c : Nat} (hs' : a.eval s = v) (hx : a.eval x = .slice (some ⟨W.heap.size, 0, none⟩) 1 1)
    (hown : UB W base v us) (hc : hs.length ≤ ch ∧ ch ≤ maxLen ∧ l.length ≤ c ∧ c ≤ maxLen) (hI : Ints W lo hi' H hs) (hF : Facts W lo hi' B l) (hh : hi' ≤ W.heap.size) (hg0 : ∀ g, v.ownBlock = some g → g < lo ∨ hi' ≤ g) (hbase : base ≤ W.heap.size) (hn : us.length + 1 ≤ 1048577)
    (h : ∀ v' w', UB w' base v' (us ++ [(hs, l)]) → Below base W w' → wpList P ops Q rest (a.put o.dst v') w') :
    wpList P ops Q (o :: rest) a (W.alloc (.cells #[.slice H hs.length ch, .slice B l.length c] 29)) := by
  obtain ⟨cs, h1, h2⟩ := hown
  refine wpList_append_own_at (P := P) _ hgd s x t ho base 29 i _ 2 48 ht hi hz hz1 hz2 hzs (by omega) v us.length cs hs' (h1.alloc _) ⟨W.heap.size, 0, none⟩ 1 1 [.slice H hs.length ch, .slice B l.length c] hx rfl
    (World.news_of_block (cs := #[.slice H hs.length ch, .slice B l.length c]) (t := 29) (fr := (0, 0)) (heap_alloc_new W _)) (by simp [Value.oneCell'])
    (by unfold maxLen; omega) (by omega) (by simp; omega) ?_
  intro v' w' hown' hg _ hat
  have hcl : cs.length = us.length * 2 := h1.1
  have hg2 : W.grownBy w' v.ownBlock := (World.grownBy_alloc W _ _).trans hg
  have hB : Below base W w' := ((below_alloc W _).mono hbase).trans ((Below.refl _ _).grown hg (by rw [al_size]; omega) (fun q hq => ((h1.alloc (.cells #[.slice H hs.length ch, .slice B l.length c] 29)).lt q hq).1))
  have hown2 : ∀ g, v'.ownBlock = some g → v.ownBlock = some g ∨ W.heap.size ≤ g := fun g e => by
    rcases hat with h3 | h3
    · exact .inl (by rw [← h3]; exact e)
    · right
      have : some g = some (W.alloc (.cells #[.slice H hs.length ch, .slice B l.length c] 29)).heap.size := e.symm.trans h3
      injection this with this
      rw [al_size] at this
      omega
  have kp : ∀ (lo' hi2 : Nat), (∀ g, v.ownBlock = some g → g < lo' ∨ hi2 ≤ g) → hi2 ≤ W.heap.size → ∀ b, lo' ≤ b → b < hi2 → w'.heap[b]? = W.heap[b]? := fun lo' hi2 hv hh b h3 h4 => hg2.block b (by omega) (fun e => by
    have := hv b e.symm
    omega)
  refine h v' w' ⟨cs ++ [.slice H hs.length ch, .slice B l.length c], by rw [List.length_append]; exact hown', fun k hk => ?_⟩ hB
  rw [getD_snocU us (hs, l) k hk]
  rw [List.length_append, List.length_singleton] at hk
  by_cases hlt : k < us.length
  · rw [if_pos hlt]
    obtain ⟨H', ch', B', c', lo', hi2, e1, e2, e3, e4, e5, e6, e7⟩ := h2 k hlt
    refine ⟨H', ch', B', c', lo', hi2, ?_, ?_, e3, e4.keep (kp lo' hi2 e7 e6), e5.keep (kp lo' hi2 e7 e6), Nat.le_trans e6 hg2.size, fun g e => ?_⟩
    · rw [List.getElem?_append_left (by omega)]; exact e1
    · rw [List.getElem?_append_left (by omega)]; exact e2
    · rcases hown2 g e with h3 | h3
      · exact e7 g h3
      · exact .inr (by omega)
  · have : k = us.length := by omega
    subst this
    rw [if_neg hlt]
    refine ⟨H, ch, B, c, lo, hi', ?_, ?_, hc, hI.keep (kp lo hi' hg0 hh), hF.keep (kp lo hi' hg0 hh), Nat.le_trans hh hg2.size, fun g e => ?_⟩
    · rw [List.getElem?_append_right (by omega), hcl]; simp
    · rw [List.getElem?_append_right (by omega), hcl, show us.length * 2 + 1 - us.length * 2 = 1 by omega]; rfl
    · rcases hown2 g e with h3 | h3
      · exact hg0 g h3
      · exact .inr (by omega)
/-- What a list of queries of the model's is. -/
def UOut (w : World) (us : UL) (e : Ending) (w' : World) : Prop := ∃ A c, e = .returned (.slice A us.length c) ∧ UB w' w.heap.size (.slice A us.length c) us ∧ Below w.heap.size w w'
end Go.Proofs.YtimlpdcambmcjaaGreat
