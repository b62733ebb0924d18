/- Own rows of numbers in a drawn region. Conditions: none beyond each theorem's own. All lists of so many of some numbers; what the program's listsOf returns. Conditions: none beyond each theorem's own. -/
import Derived.Test.YtnmhppiccganoaaDoorAg6
import Derived.Test.YtnmhppiccganoaaDoorAg5

namespace Go.Proofs.YtnmhppiccganoaaDoor
open Go.ChangeShapes Go.WideShapes Go.ChangeAt Go.RowKit Go.Sort
open Go.Maps (Keyed int_keyed keyOf_int_mk)
set_option linter.unusedVariables false
set_option linter.unusedSimpArgs false

/-- A row of the call's own that holds the numbers xs. -/
def RowV (w : World) (base : Nat) (v : Value) (xs : List Int) : Prop := w.ownsRow base 3 1 v xs.length (xs.map (Value.int .i64))
theorem RowV.form {w : World} {base : Nat} {v : Value} {xs : List Int} (h : RowV w base v xs) : ∃ X c, v = .slice X xs.length c := by
  rcases h.2 with ⟨hv, h0⟩ | ⟨_, _, _, hv, _⟩
  · have : xs.length = 0 := by simpa using h0
    exact ⟨none, 0, by rw [hv, this]⟩
  · exact ⟨_, _, hv⟩
theorem RowV.below {w w' : World} {base : Nat} {v : Value} {xs : List Int} (h : RowV w base v xs) (hb : Below w.heap.size w w') : RowV w' base v xs := ownsRow_below h hb
theorem RowV.kept {w w' : World} {base : Nat} {v : Value} {xs : List Int} {row : Option Nat} (h : RowV w base v xs) (hg : w.grownBy w' row) (hne : v.ownBlock = none ∨ v.ownBlock ≠ row) : RowV w' base v xs := World.ownsRow.kept h hg hne
theorem RowV.mono {w : World} {base base' : Nat} {v : Value} {xs : List Int} (h : RowV w base v xs) (hb : base' ≤ base) : RowV w base' v xs := by
  refine ⟨h.1, ?_⟩
  rcases h.2 with hn | ⟨k, cap, cur, hv, hbk, r⟩
  · exact .inl hn
  · exact .inr ⟨k, cap, cur, hv, by omega, r⟩
theorem rows_apart {w w' : World} {b1 b2 : Nat} {v1 v2 : Value} {xs ys : List Int} (h1 : RowV w b1 v1 xs) (h2 : RowV w' b2 v2 ys) (hle : w.heap.size ≤ b2) : v1.ownBlock = none ∨ v1.ownBlock ≠ v2.ownBlock := by
  cases e : v1.ownBlock with
  | none => exact .inl rfl
  | some k =>
    refine .inr fun e2 => ?_
    have h3 := World.ownsRow.lt h1 k e
    have h4 := World.ownsRow.lt h2 k e2.symm
    omega
theorem RowV.set {w : World} {base g i : Nat} {v u : Value} {xs : List Int} {bx : Array Value} {t : TypeId} (h : RowV w base v xs) (hb : Box w g bx t) (ht : t ≠ 3) : RowV (w.setCell ⟨g, i, none⟩ u) base v xs := by
  refine ⟨h.1, ?_⟩
  rcases h.2 with hn | ⟨k, cap, cur, hv, hbk, hk, r⟩
  · exact .inl hn
  · refine .inr ⟨k, cap, cur, hv, hbk, ?_, r⟩
    rw [Below.heap_setCell _ _ _ _ (fun e => by
      have e' : k = g := e
      unfold Box at hb
      rw [e', hb] at hk
      injection hk with hk
      injection hk with _ h2
      exact ht h2)]
    exact hk

set_option maxRecDepth 100000 in
set_option maxHeartbeats 400000 in
theorem clone_row (A : Option Addr) (c : Nat) (xs : List Int) (hl : xs.length ≤ 1048576) (w : World) (h : RI w A xs) :
    Calls Tryd.prog 55 #[.slice A xs.length c] w fun e w' => ∃ X c', e = .returned (.slice X xs.length c') ∧ RowV w' w.heap.size (.slice X xs.length c') xs ∧ Below w.heap.size w w' := by
  obtain ⟨i0, hi, hz0, hz1, hz2⟩ := info_parts int_info
  have hq := fun (W : World) (n c : Nat) => Lib.run_eql_slice_nil (P := Tryd.prog) W 22 3 A n c 0 0 Tryd.underlying22
  rcases A with _ | ad
  · have hx0 : xs = [] := by
      rcases xs with _ | ⟨y, ys⟩
      · rfl
      · obtain ⟨b, off, h1, _⟩ := h (by simp)
        cases h1
    subst hx0
    go_enter Tryd.func55, Tryd.ntmps55
    go_wp2
    go_ret
    exact ⟨none, 0, rfl, World.ownsRow_nil _ _ _ _, Below.refl _ _⟩
  · have HI := Lib.hid (h.step (below_alloc w (.cells #[] 3)))
    clear h
    go_enter Tryd.func55, Tryd.ntmps55
    go_wp2_with (at_builtin; refine wpList_append_nums rfl _ _ 22 rfl w.heap.size 3 i0 Tryd.underlying22 hi hz0 hz1 hz2 (.slice (some ⟨w.heap.size, 0, none⟩) 0 0) 0 [] rfl (World.ownsRow_lit _ #[] 0 (Nat.le_refl _) (by unfold maxLen; omega) rfl) _ _ (some ad) c xs rfl HI.out (by omega) (by simp) ?_; intro v' w' hown hg hat
                 have hown' : RowV w' w.heap.size v' xs := by simpa [RowV] using hown
                 obtain ⟨A2, c2, rfl⟩ := hown'.form
                 have HV := Lib.hid hown'
                 have HG := Lib.hid hg
                 clear hown hown' hg hat)
    go_ret
    exact ⟨_, _, rfl, HV.out, (below_alloc w _).grown HG.out (by simp) (fun k hk => Nat.le_of_eq (by simpa [Value.ownBlock] using hk))⟩

/-- What a row holds reads as numbers. -/
theorem ri_of_row {w : World} {base : Nat} {A : Option Addr} {n c : Nat} {xs : List Int} (h : RowV w base (.slice A n c) xs) : RI w A xs := fun hx => by
  have hn : 0 < xs.length := List.length_pos_iff.2 hx
  rcases h.2 with ⟨hv, h0⟩ | ⟨g, cap, cur, hv, hbk, hk, _⟩
  · omega
  · injection hv with e1 e2 e3
    subst e1 e2 e3
    refine ⟨g, 0, rfl, Nat.zero_le _, (Array.getElem?_eq_some_iff.1 hk).1, fun j hj => ?_⟩
    rw [Nat.zero_add, World.ownsRow.cellAt h j (by omega), List.getElem?_map]
    simp [List.getD_eq_getElem?_getD, hj]

theorem opwp_append_nums {P : Program} {w : World} {o : Oper} {a : Act} {K : Act → World → Prop} {Q : Exit → Act → World → Prop} (s x : Operand) (t : TypeId)
    (ho : o.op = .call { callee := .builtin .append, args := #[s, x], argTypes := #[t, t] })
    (base : Nat) (e : TypeId) (i : TypeInfo) (ht : P.underlying t = some (.slice e)) (hi : P.info? e = some i) (hz : i.zero = some (.int .i64 0)) (hz1 : i.size = 1) (hz2 : i.bytes = 8)
    (v : Value) (n : Nat) (cs : List Value) (hs : a.eval s = v) (hown : w.ownsRow base e 1 v n cs) (lo hi' : Nat) (A : Option Addr) (c : Nat) (xs : List Int) (hx : a.eval x = .slice A xs.length c) (hr : Ints w lo hi' A xs)
    (hn : n + xs.length ≤ 17592186044416) (hbase : base ≤ w.heap.size)
    (h : ∀ v' w', w'.ownsRow base e 1 v' (n + xs.length) (cs ++ xs.map (Value.int .i64)) → w.grownBy w' v.ownBlock → (v'.ownBlock = v.ownBlock ∨ v'.ownBlock = some w.heap.size) → K (a.put o.dst v') w') :
    Oper.wp P o a w K Q := by
  rcases A with _ | ad
  · have hx0 : xs = [] := by
      rcases xs with _ | ⟨y, ys⟩
      · rfl
      · obtain ⟨b, off, h1, _⟩ := hr (by simp)
        cases h1
    subst hx0
    have hrun : (Builtin.append_ #[t, t] o.type #[v, .slice none 0 c]).run P w = .ok v w := by
      rcases hown.2 with ⟨rfl, rfl⟩ | ⟨g, cap, cur, rfl, _, _, hnc, _⟩
      · simp [Builtin.append_, run_underlying ht, sizeOf, typeInfo, hi, Builtin.lenOf, Builtin.firstCells]
      · simp [Builtin.append_, run_underlying ht, sizeOf, typeInfo, hi, Builtin.lenOf, Builtin.firstCells, hnc, storeCells]
    unfold Oper.wp execOp
    simp only [List.length_nil] at hx
    simp only [ho, resolve, invoke, builtin, Sem.run_bind, Sem.run_pure, Result.andThen_ok, List.map_toArray, List.map_cons, List.map_nil, hs, hx, hrun]
    exact h v w (by simpa using hown) (World.grownBy.refl w _) (.inl rfl)
  · obtain ⟨v', w', hr', h2, h3, h4, h5⟩ := run_append_own_at (P := P) w base t o.type e i (.int .i64 0) 1 8 ht hi hz hz1 hz2 rfl (by omega) v n cs hown ad xs.length c (xs.map (Value.int .i64)) (by simp) (fun j u hj => by
      have hj' : j < xs.length := by have := (List.getElem?_eq_some_iff.1 hj).1; simpa using this
      obtain ⟨b, off, h1, _, _, h4⟩ := hr (by rintro rfl; simp at hj')
      injection h1 with h1
      subst h1
      rw [add_eq, h4 j hj']
      rw [List.getElem?_map, List.getElem?_eq_getElem hj'] at hj
      injection hj with hj
      subst hj
      simp [List.getD_eq_getElem?_getD, hj']) (fun u hu => by
      obtain ⟨y, _, rfl⟩ := List.mem_map.1 hu
      rfl) (by unfold maxLen; omega) (by omega) hbase
    unfold Oper.wp execOp
    simp only [ho, resolve, invoke, builtin, Sem.run_bind, Sem.run_pure, Result.andThen_ok, List.map_toArray, List.map_cons, List.map_nil, hs, hx, hr']
    exact h v' w' h2 h3 h5

/-- The same, of a row of numbers. -/
theorem opwp_append_row {w : World} {o : Oper} {a : Act} {K : Act → World → Prop} {Q : Exit → Act → World → Prop} (s x : Operand)
    (ho : o.op = .call { callee := .builtin .append, args := #[s, x], argTypes := #[22, 22] }) (base : Nat) (v : Value) (ys : List Int) (hs : a.eval s = v) (hown : RowV w base v ys)
    (A : Option Addr) (c : Nat) (xs : List Int) (hx : a.eval x = .slice A xs.length c) (hr : RI w A xs) (hn : ys.length + xs.length ≤ 17592186044416) (hbase : base ≤ w.heap.size)
    (h : ∀ v' w', RowV w' base v' (ys ++ xs) → w.grownBy w' v.ownBlock → (v'.ownBlock = v.ownBlock ∨ v'.ownBlock = some w.heap.size) → K (a.put o.dst v') w') :
    Oper.wp Tryd.prog o a w K Q := by
  obtain ⟨i0, hi, hz0, hz1, hz2⟩ := info_parts int_info
  refine opwp_append_nums s x 22 ho base 3 i0 Tryd.underlying22 hi hz0 hz1 hz2 v ys.length _ hs hown _ _ A c xs hx hr hn hbase ?_
  intro v' w' h1 h2 h3
  refine h v' w' ?_ h2 h3
  unfold RowV
  simpa using h1

def Apart (u v : Value) : Prop := u.ownBlock = none ∨ u.ownBlock ≠ v.ownBlock
theorem Apart.symm {u v : Value} (h : Apart u v) : Apart v u := by
  by_cases e : v.ownBlock = none
  · exact .inl e
  · rcases h with h | h
    · exact .inr (by rw [h]; exact e)
    · exact .inr (Ne.symm h)

def upd (T : Nat → Value) (i : Nat) (v : Value) : Nat → Value := fun k => if k = i then v else T k
theorem upd_same (T : Nat → Value) (i : Nat) (v : Value) : upd T i v i = v := if_pos rfl
theorem upd_ne {T : Nat → Value} {i k : Nat} {v : Value} (h : k ≠ i) : upd T i v k = T k := if_neg h

/-- The rows that are live lie apart. -/
structure OwnTs (w : World) (base : Nat) (L : Nat → Option (List Int)) (T : Nat → Value) : Prop where
  row : ∀ i xs, L i = some xs → RowV w base (T i) xs
  apart : ∀ i j xs ys, i ≠ j → L i = some xs → L j = some ys → Apart (T i) (T j)
theorem OwnTs.quiet {w w' : World} {base : Nat} {L L' : Nat → Option (List Int)} {T T' : Nat → Value} (h : OwnTs w base L T) (hb : Below w.heap.size w w') (hL : ∀ k xs, L' k = some xs → L k = some xs ∧ T' k = T k) : OwnTs w' base L' T' := by
  refine ⟨fun i xs hi => ?_, fun i j xs ys hij hi hj => ?_⟩
  · rw [(hL i xs hi).2]
    exact (h.row i xs (hL i xs hi).1).below hb
  · rw [(hL i xs hi).2, (hL j ys hj).2]
    exact h.apart i j xs ys hij (hL i xs hi).1 (hL j ys hj).1
theorem OwnTs.fresh {w w' : World} {base : Nat} {L L' : Nat → Option (List Int)} {T : Nat → Value} (h : OwnTs w base L T) (hb : Below w.heap.size w w') (hbase : base ≤ w.heap.size) {v : Value} {xs : List Int} (hv : RowV w' w.heap.size v xs) (i : Nat)
    (hL : ∀ k ys, L' k = some ys → (k = i ∧ xs = ys) ∨ (k ≠ i ∧ L k = some ys)) : OwnTs w' base L' (upd T i v) := by
  refine ⟨fun k ys hk => ?_, fun k j ys zs hkj hk hj => ?_⟩
  · rcases hL k ys hk with ⟨rfl, rfl⟩ | ⟨hne, hk'⟩
    · rw [upd_same]
      exact hv.mono hbase
    · rw [upd_ne hne]
      exact (h.row k ys hk').below hb
  · rcases hL k ys hk with ⟨rfl, rfl⟩ | ⟨hne, hk'⟩ <;> rcases hL j zs hj with ⟨rfl, rfl⟩ | ⟨hne', hj'⟩
    · exact absurd rfl hkj
    · rw [upd_same, upd_ne hne']
      exact Apart.symm (rows_apart (h.row j zs hj') hv (Nat.le_refl _))
    · rw [upd_same, upd_ne hne]
      exact rows_apart (h.row k ys hk') hv (Nat.le_refl _)
    · rw [upd_ne hne, upd_ne hne']
      exact h.apart k j ys zs hkj hk' hj'
theorem OwnTs.grow {w w' : World} {base : Nat} {L L' : Nat → Option (List Int)} {T : Nat → Value} (h : OwnTs w base L T) {v : Value} {xs zs : List Int} (k i : Nat) (hk : L k = some zs) (hv : RowV w' base v xs) (hg : w.grownBy w' (T k).ownBlock)
    (hat : v.ownBlock = (T k).ownBlock ∨ v.ownBlock = some w.heap.size) (hL : ∀ j ys, L' j = some ys → (j = i ∧ xs = ys) ∨ (j ≠ i ∧ j ≠ k ∧ L j = some ys)) : OwnTs w' base L' (upd T i v) := by
  have key : ∀ j ys, j ≠ k → L j = some ys → Apart (T j) v := by
    intro j ys hjk hj
    have h1 := h.apart j k ys zs hjk hj hk
    rcases h1 with h1 | h1
    · exact .inl h1
    · rcases hat with ha | ha
      · exact .inr (by rw [ha]; exact h1)
      · refine .inr fun e => ?_
        have := World.ownsRow.lt (h.row j ys hj) _ (e.trans ha)
        omega
  refine ⟨fun j ys hj => ?_, fun j l ys us hjl hj hl => ?_⟩
  · rcases hL j ys hj with ⟨rfl, rfl⟩ | ⟨hne, hnk, hj'⟩
    · rw [upd_same]
      exact hv
    · rw [upd_ne hne]
      exact (h.row j ys hj').kept hg (h.apart j k ys zs hnk hj' hk)
  · rcases hL j ys hj with ⟨rfl, rfl⟩ | ⟨hne, hnk, hj'⟩ <;> rcases hL l us hl with ⟨rfl, rfl⟩ | ⟨hne', hnk', hl'⟩
    · exact absurd rfl hjl
    · rw [upd_same, upd_ne hne']
      exact Apart.symm (key l us hnk' hl')
    · rw [upd_same, upd_ne hne]
      exact key j ys hnk hj'
    · rw [upd_ne hne, upd_ne hne']
      exact h.apart j l ys us hjl hj' hl'

/-- The rows that are live: made, and not yet used up. -/
def liveR (tab : Nat → Option (List Int)) (cons : Nat → Nat) (listed : Array Bool) (i : Nat) : Option (List Int) := if listed.getD i false = true ∧ listed.getD (cons i) false = false then tab i else none
theorem live_here {tab : Nat → Option (List Int)} {cons : Nat → Nat} {listed : Array Bool} {i : Nat} {xs : List Int} (h1 : listed.getD i false = true) (h2 : listed.getD (cons i) false = false) (h3 : tab i = some xs) : liveR tab cons listed i = some xs := by
  unfold liveR
  rw [if_pos ⟨h1, h2⟩, h3]
theorem live_set {tab : Nat → Option (List Int)} {cons : Nat → Nat} {listed : Array Bool} {i k : Nat} {ys : List Int} (hi : i < listed.size) (h : liveR tab cons (listed.setIfInBounds i true) k = some ys) :
    (k = i ∧ tab i = some ys) ∨ (k ≠ i ∧ cons k ≠ i ∧ liveR tab cons listed k = some ys) := by
  unfold liveR at h
  split at h
  · rename_i hc
    obtain ⟨h1, h2⟩ := hc
    rw [getD_set hi] at h1 h2
    by_cases e : i = k
    · subst e
      exact .inl ⟨rfl, h⟩
    · by_cases e2 : i = cons k
      · rw [if_pos e2] at h2
        cases h2
      · rw [if_neg e] at h1
        rw [if_neg e2] at h2
        exact .inr ⟨fun x => e x.symm, fun x => e2 x.symm, live_here h1 h2 h⟩
  · cases h
theorem live_none {tab : Nat → Option (List Int)} {cons : Nat → Nat} {i : Nat} (n : Nat) : liveR tab cons (Array.replicate n false) i = none := by
  unfold liveR
  rw [if_neg]
  rintro ⟨h, _⟩
  rw [Array.getD_eq_getD_getElem?] at h
  by_cases hl : i < n
  · simp [hl] at h
  · simp [Array.getElem?_eq_none (show (Array.replicate n false).size ≤ i by simp; omega)] at h
theorem OwnTs.none {w : World} {base : Nat} {tab : Nat → Option (List Int)} {cons : Nat → Nat} {T : Nat → Value} (n : Nat) : OwnTs w base (liveR tab cons (Array.replicate n false)) T :=
  ⟨fun i xs h => (by rw [live_none] at h; cases h), fun i j xs ys _ h => (by rw [live_none] at h; cases h)⟩

/-- What is listed and has a known value, has it. -/
def FV (vals : Nat → Option Value) (listed : Array Bool) (T : Nat → Value) : Prop := ∀ k v, vals k = some v → listed.getD k false = true → T k = v
theorem FV.set {vals : Nat → Option Value} {listed : Array Bool} {T : Nat → Value} (h : FV vals listed T) {i : Nat} (hi : i < listed.size) {v : Value} (hv : ∀ u, vals i = some u → v = u) : FV vals (listed.setIfInBounds i true) (upd T i v) := by
  intro k u hk hl
  rw [getD_set hi] at hl
  by_cases e : k = i
  · subst e
    rw [upd_same]
    exact hv u hk
  · rw [if_neg (fun x => e x.symm)] at hl
    rw [upd_ne e]
    exact h k u hk hl
theorem FV.none {vals : Nat → Option Value} {T : Nat → Value} (n : Nat) : FV vals (Array.replicate n false) T := by
  intro k u _ h
  rw [Array.getD_eq_getD_getElem?] at h
  by_cases hl : k < n
  · simp [hl] at h
  · simp [Array.getElem?_eq_none (show (Array.replicate n false).size ≤ k by simp; omega)] at h

/-- j comes after i. -/
def reach (md : Region.Mode) (ops : Array Oper) : Nat → Nat → Nat → Bool
  | 0, j, i => waits md ops j i
  | n + 1, j, i => waits md ops j i || (List.range ops.size).any fun k => waits md ops j k && reach md ops n k i
theorem closed_reach {md : Region.Mode} {ops : Array Oper} {listed : Array Bool} (hc : Closed md ops listed) : ∀ n j i, reach md ops n j i = true → listed.getD j false = true → listed.getD i false = true := by
  intro n
  induction n with
  | zero => intro j i h hj; exact hc j i hj h
  | succ n ih =>
    intro j i h hj
    unfold reach at h
    rcases Bool.or_eq_true_iff.1 h with h | h
    · exact hc j i hj h
    · obtain ⟨k, _, hk⟩ := List.any_eq_true.1 h
      obtain ⟨h1, h2⟩ := Bool.and_eq_true_iff.1 hk
      exact ih k i h2 (hc j k hj h1)
theorem not_yet {md : Region.Mode} {ops : Array Oper} {listed : Array Bool} (hc : Closed md ops listed) {i : Nat} (hi : listed.getD i false = false) (n j : Nat) (h : reach md ops n j i = true) : listed.getD j false = false := by
  cases hj : listed.getD j false with
  | false => rfl
  | true => rw [closed_reach hc n j i h hj] at hi; cases hi

theorem wpOp_plain {P : Program} {ops : Array Oper} {Q : Exit → Act → World → Prop} {i : Nat} {o : Oper} {K : Act → World → Prop} {a : Act} {w : World} (ho : ops[i]? = some o) (hg : o.guard = none)
    (h : ∀ K' : Act → World → Prop, (∀ a w, K a w → K' a w) → Oper.wp P o a w K' Q) : wpOp P ops Q i K a w :=
  wpOp_step ho fun K' hK => by simp only [Region.wanted, hg, if_true]; exact h K' hK

/-- What holds in the midst of a drawn region. -/
structure RInv (tab : Nat → Option (List Int)) (cons : Nat → Nat) (vals : Nat → Option Value) (w0 : World) (listed : Array Bool) (T : Nat → Value) (u : World) : Prop where
  below : Below w0.heap.size w0 u
  own : OwnTs u w0.heap.size (liveR tab cons listed) T
  fv : FV vals listed T
theorem RInv.start {tab : Nat → Option (List Int)} {cons : Nat → Nat} {vals : Nat → Option Value} {w0 : World} {T : Nat → Value} (n : Nat) : RInv tab cons vals w0 (Array.replicate n false) T (World.drew w0) :=
  ⟨below_drew w0, OwnTs.none n, FV.none n⟩
theorem RInv.quiet {tab : Nat → Option (List Int)} {cons : Nat → Nat} {vals : Nat → Option Value} {w0 : World} {listed : Array Bool} {T : Nat → Value} {u u' : World} (h : RInv tab cons vals w0 listed T u) {i : Nat} {v : Value} (hi : i < listed.size)
    (hb : Below u.heap.size u u') (ht : tab i = none) (hv : ∀ x, vals i = some x → v = x) : RInv tab cons vals w0 (listed.setIfInBounds i true) (upd T i v) u' := by
  refine ⟨step h.below hb, h.own.quiet hb fun k xs hk => ?_, h.fv.set hi hv⟩
  rcases live_set hi hk with ⟨rfl, e⟩ | ⟨h1, _, h3⟩
  · rw [ht] at e; cases e
  · exact ⟨h3, upd_ne h1⟩
theorem RInv.fresh {tab : Nat → Option (List Int)} {cons : Nat → Nat} {vals : Nat → Option Value} {w0 : World} {listed : Array Bool} {T : Nat → Value} {u u' : World} (h : RInv tab cons vals w0 listed T u) {i : Nat} {v : Value} {xs : List Int} (hi : i < listed.size)
    (hb : Below u.heap.size u u') (ht : tab i = some xs) (hx : vals i = none) (hv : RowV u' u.heap.size v xs) : RInv tab cons vals w0 (listed.setIfInBounds i true) (upd T i v) u' := by
  refine ⟨step h.below hb, h.own.fresh hb h.below.size hv i fun k ys hk => ?_, h.fv.set hi fun x hx' => by rw [hx] at hx'; cases hx'⟩
  rcases live_set hi hk with ⟨rfl, e⟩ | ⟨h1, _, h3⟩
  · rw [ht] at e; exact .inl ⟨rfl, by injection e⟩
  · exact .inr ⟨h1, h3⟩
theorem RInv.grow {tab : Nat → Option (List Int)} {cons : Nat → Nat} {vals : Nat → Option Value} {w0 : World} {listed : Array Bool} {T : Nat → Value} {u u' : World} (h : RInv tab cons vals w0 listed T u) {i k : Nat} {v : Value} {xs zs : List Int} (hi : i < listed.size)
    (hk : liveR tab cons listed k = some zs) (hck : cons k = i) (ht : tab i = some xs) (hx : vals i = none) (hv : RowV u' w0.heap.size v xs) (hg : u.grownBy u' (T k).ownBlock) (hat : v.ownBlock = (T k).ownBlock ∨ v.ownBlock = some u.heap.size) :
    RInv tab cons vals w0 (listed.setIfInBounds i true) (upd T i v) u' := by
  refine ⟨h.below.grown hg h.below.size fun j hj => (World.ownsRow.lt (h.own.row k zs hk) j hj).1, h.own.grow k i hk hv hg hat fun j ys hj => ?_, h.fv.set hi fun x hx' => by rw [hx] at hx'; cases hx'⟩
  rcases live_set hi hj with ⟨rfl, e⟩ | ⟨h1, h2, h3⟩
  · rw [ht] at e; exact .inl ⟨rfl, by injection e⟩
  · exact .inr ⟨h1, fun e => h2 (e ▸ hck), h3⟩
/-- The rows that are left, once the store is all that is left. -/
theorem RInv.row {tab : Nat → Option (List Int)} {cons : Nat → Nat} {vals : Nat → Option Value} {w0 : World} {listed : Array Bool} {T : Nat → Value} {u : World} (h : RInv tab cons vals w0 listed T u) {k : Nat} {xs : List Int} (h1 : listed.getD k false = true) (h2 : listed.getD (cons k) false = false) (h3 : tab k = some xs) :
    RowV u w0.heap.size (T k) xs := h.own.row k xs (live_here h1 h2 h3)
theorem RInv.val {tab : Nat → Option (List Int)} {cons : Nat → Nat} {vals : Nat → Option Value} {w0 : World} {listed : Array Bool} {T : Nat → Value} {u : World} (h : RInv tab cons vals w0 listed T u) {k : Nat} {v : Value} (h1 : listed.getD k false = true) (h3 : vals k = some v) : T k = v := h.fv k v h3 h1
end Go.Proofs.YtnmhppiccganoaaDoor

namespace Go.Proofs.YtnmhppiccganoaaDoor
open Go.ChangeShapes Go.WideShapes Go.ChangeAt Go.RowKit Go.Sort
set_option linter.unusedVariables false
set_option linter.unusedSimpArgs false

def ext1 (vs l : List Int) : TL := vs.map fun v => l ++ [v]
/-- All lists of n of the numbers, in order. -/
def lst (vs : List Int) : Nat → TL
  | 0 => [[]]
  | n + 1 => (lst vs n).flatMap (ext1 vs)
/-- What is there of the next lists, in the midst: those of the first k, and j of the list l. -/
def mid (L : TL) (vs : List Int) (k j : Nat) (l : List Int) : TL := (L.take k).flatMap (ext1 vs) ++ ext1 (vs.take j) l
theorem ext1_len (vs l : List Int) : (ext1 vs l).length = vs.length := by simp [ext1]
theorem flat_len (vs : List Int) : ∀ L : TL, (L.flatMap (ext1 vs)).length = L.length * vs.length
  | [] => by simp
  | l :: L => by
    rw [List.flatMap_cons, List.length_append, ext1_len, flat_len vs L, List.length_cons, Nat.add_mul]
    omega
theorem lst_len {vs : List Int} (hv : vs.length ≤ 10) : ∀ n : Nat, (lst vs n).length ≤ 10 ^ n
  | 0 => by simp [lst]
  | n + 1 => by
    show ((lst vs n).flatMap (ext1 vs)).length ≤ _
    rw [flat_len, Nat.pow_succ]
    exact Nat.mul_le_mul (lst_len hv n) hv
theorem lst_le {vs : List Int} (hv : vs.length ≤ 10) {n : Nat} (hn : n ≤ 3) : (lst vs n).length ≤ 1000 := by
  have h1 := lst_len hv n
  have h2 : 10 ^ n ≤ 10 ^ 3 := Nat.pow_le_pow_right (by omega) hn
  omega
theorem mid_start (L : TL) (vs : List Int) (k : Nat) (l : List Int) : mid L vs k 0 l = (L.take k).flatMap (ext1 vs) := by simp [mid, ext1]
theorem mid_push (L : TL) (vs : List Int) (k : Nat) (l : List Int) {j : Nat} (hj : j < vs.length) {v : Int} (hv : vs.getD j 0 = v) : mid L vs k (j + 1) l = mid L vs k j l ++ [l ++ [v]] := by
  unfold mid
  rw [takeI vs hj hv]
  simp [ext1]
theorem mid_end (L : TL) (vs : List Int) {k : Nat} (hk : k < L.length) {l : List Int} (hl : L.getD k [] = l) : mid L vs k vs.length l = (L.take (k + 1)).flatMap (ext1 vs) := by
  unfold mid
  have e : L[k] = l := by rw [← hl]; simp [List.getD_eq_getElem?_getD, hk]
  rw [take_all, List.take_succ_eq_append_getElem hk, e, List.flatMap_append]
  simp
theorem mid_len (L : TL) (vs : List Int) (k j : Nat) (l : List Int) : (mid L vs k j l).length ≤ L.length * vs.length + vs.length := by
  unfold mid
  rw [List.length_append, flat_len, ext1_len]
  have h1 : (L.take k).length ≤ L.length := by rw [List.length_take]; omega
  have h2 : (vs.take j).length ≤ vs.length := by rw [List.length_take]; omega
  have := Nat.mul_le_mul_right vs.length h1
  omega
theorem mid_le {L : TL} {vs : List Int} (hv : vs.length ≤ 10) (hL : L.length ≤ 1000) (k j : Nat) (l : List Int) : (mid L vs k j l).length ≤ 10010 := by
  have h1 := mid_len L vs k j l
  have h2 := Nat.mul_le_mul hL hv
  omega
theorem lst_elem (vs : List Int) : ∀ (n : Nat), ∀ l ∈ lst vs n, l.length = n ∧ ∀ x ∈ l, x ∈ vs
  | 0, l, h => by simp [lst] at h; subst h; simp
  | n + 1, l, h => by
    obtain ⟨l', h1, h2⟩ := List.mem_flatMap.1 h
    obtain ⟨v, h3, rfl⟩ := List.mem_map.1 h2
    obtain ⟨h4, h5⟩ := lst_elem vs n l' h1
    refine ⟨by simp [h4], fun x hx => ?_⟩
    rcases List.mem_append.1 hx with hx | hx
    · exact h5 x hx
    · simp at hx; subst hx; exact h3
theorem getD_mem' {L : TL} {k : Nat} (hk : k < L.length) {l : List Int} (hl : L.getD k [] = l) : l ∈ L := by
  have e : L[k] = l := by rw [← hl]; simp [List.getD_eq_getElem?_getD, hk]
  exact e ▸ List.getElem_mem hk

/-- append(v, y) of one list, in a new block. -/
theorem opwp_pushT {P : Program} {W : World} {o : Oper} {a : Act} {K : Act → World → Prop} {Q : Exit → Act → World → Prop} (s x : Operand) (t : TypeId)
    (ho : o.op = .call { callee := .builtin .append, args := #[s, x], argTypes := #[t, t] })
    (i : TypeInfo) (ht : P.underlying t = some (.slice 22)) (hi : P.info? 22 = some i) (hz : i.zero = some (.slice none 0 0)) (hz1 : i.size = 1) (hz2 : i.bytes = 24)
    {lo mid g : Nat} {v : Value} {ts : TL} {cs : List Value} {bs : Nat → Nat} {xs : List Int} {y : Value} {q : Nat} (hs : a.eval s = v) (hx : a.eval x = .slice (some ⟨g, 0, none⟩) 1 1)
    (hO : OwnCT W lo mid v ts cs bs) (hv : OwnV W mid W.heap.size y q xs) (hb : W.heap[g]? = some (.cells #[y] 22 (0, 0))) (h1 : lo ≤ mid) (h2 : mid ≤ W.heap.size) (hn : ts.length + 1 ≤ 1048580)
    (h : ∀ v' w' cs' bs', OwnCT w' lo w'.heap.size v' (ts ++ [xs]) cs' bs' → W.grownBy w' v.ownBlock → K (a.put o.dst v') w') :
    Oper.wp P o a W K Q := by
  obtain ⟨A, c, rfl, _, _⟩ := hv.form
  refine wp_append_own (P := P) _ s x t ho lo 22 i _ 1 24 ht hi hz hz1 hz2 rfl (by omega) v ts.length cs hs hO.1 ⟨g, 0, none⟩ 1 1 [.slice A xs.length c] hx rfl
    (World.news_of_block (cs := #[.slice A xs.length c]) (t := 22) (fr := (0, 0)) hb) (by simp [Value.oneCell'])
    (by unfold maxLen; omega) (by omega) (by omega) ?_
  intro v' w' hown' hg _
  obtain ⟨bs2, hF⟩ := ownT_append hO hv h1 h2 hown' hg
  exact h v' w' _ bs2 hF hg
theorem wpList_pushT {P : Program} {W : World} {ops : Array Oper} {rest : List Oper} {o : Oper} {a : Act} {Q : Exit → Act → World → Prop} (hgd : o.guard = none) (s x : Operand) (t : TypeId)
    (ho : o.op = .call { callee := .builtin .append, args := #[s, x], argTypes := #[t, t] })
    (i : TypeInfo) (ht : P.underlying t = some (.slice 22)) (hi : P.info? 22 = some i) (hz : i.zero = some (.slice none 0 0)) (hz1 : i.size = 1) (hz2 : i.bytes = 24)
    {lo mid : Nat} {v : Value} {ts : TL} {cs : List Value} {bs : Nat → Nat} {xs : List Int} {y : Value} {q : Nat} (hs : a.eval s = v) (hx : a.eval x = .slice (some ⟨W.heap.size, 0, none⟩) 1 1)
    (hO : OwnCT W lo mid v ts cs bs) (hv : OwnV W mid W.heap.size y q xs) (h1 : lo ≤ mid) (h2 : mid ≤ W.heap.size) (hn : ts.length + 1 ≤ 1048580)
    (h : ∀ v' w' cs' bs', OwnCT w' lo w'.heap.size v' (ts ++ [xs]) cs' bs' → W.grownBy w' v.ownBlock → wpList P ops Q rest (a.put o.dst v') w') :
    wpList P ops Q (o :: rest) a (W.alloc (.cells #[y] 22)) := by
  refine wpList_plain hgd fun K hK => ?_
  have b := below_alloc W (.cells #[y] 22)
  refine opwp_pushT s x t ho i ht hi hz hz1 hz2 hs hx (hO.cur h2 b) ((hv.keep fun _ hq _ => b.block _ hq).mono (Nat.le_refl _) b.size) (heap_alloc_new W _) h1 (Nat.le_trans h2 b.size) hn ?_
  intro v' w' cs' bs' hF hg
  exact hK _ _ (h v' w' cs' bs' hF ((World.grownBy_alloc W _ _).trans hg))
theorem ownBlock_ge {w : World} {lo : Nat} {e : TypeId} {k n : Nat} {v : Value} {cs : List Value} (h : w.ownsRow lo e k v n cs) {b : Nat} (hb : b < lo) : some b ≠ v.ownBlock := fun e => by
  have := (World.ownsRow.lt h b e.symm).1
  omega
theorem below_grown {w w' : World} {B lo : Nat} {e : TypeId} {k n : Nat} {v : Value} {cs : List Value} (h : w.ownsRow lo e k v n cs) (hg : w.grownBy w' v.ownBlock) (hB : B ≤ lo) (hw : B ≤ w.heap.size) : Below B w w' :=
  (Below.refl B w).grown hg hw fun j hj => by have := (World.ownsRow.lt h j hj).1; omega

theorem RowV.own {w : World} {base : Nat} {v : Value} {xs : List Int} (h : RowV w base v xs) : ∃ q, OwnV w base w.heap.size v q xs := ownV_of_row (show w.ownsRow base 3 1 v xs.length (xs.map (Value.int .i64)) from h)
theorem RowV.snoc {w : World} {base : Nat} {v : Value} {l : List Int} {x : Int} (h : w.ownsRow base 3 1 v (l.length + 1) (l.map (Value.int .i64) ++ [.int .i64 x])) : RowV w base v (l ++ [x]) := by
  unfold RowV
  rw [List.length_append, List.map_append]
  exact h
theorem lists_start (w : World) : OwnCT (w.alloc (.cells #[.slice none 0 0] 22)) w.heap.size (w.alloc (.cells #[.slice none 0 0] 22)).heap.size (.slice (some ⟨w.heap.size, 0, none⟩) 1 1) [[]] [.slice none 0 0] (fun _ => 0) := by
  refine ⟨World.ownsRow_lit _ #[.slice none 0 0] 1 (Nat.le_refl _) (by unfold maxLen; omega) rfl, rfl, fun k hk => ?_, fun i j h1 h2 => by simp at h2; omega⟩
  have : k = 0 := by simpa using hk
  subst this
  exact ⟨_, rfl, none, 0, rfl, Nat.le_refl _, by unfold maxLen; omega, fun h => absurd h (by simp)⟩

set_option maxRecDepth 100000 in
set_option maxHeartbeats 4000000 in
theorem listsOf_any (A : Option Addr) (c : Nat) (vs : List Int) (n : Nat) (hv : vs.length ≤ 10) (hn : n ≤ 3) (w : World) (h : RI w A vs) :
    Calls Tryd.prog 33 #[.slice A vs.length c, .int .i64 n] w (AddOutT w (lst vs n)) := by
  obtain ⟨i0, hi, hz0, hz1, hz2⟩ := info_parts int_info
  obtain ⟨j0, ji, jz0, jz1, jz2⟩ := info_parts ints_info
  have HI := Lib.hid h
  have ST := Lib.hid (lists_start w)
  have hnn : (n : Int) ≤ 3 := by omega
  clear h
  go_enter Tryd.func33, Tryd.ntmps33
  go_wp2
  go_loopw [5, 6, 8, 10, 13] (fun o _ _ _ i wr => ∃ (k : Nat) (A2 : Option Addr) (c2 : Nat) (cs : List Value) (bs : Nat → Nat), k ≤ n ∧ i = .int .i64 k ∧ o = .slice A2 (lst vs k).length c2 ∧ Hid (OwnCT wr w.heap.size wr.heap.size (.slice A2 (lst vs k).length c2) (lst vs k) cs bs) ∧ Hid (Below w.heap.size w wr)) (fun _ _ _ _ i _ => n - (intOf i).toNat)
  case atStart => exact ⟨0, _, _, _, _, by omega, rfl, rfl, ST, Lib.hid (below_alloc _ _)⟩
  case round =>
    obtain ⟨k, A2, c2, cs, bs, hk, rfl, rfl, hO, hB⟩ := hrel
    by_cases hlt : k < n
    · have hk1 : (k : Int) < (n : Int) := by omega
      have hL := lst_le hv (show k ≤ 3 by omega)
      have EL := Lib.hid (show lst vs (k + 1) = (lst vs k).flatMap (ext1 vs) from rfl)
      have ELM := Lib.hid fun l (hl : l ∈ lst vs k) => (lst_elem vs k l hl).1
      generalize lst vs k = L at hO hL EL ELM
      have hL' : (L.length : Int) ≤ 1000 := by omega
      have hB0 := hB.out.size
      generalize wr = wo at *
      go_wp2
      go_loopw [6, 8, 10, 17] (fun o _ _ i wr2 => ∃ (m : Nat) (A3 : Option Addr) (c3 : Nat) (out : TL) (cs3 : List Value) (bs3 : Nat → Nat), m ≤ L.length ∧ i = .int .i64 m ∧ o = .slice A3 out.length c3 ∧ Hid (out = (L.take m).flatMap (ext1 vs)) ∧ Hid (OwnCT wr2 wo.heap.size wr2.heap.size (.slice A3 out.length c3) out cs3 bs3) ∧ Hid (Below wo.heap.size wo wr2)) (fun _ _ _ i _ => L.length - (intOf i).toNat)
      case atStart => exact ⟨0, none, 0, [], [], fun _ => 0, by omega, rfl, rfl, Lib.hid (by simp), Lib.hid ⟨World.ownsRow_nil _ _ _ _, ItemsT.nil _ _ _⟩, Lib.hid (Below.refl _ _)⟩
      case round =>
        obtain ⟨m, A3, c3, out, cs3, bs3, hm, rfl, rfl, hE, hP, hD⟩ := hrel
        have hm0 : (0 : Int) ≤ (m : Int) := by omega
        by_cases hmt : m < L.length
        · have hm1 : (m : Int) < (L.length : Int) := by omega
          generalize hf : L.getD m [] = l
          have HL := Lib.hid (ELM.out l (getD_mem' hmt hf))
          have EE := Lib.hid (mid_end L vs hmt hf)
          have E0 := Lib.hid (show out = mid L vs m 0 l by rw [mid_start]; exact hE.out)
          have hll : l.length ≤ 1000 := by rw [HL.out]; omega
          have hll' : (l.length : Int) ≤ 1000 := by omega
          obtain ⟨b, off, B, c4, rfl, nb, e0', _, _, hI⟩ := hO.out.rt.at_ hmt hf
          have e0 := (hD.out.cell (p := ⟨b, off + m, none⟩) nb).trans e0'
          have HW := Lib.hid hI
          generalize wr = wm at *
          clear hf hI e0'
          go_wp2
          go_loopw [6, 10, 23] (fun o _ i wr3 => ∃ (j : Nat) (A3 : Option Addr) (c3 : Nat) (out : TL) (cs3 : List Value) (bs3 : Nat → Nat), j ≤ vs.length ∧ i = .int .i64 j ∧ o = .slice A3 out.length c3 ∧ Hid (out = mid L vs m j l) ∧ Hid (OwnCT wr3 wo.heap.size wr3.heap.size (.slice A3 out.length c3) out cs3 bs3) ∧ Hid (Below wo.heap.size wo wr3)) (fun _ _ i _ => vs.length - (intOf i).toNat)
          case atStart => exact ⟨0, A3, c3, out, cs3, bs3, by omega, rfl, rfl, E0, hP, hD⟩
          case round =>
            clear e0
            obtain ⟨j, A3, c3, out, cs3, bs3, hj, rfl, rfl, hE, hP, hD⟩ := hrel
            have hj0 : (0 : Int) ≤ (j : Int) := by omega
            by_cases hjt : j < vs.length
            · have hj1 : (j : Int) < (vs.length : Int) := by omega
              have hbs := hD.out.size
              obtain ⟨b2, off2, rfl, nb2, hc2⟩ := ((HI.out.step hB.out).step hD.out).at_ hjt
              generalize hx : vs.getD j 0 = x at hc2
              have E2 := Lib.hid (show mid L vs m (j + 1) l = out ++ [l ++ [x]] by rw [mid_push L vs m l hjt hx, hE.out])
              have hol := mid_le hv hL m j l
              rw [← hE.out] at hol
              have XC := Lib.hid (clone_row B c4 l (by omega) wr (HW.out.step hD.out))
              clear hx
              go_wp2_with fail
              refine XC.out.mono ?_
              rintro e w4 ⟨A4, c4', rfl, hr4, d4⟩
              have O4 := Lib.hid (show w4.ownsRow wr.heap.size 3 1 (.slice A4 l.length c4') l.length (l.map (Value.int .i64)) from hr4)
              have D4 := Lib.hid d4
              have Z4 := d4.size
              clear hr4 d4
              go_wp2_with (at_builtin; refine wpList_push (w0 := wr) rfl _ _ _ 3 rfl i0 Tryd.underlying22 hi (.int .i64 0) 8 hz0 hz1 hz2 rfl (by omega) rfl rfl rfl O4.out D4.out Z4 (by omega) ?_)
              intro v5 w5 hown5 hb5 hsz5
              obtain ⟨A5, c5, rfl⟩ := (RowV.snoc hown5).form
              have D5 := Lib.hid hb5
              have Z5 := hb5.size
              obtain ⟨q5, hv5⟩ := (RowV.snoc hown5).own
              have V5 := Lib.hid (show OwnV w5 wr.heap.size w5.heap.size (.slice A5 (l.length + 1) c5) q5 (l ++ [x]) by rw [List.length_append] at hv5; exact hv5)
              have P5 := Lib.hid (hP.out.cur (Nat.le_refl _) hb5)
              clear hown5 hb5 hsz5 hv5
              go_wp2_with (at_builtin; refine wpList_pushT rfl _ _ 63 rfl j0 Tryd.underlying63 ji jz0 jz1 jz2 rfl rfl P5.out V5.out hbs Z5 (by omega) ?_)
              intro v6 w6 cs6 bs6 hF6 hg6
              obtain ⟨A6, c6, rfl⟩ := hF6.form
              have F6 := Lib.hid hF6
              have G6 := Lib.hid (show Below wo.heap.size w5 w6 from below_grown P5.out.1 hg6 (Nat.le_refl _) (by omega))
              clear hF6 hg6
              go_wp2
              go_roundw
              case rel => exact ⟨j + 1, A6, c6, _, cs6, bs6, by omega, by go_num, by rw [List.length_append], Lib.hid E2.out.symm, F6, Lib.hid (hD.out.trans ((D5.out.mono hbs).trans G6.out))⟩
              case measure => simp [intOf]; omega
            · obtain rfl : j = vs.length := by omega
              have E2 := Lib.hid (show out = (L.take (m + 1)).flatMap (ext1 vs) by rw [← EE.out]; exact hE.out)
              go_wp2
              go_roundw
              case rel => exact ⟨m + 1, A3, c3, out, cs3, bs3, by omega, by go_num, rfl, E2, hP, hD⟩
              case measure => simp [intOf]; omega
        · obtain rfl : m = L.length := by omega
          have E2 := Lib.hid (show out = lst vs (k + 1) by rw [EL.out, hE.out, take_all])
          go_wp2
          go_roundw
          case rel => exact ⟨k + 1, A3, c3, cs3, bs3, by omega, by go_num, by rw [← E2.out], Lib.hid (by rw [← E2.out]; exact hP.out.lo hB0), Lib.hid (hB.out.trans (hD.out.mono hB0))⟩
          case measure => simp [intOf]; omega
    · obtain rfl : k = n := by omega
      go_wp2
      go_ret
      exact ⟨A2, c2, cs, bs, rfl, hO.out, hB.out⟩
end Go.Proofs.YtnmhppiccganoaaDoor
