/- Own rows of numbers in a drawn region. Conditions: none beyond each theorem's own. What the two functions IsMapping answer. Conditions: none beyond each theorem's own. -/
import Derived.Test.YtpdmkdhnidgjoaaFz5
import Derived.Test.YtpdmkdhnidgjoaaFz4
import Derived.Test.YtpdmkdhnidgjoaaHas

namespace Go.Proofs.Ytpdmkdhnidgjoaa
open Go.ChangeShapes Go.WideShapes Go.ChangeAt Go.RowKit Go.Sort
open Go.Maps (Keyed int_keyed keyOf_int_mk)
set_option linter.unusedVariables false
set_option linter.unusedSimpArgs false

/-- A row of the call's own that holds the numbers xs. -/
def RowV (w : World) (base : Nat) (v : Value) (xs : List Int) : Prop := w.ownsRow base 3 1 v xs.length (xs.map (Value.int .i64))
theorem RowV.form {w : World} {base : Nat} {v : Value} {xs : List Int} (h : RowV w base v xs) : ∃ X c, v = .slice X xs.length c := by
  rcases h.2 with ⟨hv, h0⟩ | ⟨_, _, _, hv, _⟩
  · have : xs.length = 0 := by simpa using h0
    exact ⟨none, 0, by rw [hv, this]⟩
  · exact ⟨_, _, hv⟩
theorem RowV.below {w w' : World} {base : Nat} {v : Value} {xs : List Int} (h : RowV w base v xs) (hb : Below w.heap.size w w') : RowV w' base v xs := ownsRow_below h hb
theorem RowV.kept {w w' : World} {base : Nat} {v : Value} {xs : List Int} {row : Option Nat} (h : RowV w base v xs) (hg : w.grownBy w' row) (hne : v.ownBlock = none ∨ v.ownBlock ≠ row) : RowV w' base v xs := World.ownsRow.kept h hg hne
theorem RowV.mono {w : World} {base base' : Nat} {v : Value} {xs : List Int} (h : RowV w base v xs) (hb : base' ≤ base) : RowV w base' v xs := by
  refine ⟨h.1, ?_⟩
  rcases h.2 with hn | ⟨k, cap, cur, hv, hbk, r⟩
  · exact .inl hn
  · exact .inr ⟨k, cap, cur, hv, by omega, r⟩
theorem rows_apart {w w' : World} {b1 b2 : Nat} {v1 v2 : Value} {xs ys : List Int} (h1 : RowV w b1 v1 xs) (h2 : RowV w' b2 v2 ys) (hle : w.heap.size ≤ b2) : v1.ownBlock = none ∨ v1.ownBlock ≠ v2.ownBlock := by
  cases e : v1.ownBlock with
  | none => exact .inl rfl
  | some k =>
    refine .inr fun e2 => ?_
    have h3 := World.ownsRow.lt h1 k e
    have h4 := World.ownsRow.lt h2 k e2.symm
    omega
theorem RowV.set {w : World} {base g i : Nat} {v u : Value} {xs : List Int} {bx : Array Value} {t : TypeId} (h : RowV w base v xs) (hb : Box w g bx t) (ht : t ≠ 3) : RowV (w.setCell ⟨g, i, none⟩ u) base v xs := by
  refine ⟨h.1, ?_⟩
  rcases h.2 with hn | ⟨k, cap, cur, hv, hbk, hk, r⟩
  · exact .inl hn
  · refine .inr ⟨k, cap, cur, hv, hbk, ?_, r⟩
    rw [Below.heap_setCell _ _ _ _ (fun e => by
      have e' : k = g := e
      unfold Box at hb
      rw [e', hb] at hk
      injection hk with hk
      injection hk with _ h2
      exact ht h2)]
    exact hk

set_option maxRecDepth 100000 in
set_option maxHeartbeats 400000 in
theorem clone_row (A : Option Addr) (c : Nat) (xs : List Int) (hl : xs.length ≤ 1048576) (w : World) (h : RI w A xs) :
    Calls Try.prog 105 #[.slice A xs.length c] w fun e w' => ∃ X c', e = .returned (.slice X xs.length c') ∧ RowV w' w.heap.size (.slice X xs.length c') xs ∧ Below w.heap.size w w' := by
  obtain ⟨i0, hi, hz0, hz1, hz2⟩ := info_parts int_info
  have hq := fun (W : World) (n c : Nat) => Lib.run_eql_slice_nil (P := Try.prog) W 22 3 A n c 0 0 Try.underlying22
  rcases A with _ | ad
  · have hx0 : xs = [] := by
      rcases xs with _ | ⟨y, ys⟩
      · rfl
      · obtain ⟨b, off, h1, _⟩ := h (by simp)
        cases h1
    subst hx0
    go_enter Try.func105, Try.ntmps105
    go_wp2
    go_ret
    exact ⟨none, 0, rfl, World.ownsRow_nil _ _ _ _, Below.refl _ _⟩
  · have HI := Lib.hid (h.step (below_alloc w (.cells #[] 3)))
    clear h
    go_enter Try.func105, Try.ntmps105
    go_wp2_with (at_builtin; refine wpList_append_nums rfl _ _ 22 rfl w.heap.size 3 i0 Try.underlying22 hi hz0 hz1 hz2 (.slice (some ⟨w.heap.size, 0, none⟩) 0 0) 0 [] rfl (World.ownsRow_lit _ #[] 0 (Nat.le_refl _) (by unfold maxLen; omega) rfl) _ _ (some ad) c xs rfl HI.out (by omega) (by simp) ?_; intro v' w' hown hg hat
                 have hown' : RowV w' w.heap.size v' xs := by simpa [RowV] using hown
                 obtain ⟨A2, c2, rfl⟩ := hown'.form
                 have HV := Lib.hid hown'
                 have HG := Lib.hid hg
                 clear hown hown' hg hat)
    go_ret
    exact ⟨_, _, rfl, HV.out, (below_alloc w _).grown HG.out (by simp) (fun k hk => Nat.le_of_eq (by simpa [Value.ownBlock] using hk))⟩

/-- What a row holds reads as numbers. -/
theorem ri_of_row {w : World} {base : Nat} {A : Option Addr} {n c : Nat} {xs : List Int} (h : RowV w base (.slice A n c) xs) : RI w A xs := fun hx => by
  have hn : 0 < xs.length := List.length_pos_iff.2 hx
  rcases h.2 with ⟨hv, h0⟩ | ⟨g, cap, cur, hv, hbk, hk, _⟩
  · omega
  · injection hv with e1 e2 e3
    subst e1 e2 e3
    refine ⟨g, 0, rfl, Nat.zero_le _, (Array.getElem?_eq_some_iff.1 hk).1, fun j hj => ?_⟩
    rw [Nat.zero_add, World.ownsRow.cellAt h j (by omega), List.getElem?_map]
    simp [List.getD_eq_getElem?_getD, hj]

theorem opwp_append_nums {P : Program} {w : World} {o : Oper} {a : Act} {K : Act → World → Prop} {Q : Exit → Act → World → Prop} (s x : Operand) (t : TypeId)
    (ho : o.op = .call { callee := .builtin .append, args := #[s, x], argTypes := #[t, t] })
    (base : Nat) (e : TypeId) (i : TypeInfo) (ht : P.underlying t = some (.slice e)) (hi : P.info? e = some i) (hz : i.zero = some (.int .i64 0)) (hz1 : i.size = 1) (hz2 : i.bytes = 8)
    (v : Value) (n : Nat) (cs : List Value) (hs : a.eval s = v) (hown : w.ownsRow base e 1 v n cs) (lo hi' : Nat) (A : Option Addr) (c : Nat) (xs : List Int) (hx : a.eval x = .slice A xs.length c) (hr : Ints w lo hi' A xs)
    (hn : n + xs.length ≤ 17592186044416) (hbase : base ≤ w.heap.size)
    (h : ∀ v' w', w'.ownsRow base e 1 v' (n + xs.length) (cs ++ xs.map (Value.int .i64)) → w.grownBy w' v.ownBlock → (v'.ownBlock = v.ownBlock ∨ v'.ownBlock = some w.heap.size) → K (a.put o.dst v') w') :
    Oper.wp P o a w K Q := by
  rcases A with _ | ad
  · have hx0 : xs = [] := by
      rcases xs with _ | ⟨y, ys⟩
      · rfl
      · obtain ⟨b, off, h1, _⟩ := hr (by simp)
        cases h1
    subst hx0
    have hrun : (Builtin.append_ #[t, t] o.type #[v, .slice none 0 c]).run P w = .ok v w := by
      rcases hown.2 with ⟨rfl, rfl⟩ | ⟨g, cap, cur, rfl, _, _, hnc, _⟩
      · simp [Builtin.append_, run_underlying ht, sizeOf, typeInfo, hi, Builtin.lenOf, Builtin.firstCells]
      · simp [Builtin.append_, run_underlying ht, sizeOf, typeInfo, hi, Builtin.lenOf, Builtin.firstCells, hnc, storeCells]
    unfold Oper.wp execOp
    simp only [List.length_nil] at hx
    simp only [ho, resolve, invoke, builtin, Sem.run_bind, Sem.run_pure, Result.andThen_ok, List.map_toArray, List.map_cons, List.map_nil, hs, hx, hrun]
    exact h v w (by simpa using hown) (World.grownBy.refl w _) (.inl rfl)
  · obtain ⟨v', w', hr', h2, h3, h4, h5⟩ := run_append_own_at (P := P) w base t o.type e i (.int .i64 0) 1 8 ht hi hz hz1 hz2 rfl (by omega) v n cs hown ad xs.length c (xs.map (Value.int .i64)) (by simp) (fun j u hj => by
      have hj' : j < xs.length := by have := (List.getElem?_eq_some_iff.1 hj).1; simpa using this
      obtain ⟨b, off, h1, _, _, h4⟩ := hr (by rintro rfl; simp at hj')
      injection h1 with h1
      subst h1
      rw [add_eq, h4 j hj']
      rw [List.getElem?_map, List.getElem?_eq_getElem hj'] at hj
      injection hj with hj
      subst hj
      simp [List.getD_eq_getElem?_getD, hj']) (fun u hu => by
      obtain ⟨y, _, rfl⟩ := List.mem_map.1 hu
      rfl) (by unfold maxLen; omega) (by omega) hbase
    unfold Oper.wp execOp
    simp only [ho, resolve, invoke, builtin, Sem.run_bind, Sem.run_pure, Result.andThen_ok, List.map_toArray, List.map_cons, List.map_nil, hs, hx, hr']
    exact h v' w' h2 h3 h5

/-- The same, of a row of numbers. -/
theorem opwp_append_row {w : World} {o : Oper} {a : Act} {K : Act → World → Prop} {Q : Exit → Act → World → Prop} (s x : Operand)
    (ho : o.op = .call { callee := .builtin .append, args := #[s, x], argTypes := #[22, 22] }) (base : Nat) (v : Value) (ys : List Int) (hs : a.eval s = v) (hown : RowV w base v ys)
    (A : Option Addr) (c : Nat) (xs : List Int) (hx : a.eval x = .slice A xs.length c) (hr : RI w A xs) (hn : ys.length + xs.length ≤ 17592186044416) (hbase : base ≤ w.heap.size)
    (h : ∀ v' w', RowV w' base v' (ys ++ xs) → w.grownBy w' v.ownBlock → (v'.ownBlock = v.ownBlock ∨ v'.ownBlock = some w.heap.size) → K (a.put o.dst v') w') :
    Oper.wp Try.prog o a w K Q := by
  obtain ⟨i0, hi, hz0, hz1, hz2⟩ := info_parts int_info
  refine opwp_append_nums s x 22 ho base 3 i0 Try.underlying22 hi hz0 hz1 hz2 v ys.length _ hs hown _ _ A c xs hx hr hn hbase ?_
  intro v' w' h1 h2 h3
  refine h v' w' ?_ h2 h3
  unfold RowV
  simpa using h1

def Apart (u v : Value) : Prop := u.ownBlock = none ∨ u.ownBlock ≠ v.ownBlock
theorem Apart.symm {u v : Value} (h : Apart u v) : Apart v u := by
  by_cases e : v.ownBlock = none
  · exact .inl e
  · rcases h with h | h
    · exact .inr (by rw [h]; exact e)
    · exact .inr (Ne.symm h)

def upd (T : Nat → Value) (i : Nat) (v : Value) : Nat → Value := fun k => if k = i then v else T k
theorem upd_same (T : Nat → Value) (i : Nat) (v : Value) : upd T i v i = v := if_pos rfl
theorem upd_ne {T : Nat → Value} {i k : Nat} {v : Value} (h : k ≠ i) : upd T i v k = T k := if_neg h

/-- The rows that are live lie apart. -/
structure OwnTs (w : World) (base : Nat) (L : Nat → Option (List Int)) (T : Nat → Value) : Prop where
  row : ∀ i xs, L i = some xs → RowV w base (T i) xs
  apart : ∀ i j xs ys, i ≠ j → L i = some xs → L j = some ys → Apart (T i) (T j)
theorem OwnTs.quiet {w w' : World} {base : Nat} {L L' : Nat → Option (List Int)} {T T' : Nat → Value} (h : OwnTs w base L T) (hb : Below w.heap.size w w') (hL : ∀ k xs, L' k = some xs → L k = some xs ∧ T' k = T k) : OwnTs w' base L' T' := by
  refine ⟨fun i xs hi => ?_, fun i j xs ys hij hi hj => ?_⟩
  · rw [(hL i xs hi).2]
    exact (h.row i xs (hL i xs hi).1).below hb
  · rw [(hL i xs hi).2, (hL j ys hj).2]
    exact h.apart i j xs ys hij (hL i xs hi).1 (hL j ys hj).1
theorem OwnTs.fresh {w w' : World} {base : Nat} {L L' : Nat → Option (List Int)} {T : Nat → Value} (h : OwnTs w base L T) (hb : Below w.heap.size w w') (hbase : base ≤ w.heap.size) {v : Value} {xs : List Int} (hv : RowV w' w.heap.size v xs) (i : Nat)
    (hL : ∀ k ys, L' k = some ys → (k = i ∧ xs = ys) ∨ (k ≠ i ∧ L k = some ys)) : OwnTs w' base L' (upd T i v) := by
  refine ⟨fun k ys hk => ?_, fun k j ys zs hkj hk hj => ?_⟩
  · rcases hL k ys hk with ⟨rfl, rfl⟩ | ⟨hne, hk'⟩
    · rw [upd_same]
      exact hv.mono hbase
    · rw [upd_ne hne]
      exact (h.row k ys hk').below hb
  · rcases hL k ys hk with ⟨rfl, rfl⟩ | ⟨hne, hk'⟩ <;> rcases hL j zs hj with ⟨rfl, rfl⟩ | ⟨hne', hj'⟩
    · exact absurd rfl hkj
    · rw [upd_same, upd_ne hne']
      exact Apart.symm (rows_apart (h.row j zs hj') hv (Nat.le_refl _))
    · rw [upd_same, upd_ne hne]
      exact rows_apart (h.row k ys hk') hv (Nat.le_refl _)
    · rw [upd_ne hne, upd_ne hne']
      exact h.apart k j ys zs hkj hk' hj'
theorem OwnTs.grow {w w' : World} {base : Nat} {L L' : Nat → Option (List Int)} {T : Nat → Value} (h : OwnTs w base L T) {v : Value} {xs zs : List Int} (k i : Nat) (hk : L k = some zs) (hv : RowV w' base v xs) (hg : w.grownBy w' (T k).ownBlock)
    (hat : v.ownBlock = (T k).ownBlock ∨ v.ownBlock = some w.heap.size) (hL : ∀ j ys, L' j = some ys → (j = i ∧ xs = ys) ∨ (j ≠ i ∧ j ≠ k ∧ L j = some ys)) : OwnTs w' base L' (upd T i v) := by
  have key : ∀ j ys, j ≠ k → L j = some ys → Apart (T j) v := by
    intro j ys hjk hj
    have h1 := h.apart j k ys zs hjk hj hk
    rcases h1 with h1 | h1
    · exact .inl h1
    · rcases hat with ha | ha
      · exact .inr (by rw [ha]; exact h1)
      · refine .inr fun e => ?_
        have := World.ownsRow.lt (h.row j ys hj) _ (e.trans ha)
        omega
  refine ⟨fun j ys hj => ?_, fun j l ys us hjl hj hl => ?_⟩
  · rcases hL j ys hj with ⟨rfl, rfl⟩ | ⟨hne, hnk, hj'⟩
    · rw [upd_same]
      exact hv
    · rw [upd_ne hne]
      exact (h.row j ys hj').kept hg (h.apart j k ys zs hnk hj' hk)
  · rcases hL j ys hj with ⟨rfl, rfl⟩ | ⟨hne, hnk, hj'⟩ <;> rcases hL l us hl with ⟨rfl, rfl⟩ | ⟨hne', hnk', hl'⟩
    · exact absurd rfl hjl
    · rw [upd_same, upd_ne hne']
      exact Apart.symm (key l us hnk' hl')
    · rw [upd_same, upd_ne hne]
      exact key j ys hnk hj'
    · rw [upd_ne hne, upd_ne hne']
      exact h.apart j l ys us hjl hj' hl'

/-- The rows that are live: made, and not yet used up. -/
def liveR (tab : Nat → Option (List Int)) (cons : Nat → Nat) (listed : Array Bool) (i : Nat) : Option (List Int) := if listed.getD i false = true ∧ listed.getD (cons i) false = false then tab i else none
theorem live_here {tab : Nat → Option (List Int)} {cons : Nat → Nat} {listed : Array Bool} {i : Nat} {xs : List Int} (h1 : listed.getD i false = true) (h2 : listed.getD (cons i) false = false) (h3 : tab i = some xs) : liveR tab cons listed i = some xs := by
  unfold liveR
  rw [if_pos ⟨h1, h2⟩, h3]
theorem live_set {tab : Nat → Option (List Int)} {cons : Nat → Nat} {listed : Array Bool} {i k : Nat} {ys : List Int} (hi : i < listed.size) (h : liveR tab cons (listed.setIfInBounds i true) k = some ys) :
    (k = i ∧ tab i = some ys) ∨ (k ≠ i ∧ cons k ≠ i ∧ liveR tab cons listed k = some ys) := by
  unfold liveR at h
  split at h
  · rename_i hc
    obtain ⟨h1, h2⟩ := hc
    rw [getD_set hi] at h1 h2
    by_cases e : i = k
    · subst e
      exact .inl ⟨rfl, h⟩
    · by_cases e2 : i = cons k
      · rw [if_pos e2] at h2
        cases h2
      · rw [if_neg e] at h1
        rw [if_neg e2] at h2
        exact .inr ⟨fun x => e x.symm, fun x => e2 x.symm, live_here h1 h2 h⟩
  · cases h
theorem live_none {tab : Nat → Option (List Int)} {cons : Nat → Nat} {i : Nat} (n : Nat) : liveR tab cons (Array.replicate n false) i = none := by
  unfold liveR
  rw [if_neg]
  rintro ⟨h, _⟩
  rw [Array.getD_eq_getD_getElem?] at h
  by_cases hl : i < n
  · simp [hl] at h
  · simp [Array.getElem?_eq_none (show (Array.replicate n false).size ≤ i by simp; omega)] at h
theorem OwnTs.none {w : World} {base : Nat} {tab : Nat → Option (List Int)} {cons : Nat → Nat} {T : Nat → Value} (n : Nat) : OwnTs w base (liveR tab cons (Array.replicate n false)) T :=
  ⟨fun i xs h => (by rw [live_none] at h; cases h), fun i j xs ys _ h => (by rw [live_none] at h; cases h)⟩

/-- What is listed and has a known value, has it. -/
def FV (vals : Nat → Option Value) (listed : Array Bool) (T : Nat → Value) : Prop := ∀ k v, vals k = some v → listed.getD k false = true → T k = v
theorem FV.set {vals : Nat → Option Value} {listed : Array Bool} {T : Nat → Value} (h : FV vals listed T) {i : Nat} (hi : i < listed.size) {v : Value} (hv : ∀ u, vals i = some u → v = u) : FV vals (listed.setIfInBounds i true) (upd T i v) := by
  intro k u hk hl
  rw [getD_set hi] at hl
  by_cases e : k = i
  · subst e
    rw [upd_same]
    exact hv u hk
  · rw [if_neg (fun x => e x.symm)] at hl
    rw [upd_ne e]
    exact h k u hk hl
theorem FV.none {vals : Nat → Option Value} {T : Nat → Value} (n : Nat) : FV vals (Array.replicate n false) T := by
  intro k u _ h
  rw [Array.getD_eq_getD_getElem?] at h
  by_cases hl : k < n
  · simp [hl] at h
  · simp [Array.getElem?_eq_none (show (Array.replicate n false).size ≤ k by simp; omega)] at h

/-- j comes after i. -/
def reach (md : Region.Mode) (ops : Array Oper) : Nat → Nat → Nat → Bool
  | 0, j, i => waits md ops j i
  | n + 1, j, i => waits md ops j i || (List.range ops.size).any fun k => waits md ops j k && reach md ops n k i
theorem closed_reach {md : Region.Mode} {ops : Array Oper} {listed : Array Bool} (hc : Closed md ops listed) : ∀ n j i, reach md ops n j i = true → listed.getD j false = true → listed.getD i false = true := by
  intro n
  induction n with
  | zero => intro j i h hj; exact hc j i hj h
  | succ n ih =>
    intro j i h hj
    unfold reach at h
    rcases Bool.or_eq_true_iff.1 h with h | h
    · exact hc j i hj h
    · obtain ⟨k, _, hk⟩ := List.any_eq_true.1 h
      obtain ⟨h1, h2⟩ := Bool.and_eq_true_iff.1 hk
      exact ih k i h2 (hc j k hj h1)
theorem not_yet {md : Region.Mode} {ops : Array Oper} {listed : Array Bool} (hc : Closed md ops listed) {i : Nat} (hi : listed.getD i false = false) (n j : Nat) (h : reach md ops n j i = true) : listed.getD j false = false := by
  cases hj : listed.getD j false with
  | false => rfl
  | true => rw [closed_reach hc n j i h hj] at hi; cases hi

theorem wpOp_plain {P : Program} {ops : Array Oper} {Q : Exit → Act → World → Prop} {i : Nat} {o : Oper} {K : Act → World → Prop} {a : Act} {w : World} (ho : ops[i]? = some o) (hg : o.guard = none)
    (h : ∀ K' : Act → World → Prop, (∀ a w, K a w → K' a w) → Oper.wp P o a w K' Q) : wpOp P ops Q i K a w :=
  wpOp_step ho fun K' hK => by simp only [Region.wanted, hg, if_true]; exact h K' hK

/-- A binding made anew, at g. -/
def NewB (w : World) (base g : Nat) (ts vs : List Int) : Prop := ∃ X c Y d, Box w g #[.slice X ts.length c, .slice Y vs.length d] 29 ∧ RowV w base (.slice X ts.length c) ts ∧ RowV w base (.slice Y vs.length d) vs
theorem NewB.store {w : World} {base g X c Y d} {ts vs : List Int} {cs : Array Value} (h : Box w g cs 29) (hcs : cs.size = 2) (h1 : RowV w base (.slice X ts.length c) ts) (h2 : RowV w base (.slice Y vs.length d) vs) :
    NewB ((w.setCell ⟨g, 0, none⟩ (.slice X ts.length c)).setCell ⟨g, 1, none⟩ (.slice Y vs.length d)) base g ts vs := by
  obtain ⟨a, b, rfl⟩ : ∃ a b, cs = #[a, b] := by
    obtain ⟨l⟩ := cs
    match l, hcs with
    | [a, b], _ => exact ⟨a, b, rfl⟩
  have s1 := h.set 0 (.slice X ts.length c)
  have s2 := s1.set 1 (.slice Y vs.length d)
  exact ⟨X, c, Y, d, s2, (h1.set h (by decide)).set s1 (by decide), (h2.set h (by decide)).set s1 (by decide)⟩

/-- What holds in the midst of a drawn region. -/
structure RInv (tab : Nat → Option (List Int)) (cons : Nat → Nat) (vals : Nat → Option Value) (w0 : World) (listed : Array Bool) (T : Nat → Value) (u : World) : Prop where
  below : Below w0.heap.size w0 u
  own : OwnTs u w0.heap.size (liveR tab cons listed) T
  fv : FV vals listed T
theorem RInv.start {tab : Nat → Option (List Int)} {cons : Nat → Nat} {vals : Nat → Option Value} {w0 : World} {T : Nat → Value} (n : Nat) : RInv tab cons vals w0 (Array.replicate n false) T (World.drew w0) :=
  ⟨below_drew w0, OwnTs.none n, FV.none n⟩
theorem RInv.quiet {tab : Nat → Option (List Int)} {cons : Nat → Nat} {vals : Nat → Option Value} {w0 : World} {listed : Array Bool} {T : Nat → Value} {u u' : World} (h : RInv tab cons vals w0 listed T u) {i : Nat} {v : Value} (hi : i < listed.size)
    (hb : Below u.heap.size u u') (ht : tab i = none) (hv : ∀ x, vals i = some x → v = x) : RInv tab cons vals w0 (listed.setIfInBounds i true) (upd T i v) u' := by
  refine ⟨step h.below hb, h.own.quiet hb fun k xs hk => ?_, h.fv.set hi hv⟩
  rcases live_set hi hk with ⟨rfl, e⟩ | ⟨h1, _, h3⟩
  · rw [ht] at e; cases e
  · exact ⟨h3, upd_ne h1⟩
theorem RInv.fresh {tab : Nat → Option (List Int)} {cons : Nat → Nat} {vals : Nat → Option Value} {w0 : World} {listed : Array Bool} {T : Nat → Value} {u u' : World} (h : RInv tab cons vals w0 listed T u) {i : Nat} {v : Value} {xs : List Int} (hi : i < listed.size)
    (hb : Below u.heap.size u u') (ht : tab i = some xs) (hx : vals i = none) (hv : RowV u' u.heap.size v xs) : RInv tab cons vals w0 (listed.setIfInBounds i true) (upd T i v) u' := by
  refine ⟨step h.below hb, h.own.fresh hb h.below.size hv i fun k ys hk => ?_, h.fv.set hi fun x hx' => by rw [hx] at hx'; cases hx'⟩
  rcases live_set hi hk with ⟨rfl, e⟩ | ⟨h1, _, h3⟩
  · rw [ht] at e; exact .inl ⟨rfl, by injection e⟩
  · exact .inr ⟨h1, h3⟩
theorem RInv.grow {tab : Nat → Option (List Int)} {cons : Nat → Nat} {vals : Nat → Option Value} {w0 : World} {listed : Array Bool} {T : Nat → Value} {u u' : World} (h : RInv tab cons vals w0 listed T u) {i k : Nat} {v : Value} {xs zs : List Int} (hi : i < listed.size)
    (hk : liveR tab cons listed k = some zs) (hck : cons k = i) (ht : tab i = some xs) (hx : vals i = none) (hv : RowV u' w0.heap.size v xs) (hg : u.grownBy u' (T k).ownBlock) (hat : v.ownBlock = (T k).ownBlock ∨ v.ownBlock = some u.heap.size) :
    RInv tab cons vals w0 (listed.setIfInBounds i true) (upd T i v) u' := by
  refine ⟨h.below.grown hg h.below.size fun j hj => (World.ownsRow.lt (h.own.row k zs hk) j hj).1, h.own.grow k i hk hv hg hat fun j ys hj => ?_, h.fv.set hi fun x hx' => by rw [hx] at hx'; cases hx'⟩
  rcases live_set hi hj with ⟨rfl, e⟩ | ⟨h1, h2, h3⟩
  · rw [ht] at e; exact .inl ⟨rfl, by injection e⟩
  · exact .inr ⟨h1, fun e => h2 (e ▸ hck), h3⟩
/-- The rows that are left, once the store is all that is left. -/
theorem RInv.row {tab : Nat → Option (List Int)} {cons : Nat → Nat} {vals : Nat → Option Value} {w0 : World} {listed : Array Bool} {T : Nat → Value} {u : World} (h : RInv tab cons vals w0 listed T u) {k : Nat} {xs : List Int} (h1 : listed.getD k false = true) (h2 : listed.getD (cons k) false = false) (h3 : tab k = some xs) :
    RowV u w0.heap.size (T k) xs := h.own.row k xs (live_here h1 h2 h3)
theorem RInv.val {tab : Nat → Option (List Int)} {cons : Nat → Nat} {vals : Nat → Option Value} {w0 : World} {listed : Array Bool} {T : Nat → Value} {u : World} (h : RInv tab cons vals w0 listed T u) {k : Nat} {v : Value} (h1 : listed.getD k false = true) (h3 : vals k = some v) : T k = v := h.fv k v h3 h1
end Go.Proofs.Ytpdmkdhnidgjoaa

namespace Go.Proofs.Ytpdmkdhnidgjoaa
open Go.ChangeShapes Go.WideShapes Go.ChangeAt Go.RowKit Go.Sort
set_option linter.unusedVariables false
set_option linter.unusedSimpArgs false

/-- Are the first n atoms of l, with their terms' worth, among the facts? -/
def allHas (us vs : List Int) (fs l : FL) (n : Nat) : Bool := (List.range n).all fun k => hasB fs (l.getD k (0, [])).1 (tupV us vs (l.getD k (0, [])).2)
theorem allHas_succ (us vs : List Int) (fs l : FL) (k : Nat) : allHas us vs fs l (k + 1) = (allHas us vs fs l k && hasB fs (l.getD k (0, [])).1 (tupV us vs (l.getD k (0, [])).2)) := by
  unfold allHas
  rw [List.range_succ, List.all_append]
  simp
theorem allHas_not (us vs : List Int) (fs l : FL) (k n : Nat) (hk : k < n) (h : hasB fs (l.getD k (0, [])).1 (tupV us vs (l.getD k (0, [])).2) = false) : allHas us vs fs l n = false := by
  unfold allHas
  rw [List.all_eq_false]
  exact ⟨k, by simpa using hk, by rw [h]; simp⟩
def mapB (us vs hs head : List Int) (l fs : FL) : Bool := decide (us.length = vs.length) && decide (tupV us vs hs = head) && allHas us vs fs l l.length
theorem mapB_len {us vs hs head : List Int} {l fs : FL} (h : ¬ us.length = vs.length) : mapB us vs hs head l fs = false := by simp [mapB, h]
theorem mapB_head {us vs hs head : List Int} {l fs : FL} (h : ¬ tupV us vs hs = head) : mapB us vs hs head l fs = false := by simp [mapB, h]
theorem mapB_all {us vs hs head : List Int} {l fs : FL} (h : us.length = vs.length) (h' : tupV us vs hs = head) : mapB us vs hs head l fs = allHas us vs fs l l.length := by simp [mapB, h, h']

theorem row_ri {w : World} {base n c : Nat} {A : Option Addr} {xs : List Int} (h : w.ownsRow base 3 1 (.slice A n c) n (xs.map (Value.int .i64))) (hn : n = xs.length) : RI w A xs ∧ xs.length ≤ c ∧ c ≤ maxLen := by
  subst hn
  obtain ⟨q, hv⟩ := ownV_of_row h
  have h2 := hv.ints
  exact ⟨h2.2.2.2.mono (Nat.zero_le _) (Nat.le_refl _), h2.2.1, h2.2.2.1⟩

set_option maxRecDepth 100000 in
set_option maxHeartbeats 2000000 in
theorem spec_IsMapping (H Q F D U V : Option Addr) (ch c cf cd cu cv : Nat) (hs : List Int) (l fs : FL) (head us vs : List Int) (hh : hs.length ≤ 1048576) (hz : szF l ≤ 1048576) (hzf : szF fs ≤ 1048576) (hd : head.length ≤ 1048576) (hu : us.length ≤ 1048576) (hv : vs.length ≤ 1048576) (w : World)
    (h : RI w H hs) (hq : RF w Q l) (hf : RF w F fs) (hd' : RI w D head) (h1 : RI w U us) (h2 : RI w V vs) :
    Calls Try.prog 34 #[.agg #[.slice H hs.length ch, .slice Q l.length c], .slice F fs.length cf, .slice D head.length cd, .agg #[.slice U us.length cu, .slice V vs.length cv]] w fun e w' => e = .returned (.bool (mapB us vs hs head l fs)) ∧ Below w.heap.size w w' := by
  obtain ⟨i0, hi, hz0, hz1, hz2⟩ := info_parts int_info
  have hl := szF_len hz
  have hl' : (l.length : Int) ≤ 1048576 := by omega
  obtain ⟨w0, hw0⟩ : ∃ W, W = (w.alloc (.cells #[.slice H hs.length ch, .slice Q l.length c] 34)).alloc (.cells #[.slice U us.length cu, .slice V vs.length cv] 29) := ⟨_, rfl⟩
  have E0 := Lib.hid hw0
  have B0 := Lib.hid (show Below w.heap.size w w0 by rw [hw0]; exact step (below_alloc w _) (below_alloc _ _))
  have X0 := Lib.hid (show Box w0 w.heap.size #[.slice H hs.length ch, .slice Q l.length c] 34 by rw [hw0]; exact (Box.new w _ _).step (below_alloc _ _))
  have Y0 := Lib.hid (show Box w0 (w.heap.size + 1) #[.slice U us.length cu, .slice V vs.length cv] 29 by
    rw [hw0]
    have h := Box.new (w.alloc (.cells #[.slice H hs.length ch, .slice Q l.length c] 34)) #[.slice U us.length cu, .slice V vs.length cv] 29
    rwa [al_size] at h)
  by_cases c1 : us.length = vs.length
  · have d1 : ((us.length : Int) != (vs.length : Int)) = false := by simp; omega
    have C1 := Lib.hid c1
    have XT := Lib.hid (spec_TupleOf H Q U V ch c cu cv hs l us vs hh hu hv w0 (h.step B0.out) (h1.step B0.out) (h2.step B0.out))
    have HQ := Lib.hid hq
    have HF := Lib.hid hf
    have HD := Lib.hid hd'
    have HU := Lib.hid h1
    have HV := Lib.hid h2
    clear h hq hf hd' h1 h2 hw0 c1
    go_enter Try.func34, Try.ntmps34
    go_wp2_with fail
    rw [← E0.out]
    refine XT.out.mono ?_
    rintro e w1 ⟨v1, rfl, ho1, d1'⟩
    obtain ⟨A1, ca1, rfl⟩ := ownsRow_form ho1
    have R1 := Lib.hid (row_ri ho1 rfl).1
    have B1 := Lib.hid (step B0.out d1')
    have X1 := Lib.hid (X0.out.step d1')
    have Y1 := Lib.hid (Y0.out.step d1')
    have XI := Lib.hid (l2Ints_any _ _ _ _ A1 D ca1 cd (tupV us vs hs) head (by rw [tupV_len]; omega) (by omega) w1 R1.out (HD.out.step B1.out))
    clear ho1 d1'
    by_cases c2 : tupV us vs hs = head
    · have D2 := Lib.hid (show decide (tupV us vs hs = head) = true by simpa using c2)
      have E := Lib.hid (mapB_all (l := l) (fs := fs) C1.out c2)
      clear c2
      generalize tupV us vs hs = th at XI D2 R1 ⊢
      go_wp2_with fail
      refine XI.out.mono ?_
      rintro e w2 ⟨he, d2⟩
      rw [D2.out] at he
      subst he
      have B2 := Lib.hid (step B1.out d2)
      have X2 := Lib.hid (X1.out.step d2)
      have Y2 := Lib.hid (Y1.out.step d2)
      clear d2
      go_wp2
      go_loopw [9, 10, 11] (fun i _ _ wr => ∃ (k : Nat), k ≤ l.length ∧ i = .int .i64 k ∧ Hid (allHas us vs fs l k = true) ∧ Hid (Box wr w.heap.size #[.slice H hs.length ch, .slice Q l.length c] 34) ∧ Hid (Box wr (w.heap.size + 1) #[.slice U us.length cu, .slice V vs.length cv] 29) ∧ Hid (Below w.heap.size w wr)) (fun i _ _ _ => l.length - (intOf i).toNat)
      case atStart => exact ⟨0, by omega, rfl, Lib.hid rfl, X2, Y2, B2⟩
      case round =>
        obtain ⟨k, hk, rfl, hA, hX, hY, hB⟩ := hrel
        have x1 := hX.out.cell 1
        simp only [List.getElem?_toArray, List.getElem?_cons_zero, List.getElem?_cons_succ] at x1
        have hk0 : (0 : Int) ≤ (k : Int) := by omega
        by_cases hlt : k < l.length
        · generalize hf : l.getD k (0, []) = f
          obtain ⟨r, xs⟩ := f
          have hxl : xs.length ≤ 1048576 := by have := szF_elem hz hlt; rw [hf] at this; exact this
          have hxl' : (xs.length : Int) ≤ 1048576 := by omega
          have hk1 : (k : Int) < (l.length : Int) := by omega
          have HL := Lib.hid hf
          obtain ⟨b, off, B, c3, rfl, hb, e0, e1, _, hcm, hJ⟩ := (HQ.out.step hB.out).at_ hlt hf
          have E1 := Lib.hid e1
          have HJ := Lib.hid hJ
          have hyl := hY.out.lt
          have F0 := Lib.hid (Box.new wr #[.int .i64 r, .slice none 0 0] 70)
          obtain ⟨wf, hwf⟩ : ∃ W, W = wr.alloc (.cells #[.int .i64 r, .slice none 0 0] 70) := ⟨_, rfl⟩
          have BF := Lib.hid (show Below wr.heap.size wr wf by rw [hwf]; exact below_alloc _ _)
          have ZF : wr.heap.size + 1 = wf.heap.size := by rw [hwf, al_size]
          rw [← hwf] at F0
          have EF := Lib.hid hwf
          generalize wr = wo at *
          clear hf e1 hJ hwf
          go_wp2_with fail
          go_loopw [11] (fun i wr => ∃ (j : Nat) (A : Option Addr) (ca : Nat), j ≤ xs.length ∧ i = .int .i64 j ∧ Box wr wo.heap.size #[.int .i64 r, .slice A j ca] 70 ∧ wr.ownsRow (wo.heap.size + 1) 3 1 (.slice A j ca) j ((tupV us vs (xs.take j)).map (Value.int .i64)) ∧ Below wo.heap.size wo wr ∧ wo.heap.size + 1 ≤ wr.heap.size) (fun i _ => xs.length - (intOf i).toNat)
          case atStart =>
            rw [← EF.out]
            exact ⟨0, none, 0, by omega, rfl, F0.out, ⟨by simp [tupV], .inl ⟨rfl, rfl⟩⟩, BF.out, by omega⟩
          case round =>
            obtain ⟨j, A, ca, hj, rfl, hG, hown, hb2, hsz⟩ := hrel
            have HG := Lib.hid hG
            have HO := Lib.hid hown
            have HB := Lib.hid hb2
            clear hG hown hb2 x1 e0
            have X3 := Lib.hid (hX.out.step HB.out)
            have Y3 := Lib.hid (hY.out.step HB.out)
            have x1 := X3.out.cell 1
            have y0 := Y3.out.cell 0
            have y1 := Y3.out.cell 1
            have q0 := HG.out.cell 0
            have q1 := HG.out.cell 1
            have q2 := HG.out.frozen 0
            have q3 := HG.out.frozen 1
            simp only [List.getElem?_toArray, List.getElem?_cons_zero, List.getElem?_cons_succ] at x1 y0 y1 q0 q1
            have e1 := (HB.out.cell (p := ⟨b, off + k * 2 + 1, none⟩) hb).trans E1.out
            have hj0 : (0 : Int) ≤ (j : Int) := by omega
            by_cases hjt : j < xs.length
            · have hj1 : (j : Int) < (xs.length : Int) := by omega
              obtain ⟨b2, off2, rfl, nb2, et⟩ := (HJ.out.step HB.out).at_ hjt
              generalize hx : xs.getD j 0 = t at et
              have TT := Lib.hid (tupV_take us vs xs hjt hx)
              have XV := Lib.hid fun (W : World) (b : Below wr.heap.size wr W) => spec_ValueOf U V cu cv us vs t hu hv W (((HU.out.step hB.out).step HB.out).step b) (((HV.out.step hB.out).step HB.out).step b)
              generalize bval us vs t = y at TT XV
              clear hx
              go_wp2
              go_region_law (first
                | (refine callV2 rfl 49 _ _ _ _ rfl (.agg #[.slice U us.length cu, .slice V vs.length cv]) (.int .i64 t) rfl rfl (by kernel_rfl) (R := fun v' w' => v' = .int .i64 y ∧ Below wr.heap.size wr w') ((XV.out _ (by first | exact Below.refl _ _ | exact below_drew _)).mono (fun e w' h => ⟨_, h.1, rfl, by first | exact h.2 | exact und h.2 | exact undN h.2⟩)) ?_
                   rintro _ u5 ⟨rfl, b5⟩
                   have q15 := (b5.cell (p := ⟨wo.heap.size, 1, none⟩) (by (try simp) <;> omega)).trans q1
                   have q35 := (b5.frozen (p := ⟨wo.heap.size, 1, none⟩) (by (try simp) <;> omega)).trans q3
                   have z5 := b5.size
                   have HO5 := Lib.hid (ownsRow_step HO.out b5)
                   have hb5 : Below (wo.heap.size + 1) wr u5 := b5.mono hsz
                   have hz5 : wo.heap.size + 1 ≤ u5.heap.size := by omega
                   have q17 := ((below_alloc u5 (.cells #[.int .i64 y] 3)).cell (p := ⟨wo.heap.size, 1, none⟩) (by (try simp) <;> omega)).trans q15
                   have q37 := ((below_alloc u5 (.cells #[.int .i64 y] 3)).frozen (p := ⟨wo.heap.size, 1, none⟩) (by (try simp) <;> omega)).trans q35)
                | (refine step_pushR rfl _ _ _ 3 rfl i0 Try.underlying22 hi (.int .i64 0) 8 hz0 hz1 hz2 rfl (by omega) (wo.heap.size + 1) j _ ((tupV us vs (xs.take j)).map (Value.int .i64)) _ 1 (.int .i64 y) rfl rfl rfl (by first | exact HO5.out.alloc _ | exact (HO5.out.alloc _).drew | exact HO5.out.drew.alloc _) (by first | exact hb5.alloc hz5 _ | exact (hb5.alloc hz5 _).drew | exact hb5.drew.alloc hz5 _) (by (try simp) <;> omega) (by omega) (by simp [Addr.add]) ?_
                   intro v6 u6 hown6 hb6 hz6
                   obtain ⟨A6, c6, rfl⟩ := ownsRow_form hown6
                   have q16 := (hb6.cell (p := ⟨wo.heap.size, 1, none⟩) (by (try simp) <;> omega)).trans q1
                   have q36 := (hb6.frozen (p := ⟨wo.heap.size, 1, none⟩) (by (try simp) <;> omega)).trans q3
                   have z6 := hb6.size
                   have HO6 := Lib.hid hown6
                   clear hown6 hz6))
              all_goals
                clear q15 q35 q16 q36 q17 q37 q0 q1 q2 q3 x1 y0 y1 e1 et
                go_wp2
                go_roundw
                case rel =>
                  refine ⟨j + 1, A6, c6, by omega, by go_num, box_set1 (show Box u6 wo.heap.size #[.int .i64 r, .slice A j ca] 70 from (hb6.block _ (by omega)).trans HG.out), ?_, (HB.out.trans (hb6.mono (by omega))).setCell (Nat.le_refl _) _, by rw [set_size]; omega⟩
                  rw [TT.out, List.map_append]
                  exact ownsRow_set HO6.out (show wo.heap.size < _ by omega)
                case measure => simp [intOf]; omega
            · obtain rfl : j = xs.length := by omega
              have hown2 : wr.ownsRow (wo.heap.size + 1) 3 1 (.slice A xs.length ca) xs.length ((tupV us vs xs).map (Value.int .i64)) := by have := HO.out; rwa [List.take_length] at this
              have RR := row_ri hown2 (tupV_len us vs xs).symm
              have XH := Lib.hid (show Calls Try.prog 65 #[.slice F fs.length cf, .agg #[.int .i64 r, .slice A xs.length ca]] wr fun e w' => e = .returned (.bool (hasB fs r (tupV us vs xs))) ∧ Below wr.heap.size wr w' by
                have hh := spec_HasFact F cf fs r (tupV us vs xs) A ca hzf (by rw [tupV_len]; omega) wr ((HF.out.step hB.out).step HB.out) RR.1
                rwa [tupV_len] at hh)
              clear hown2 RR
              by_cases c3 : hasB fs r (tupV us vs xs) = true
              · have C3 := Lib.hid c3
                have OO := Lib.hid (show allHas us vs fs l (k + 1) = true by rw [allHas_succ, hA.out, HL.out]; exact c3)
                clear c3
                go_wp2_with fail
                refine XH.out.mono ?_
                rintro e w4 ⟨he, d4⟩
                rw [C3.out] at he
                subst he
                have X4 := Lib.hid (X3.out.step d4)
                have Y4 := Lib.hid (Y3.out.step d4)
                have B4 := Lib.hid (step (step hB.out HB.out) d4)
                clear d4 x1 y0 y1 q0 q1 q2 q3 e1
                go_wp2
                go_roundw
                case rel => exact ⟨k + 1, by omega, by go_num, OO, X4, Y4, B4⟩
                case measure => simp [intOf]; omega
              · have C3 := Lib.hid (show hasB fs r (tupV us vs xs) = false by simpa using c3)
                have OO := Lib.hid (allHas_not us vs fs l k l.length hlt (by rw [HL.out]; exact C3.out))
                clear c3
                go_wp2_with fail
                refine XH.out.mono ?_
                rintro e w4 ⟨he, d4⟩
                rw [C3.out] at he
                subst he
                have B4 := Lib.hid (step (step hB.out HB.out) d4)
                clear d4 x1 y0 y1 q0 q1 q2 q3 e1
                go_wp2
                go_ret
                exact ⟨ret_bool (by rw [E.out]; exact OO.out.symm), B4.out⟩
        · obtain rfl : k = l.length := by omega
          go_wp2
          go_ret
          exact ⟨ret_bool (by rw [E.out]; exact hA.out.symm), hB.out⟩
    · have D2 := Lib.hid (show decide (tupV us vs hs = head) = false by simpa using c2)
      have E := Lib.hid (mapB_head (l := l) (fs := fs) c2)
      clear c2
      generalize tupV us vs hs = th at XI D2 R1 ⊢
      go_wp2_with fail
      refine XI.out.mono ?_
      rintro e w2 ⟨he, d2⟩
      rw [D2.out] at he
      subst he
      have B2 := Lib.hid (step B1.out d2)
      clear d2
      go_wp2
      go_ret
      exact ⟨ret_bool E.out.symm, B2.out⟩
  · have d1 : ((us.length : Int) != (vs.length : Int)) = true := by simp; omega
    rw [mapB_len c1]
    clear h hq hf hd' h1 h2 hw0
    go_enter Try.func34, Try.ntmps34
    go_wp2
    go_ret
    exact ⟨rfl, by rw [← E0.out]; exact B0.out⟩
end Go.Proofs.Ytpdmkdhnidgjoaa
