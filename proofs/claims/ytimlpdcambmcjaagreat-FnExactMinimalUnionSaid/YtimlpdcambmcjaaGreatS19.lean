/- Own rows of numbers in a drawn region. Conditions: none beyond each theorem's own. Numbers in a block of numbers: they stay whatever turns in blocks of another type. Conditions: none beyond each theorem's own. Lists of bindings in memory, read and grown. Conditions: none beyond each theorem's own. What l4Copy leaves. Conditions: none beyond each theorem's own. -/
import Derived.Test.YtimlpdcambmcjaaGreatS6
import Derived.Test.YtimlpdcambmcjaaGreatSReg
import Derived.Test.YtimlpdcambmcjaaGreatS7
import Derived.Test.YtimlpdcambmcjaaGreatS8
import Derived.Deep.RegionLaw
import Derived.Deep.DeepCutAuto

namespace Go.Proofs.YtimlpdcambmcjaaGreat
open Go.ChangeShapes Go.WideShapes Go.ChangeAt Go.RowKit Go.Sort
open Go.Maps (Keyed int_keyed keyOf_int_mk)
set_option linter.unusedVariables false
set_option linter.unusedSimpArgs false

/-- A row of the call's own that holds the numbers xs. -/
def RowV (w : World) (base : Nat) (v : Value) (xs : List Int) : Prop := w.ownsRow base 3 1 v xs.length (xs.map (Value.int .i64))
theorem RowV.form {w : World} {base : Nat} {v : Value} {xs : List Int} (h : RowV w base v xs) : ∃ X c, v = .slice X xs.length c := by
  rcases h.2 with ⟨hv, h0⟩ | ⟨_, _, _, hv, _⟩
  · have : xs.length = 0 := by simpa using h0
    exact ⟨none, 0, by rw [hv, this]⟩
  · exact ⟨_, _, hv⟩
theorem RowV.below {w w' : World} {base : Nat} {v : Value} {xs : List Int} (h : RowV w base v xs) (hb : Below w.heap.size w w') : RowV w' base v xs := ownsRow_below h hb
theorem RowV.kept {w w' : World} {base : Nat} {v : Value} {xs : List Int} {row : Option Nat} (h : RowV w base v xs) (hg : w.grownBy w' row) (hne : v.ownBlock = none ∨ v.ownBlock ≠ row) : RowV w' base v xs := World.ownsRow.kept h hg hne
theorem RowV.mono {w : World} {base base' : Nat} {v : Value} {xs : List Int} (h : RowV w base v xs) (hb : base' ≤ base) : RowV w base' v xs := by
  refine ⟨h.1, ?_⟩
  rcases h.2 with hn | ⟨k, cap, cur, hv, hbk, r⟩
  · exact .inl hn
  · exact .inr ⟨k, cap, cur, hv, by omega, r⟩
theorem rows_apart {w w' : World} {b1 b2 : Nat} {v1 v2 : Value} {xs ys : List Int} (h1 : RowV w b1 v1 xs) (h2 : RowV w' b2 v2 ys) (hle : w.heap.size ≤ b2) : v1.ownBlock = none ∨ v1.ownBlock ≠ v2.ownBlock := by
  cases e : v1.ownBlock with
  | none => exact .inl rfl
  | some k =>
    refine .inr fun e2 => ?_
    have h3 := World.ownsRow.lt h1 k e
    have h4 := World.ownsRow.lt h2 k e2.symm
    omega
theorem RowV.set {w : World} {base g i : Nat} {v u : Value} {xs : List Int} {bx : Array Value} {t : TypeId} (h : RowV w base v xs) (hb : Box w g bx t) (ht : t ≠ 3) : RowV (w.setCell ⟨g, i, none⟩ u) base v xs := by
  refine ⟨h.1, ?_⟩
  rcases h.2 with hn | ⟨k, cap, cur, hv, hbk, hk, r⟩
  · exact .inl hn
  · refine .inr ⟨k, cap, cur, hv, hbk, ?_, r⟩
    rw [Below.heap_setCell _ _ _ _ (fun e => by
      have e' : k = g := e
      unfold Box at hb
      rw [e', hb] at hk
      injection hk with hk
      injection hk with _ h2
      exact ht h2)]
    exact hk

set_option maxRecDepth 100000 in
set_option maxHeartbeats 400000 in
theorem clone_row (A : Option Addr) (c : Nat) (xs : List Int) (hl : xs.length ≤ 1048576) (w : World) (h : RI w A xs) :
    Calls Tryz.prog 83 #[.slice A xs.length c] w fun e w' => ∃ X c', e = .returned (.slice X xs.length c') ∧ RowV w' w.heap.size (.slice X xs.length c') xs ∧ Below w.heap.size w w' := by
  obtain ⟨i0, hi, hz0, hz1, hz2⟩ := info_parts int_info
  have hq := fun (W : World) (n c : Nat) => Lib.run_eql_slice_nil (P := Tryz.prog) W 22 3 A n c 0 0 Tryz.underlying22
  rcases A with _ | ad
  · have hx0 : xs = [] := by
      rcases xs with _ | ⟨y, ys⟩
      · rfl
      · obtain ⟨b, off, h1, _⟩ := h (by simp)
        cases h1
    subst hx0
    go_enter Tryz.func83, Tryz.ntmps83
    go_wp2
    go_ret
    exact ⟨none, 0, rfl, World.ownsRow_nil _ _ _ _, Below.refl _ _⟩
  · have HI := Lib.hid (h.step (below_alloc w (.cells #[] 3)))
    clear h
    go_enter Tryz.func83, Tryz.ntmps83
    go_wp2_with (at_builtin; refine wpList_append_nums rfl _ _ 22 rfl w.heap.size 3 i0 Tryz.underlying22 hi hz0 hz1 hz2 (.slice (some ⟨w.heap.size, 0, none⟩) 0 0) 0 [] rfl (World.ownsRow_lit _ #[] 0 (Nat.le_refl _) (by unfold maxLen; omega) rfl) _ _ (some ad) c xs rfl HI.out (by omega) (by simp) ?_; intro v' w' hown hg hat
                 have hown' : RowV w' w.heap.size v' xs := by simpa [RowV] using hown
                 obtain ⟨A2, c2, rfl⟩ := hown'.form
                 have HV := Lib.hid hown'
                 have HG := Lib.hid hg
                 clear hown hown' hg hat)
    go_ret
    exact ⟨_, _, rfl, HV.out, (below_alloc w _).grown HG.out (by simp) (fun k hk => Nat.le_of_eq (by simpa [Value.ownBlock] using hk))⟩

/-- What a row holds reads as numbers. -/
theorem ri_of_row {w : World} {base : Nat} {A : Option Addr} {n c : Nat} {xs : List Int} (h : RowV w base (.slice A n c) xs) : RI w A xs := fun hx => by
  have hn : 0 < xs.length := List.length_pos_iff.2 hx
  rcases h.2 with ⟨hv, h0⟩ | ⟨g, cap, cur, hv, hbk, hk, _⟩
  · omega
  · injection hv with e1 e2 e3
    subst e1 e2 e3
    refine ⟨g, 0, rfl, Nat.zero_le _, (Array.getElem?_eq_some_iff.1 hk).1, fun j hj => ?_⟩
    rw [Nat.zero_add, World.ownsRow.cellAt h j (by omega), List.getElem?_map]
    simp [List.getD_eq_getElem?_getD, hj]

theorem opwp_append_nums {P : Program} {w : World} {o : Oper} {a : Act} {K : Act → World → Prop} {Q : Exit → Act → World → Prop} (s x : Operand) (t : TypeId)
    (ho : o.op = .call { callee := .builtin .append, args := #[s, x], argTypes := #[t, t] })
    (base : Nat) (e : TypeId) (i : TypeInfo) (ht : P.underlying t = some (.slice e)) (hi : P.info? e = some i) (hz : i.zero = some (.int .i64 0)) (hz1 : i.size = 1) (hz2 : i.bytes = 8)
    (v : Value) (n : Nat) (cs : List Value) (hs : a.eval s = v) (hown : w.ownsRow base e 1 v n cs) (lo hi' : Nat) (A : Option Addr) (c : Nat) (xs : List Int) (hx : a.eval x = .slice A xs.length c) (hr : Ints w lo hi' A xs)
    (hn : n + xs.length ≤ 17592186044416) (hbase : base ≤ w.heap.size)
    (h : ∀ v' w', w'.ownsRow base e 1 v' (n + xs.length) (cs ++ xs.map (Value.int .i64)) → w.grownBy w' v.ownBlock → (v'.ownBlock = v.ownBlock ∨ v'.ownBlock = some w.heap.size) → K (a.put o.dst v') w') :
    Oper.wp P o a w K Q := by
  rcases A with _ | ad
  · have hx0 : xs = [] := by
      rcases xs with _ | ⟨y, ys⟩
      · rfl
      · obtain ⟨b, off, h1, _⟩ := hr (by simp)
        cases h1
    subst hx0
    have hrun : (Builtin.append_ #[t, t] o.type #[v, .slice none 0 c]).run P w = .ok v w := by
      rcases hown.2 with ⟨rfl, rfl⟩ | ⟨g, cap, cur, rfl, _, _, hnc, _⟩
      · simp [Builtin.append_, run_underlying ht, sizeOf, typeInfo, hi, Builtin.lenOf, Builtin.firstCells]
      · simp [Builtin.append_, run_underlying ht, sizeOf, typeInfo, hi, Builtin.lenOf, Builtin.firstCells, hnc, storeCells]
    unfold Oper.wp execOp
    simp only [List.length_nil] at hx
    simp only [ho, resolve, invoke, builtin, Sem.run_bind, Sem.run_pure, Result.andThen_ok, List.map_toArray, List.map_cons, List.map_nil, hs, hx, hrun]
    exact h v w (by simpa using hown) (World.grownBy.refl w _) (.inl rfl)
  · obtain ⟨v', w', hr', h2, h3, h4, h5⟩ := run_append_own_at (P := P) w base t o.type e i (.int .i64 0) 1 8 ht hi hz hz1 hz2 rfl (by omega) v n cs hown ad xs.length c (xs.map (Value.int .i64)) (by simp) (fun j u hj => by
      have hj' : j < xs.length := by have := (List.getElem?_eq_some_iff.1 hj).1; simpa using this
      obtain ⟨b, off, h1, _, _, h4⟩ := hr (by rintro rfl; simp at hj')
      injection h1 with h1
      subst h1
      rw [add_eq, h4 j hj']
      rw [List.getElem?_map, List.getElem?_eq_getElem hj'] at hj
      injection hj with hj
      subst hj
      simp [List.getD_eq_getElem?_getD, hj']) (fun u hu => by
      obtain ⟨y, _, rfl⟩ := List.mem_map.1 hu
      rfl) (by unfold maxLen; omega) (by omega) hbase
    unfold Oper.wp execOp
    simp only [ho, resolve, invoke, builtin, Sem.run_bind, Sem.run_pure, Result.andThen_ok, List.map_toArray, List.map_cons, List.map_nil, hs, hx, hr']
    exact h v' w' h2 h3 h5

/-- The same, of a row of numbers. -/
theorem opwp_append_row {w : World} {o : Oper} {a : Act} {K : Act → World → Prop} {Q : Exit → Act → World → Prop} (s x : Operand)
    (ho : o.op = .call { callee := .builtin .append, args := #[s, x], argTypes := #[22, 22] }) (base : Nat) (v : Value) (ys : List Int) (hs : a.eval s = v) (hown : RowV w base v ys)
    (A : Option Addr) (c : Nat) (xs : List Int) (hx : a.eval x = .slice A xs.length c) (hr : RI w A xs) (hn : ys.length + xs.length ≤ 17592186044416) (hbase : base ≤ w.heap.size)
    (h : ∀ v' w', RowV w' base v' (ys ++ xs) → w.grownBy w' v.ownBlock → (v'.ownBlock = v.ownBlock ∨ v'.ownBlock = some w.heap.size) → K (a.put o.dst v') w') :
    Oper.wp Tryz.prog o a w K Q := by
  obtain ⟨i0, hi, hz0, hz1, hz2⟩ := info_parts int_info
  refine opwp_append_nums s x 22 ho base 3 i0 Tryz.underlying22 hi hz0 hz1 hz2 v ys.length _ hs hown _ _ A c xs hx hr hn hbase ?_
  intro v' w' h1 h2 h3
  refine h v' w' ?_ h2 h3
  unfold RowV
  simpa using h1

def Apart (u v : Value) : Prop := u.ownBlock = none ∨ u.ownBlock ≠ v.ownBlock
theorem Apart.symm {u v : Value} (h : Apart u v) : Apart v u := by
  by_cases e : v.ownBlock = none
  · exact .inl e
  · rcases h with h | h
    · exact .inr (by rw [h]; exact e)
    · exact .inr (Ne.symm h)

def upd (T : Nat → Value) (i : Nat) (v : Value) : Nat → Value := fun k => if k = i then v else T k
theorem upd_same (T : Nat → Value) (i : Nat) (v : Value) : upd T i v i = v := if_pos rfl
theorem upd_ne {T : Nat → Value} {i k : Nat} {v : Value} (h : k ≠ i) : upd T i v k = T k := if_neg h

/-- The rows that are live lie apart. -/
structure OwnTs (w : World) (base : Nat) (L : Nat → Option (List Int)) (T : Nat → Value) : Prop where
  row : ∀ i xs, L i = some xs → RowV w base (T i) xs
  apart : ∀ i j xs ys, i ≠ j → L i = some xs → L j = some ys → Apart (T i) (T j)
theorem OwnTs.quiet {w w' : World} {base : Nat} {L L' : Nat → Option (List Int)} {T T' : Nat → Value} (h : OwnTs w base L T) (hb : Below w.heap.size w w') (hL : ∀ k xs, L' k = some xs → L k = some xs ∧ T' k = T k) : OwnTs w' base L' T' := by
  refine ⟨fun i xs hi => ?_, fun i j xs ys hij hi hj => ?_⟩
  · rw [(hL i xs hi).2]
    exact (h.row i xs (hL i xs hi).1).below hb
  · rw [(hL i xs hi).2, (hL j ys hj).2]
    exact h.apart i j xs ys hij (hL i xs hi).1 (hL j ys hj).1
theorem OwnTs.fresh {w w' : World} {base : Nat} {L L' : Nat → Option (List Int)} {T : Nat → Value} (h : OwnTs w base L T) (hb : Below w.heap.size w w') (hbase : base ≤ w.heap.size) {v : Value} {xs : List Int} (hv : RowV w' w.heap.size v xs) (i : Nat)
    (hL : ∀ k ys, L' k = some ys → (k = i ∧ xs = ys) ∨ (k ≠ i ∧ L k = some ys)) : OwnTs w' base L' (upd T i v) := by
  refine ⟨fun k ys hk => ?_, fun k j ys zs hkj hk hj => ?_⟩
  · rcases hL k ys hk with ⟨rfl, rfl⟩ | ⟨hne, hk'⟩
    · rw [upd_same]
      exact hv.mono hbase
    · rw [upd_ne hne]
      exact (h.row k ys hk').below hb
  · rcases hL k ys hk with ⟨rfl, rfl⟩ | ⟨hne, hk'⟩ <;> rcases hL j zs hj with ⟨rfl, rfl⟩ | ⟨hne', hj'⟩
    · exact absurd rfl hkj
    · rw [upd_same, upd_ne hne']
      exact Apart.symm (rows_apart (h.row j zs hj') hv (Nat.le_refl _))
    · rw [upd_same, upd_ne hne]
      exact rows_apart (h.row k ys hk') hv (Nat.le_refl _)
    · rw [upd_ne hne, upd_ne hne']
      exact h.apart k j ys zs hkj hk' hj'
theorem OwnTs.grow {w w' : World} {base : Nat} {L L' : Nat → Option (List Int)} {T : Nat → Value} (h : OwnTs w base L T) {v : Value} {xs zs : List Int} (k i : Nat) (hk : L k = some zs) (hv : RowV w' base v xs) (hg : w.grownBy w' (T k).ownBlock)
    (hat : v.ownBlock = (T k).ownBlock ∨ v.ownBlock = some w.heap.size) (hL : ∀ j ys, L' j = some ys → (j = i ∧ xs = ys) ∨ (j ≠ i ∧ j ≠ k ∧ L j = some ys)) : OwnTs w' base L' (upd T i v) := by
  have key : ∀ j ys, j ≠ k → L j = some ys → Apart (T j) v := by
    intro j ys hjk hj
    have h1 := h.apart j k ys zs hjk hj hk
    rcases h1 with h1 | h1
    · exact .inl h1
    · rcases hat with ha | ha
      · exact .inr (by rw [ha]; exact h1)
      · refine .inr fun e => ?_
        have := World.ownsRow.lt (h.row j ys hj) _ (e.trans ha)
        omega
  refine ⟨fun j ys hj => ?_, fun j l ys us hjl hj hl => ?_⟩
  · rcases hL j ys hj with ⟨rfl, rfl⟩ | ⟨hne, hnk, hj'⟩
    · rw [upd_same]
      exact hv
    · rw [upd_ne hne]
      exact (h.row j ys hj').kept hg (h.apart j k ys zs hnk hj' hk)
  · rcases hL j ys hj with ⟨rfl, rfl⟩ | ⟨hne, hnk, hj'⟩ <;> rcases hL l us hl with ⟨rfl, rfl⟩ | ⟨hne', hnk', hl'⟩
    · exact absurd rfl hjl
    · rw [upd_same, upd_ne hne']
      exact Apart.symm (key l us hnk' hl')
    · rw [upd_same, upd_ne hne]
      exact key j ys hnk hj'
    · rw [upd_ne hne, upd_ne hne']
      exact h.apart j l ys us hjl hj' hl'

/-- The rows that are live: made, and not yet used up. -/
def liveR (tab : Nat → Option (List Int)) (cons : Nat → Nat) (listed : Array Bool) (i : Nat) : Option (List Int) := if listed.getD i false = true ∧ listed.getD (cons i) false = false then tab i else none
theorem live_here {tab : Nat → Option (List Int)} {cons : Nat → Nat} {listed : Array Bool} {i : Nat} {xs : List Int} (h1 : listed.getD i false = true) (h2 : listed.getD (cons i) false = false) (h3 : tab i = some xs) : liveR tab cons listed i = some xs := by
  unfold liveR
  rw [if_pos ⟨h1, h2⟩, h3]
theorem live_set {tab : Nat → Option (List Int)} {cons : Nat → Nat} {listed : Array Bool} {i k : Nat} {ys : List Int} (hi : i < listed.size) (h : liveR tab cons (listed.setIfInBounds i true) k = some ys) :
    (k = i ∧ tab i = some ys) ∨ (k ≠ i ∧ cons k ≠ i ∧ liveR tab cons listed k = some ys) := by
  unfold liveR at h
  split at h
  · rename_i hc
    obtain ⟨h1, h2⟩ := hc
    rw [getD_set hi] at h1 h2
    by_cases e : i = k
    · subst e
      exact .inl ⟨rfl, h⟩
    · by_cases e2 : i = cons k
      · rw [if_pos e2] at h2
        cases h2
      · rw [if_neg e] at h1
        rw [if_neg e2] at h2
        exact .inr ⟨fun x => e x.symm, fun x => e2 x.symm, live_here h1 h2 h⟩
  · cases h
theorem live_none {tab : Nat → Option (List Int)} {cons : Nat → Nat} {i : Nat} (n : Nat) : liveR tab cons (Array.replicate n false) i = none := by
  unfold liveR
  rw [if_neg]
  rintro ⟨h, _⟩
  rw [Array.getD_eq_getD_getElem?] at h
  by_cases hl : i < n
  · simp [hl] at h
  · simp [Array.getElem?_eq_none (show (Array.replicate n false).size ≤ i by simp; omega)] at h
theorem OwnTs.none {w : World} {base : Nat} {tab : Nat → Option (List Int)} {cons : Nat → Nat} {T : Nat → Value} (n : Nat) : OwnTs w base (liveR tab cons (Array.replicate n false)) T :=
  ⟨fun i xs h => (by rw [live_none] at h; cases h), fun i j xs ys _ h => (by rw [live_none] at h; cases h)⟩

/-- What is listed and has a known value, has it. -/
def FV (vals : Nat → Option Value) (listed : Array Bool) (T : Nat → Value) : Prop := ∀ k v, vals k = some v → listed.getD k false = true → T k = v
theorem FV.set {vals : Nat → Option Value} {listed : Array Bool} {T : Nat → Value} (h : FV vals listed T) {i : Nat} (hi : i < listed.size) {v : Value} (hv : ∀ u, vals i = some u → v = u) : FV vals (listed.setIfInBounds i true) (upd T i v) := by
  intro k u hk hl
  rw [getD_set hi] at hl
  by_cases e : k = i
  · subst e
    rw [upd_same]
    exact hv u hk
  · rw [if_neg (fun x => e x.symm)] at hl
    rw [upd_ne e]
    exact h k u hk hl
theorem FV.none {vals : Nat → Option Value} {T : Nat → Value} (n : Nat) : FV vals (Array.replicate n false) T := by
  intro k u _ h
  rw [Array.getD_eq_getD_getElem?] at h
  by_cases hl : k < n
  · simp [hl] at h
  · simp [Array.getElem?_eq_none (show (Array.replicate n false).size ≤ k by simp; omega)] at h

/-- j comes after i. -/
def reach (md : Region.Mode) (ops : Array Oper) : Nat → Nat → Nat → Bool
  | 0, j, i => waits md ops j i
  | n + 1, j, i => waits md ops j i || (List.range ops.size).any fun k => waits md ops j k && reach md ops n k i
theorem closed_reach {md : Region.Mode} {ops : Array Oper} {listed : Array Bool} (hc : Closed md ops listed) : ∀ n j i, reach md ops n j i = true → listed.getD j false = true → listed.getD i false = true := by
  intro n
  induction n with
  | zero => intro j i h hj; exact hc j i hj h
  | succ n ih =>
    intro j i h hj
    unfold reach at h
    rcases Bool.or_eq_true_iff.1 h with h | h
    · exact hc j i hj h
    · obtain ⟨k, _, hk⟩ := List.any_eq_true.1 h
      obtain ⟨h1, h2⟩ := Bool.and_eq_true_iff.1 hk
      exact ih k i h2 (hc j k hj h1)
theorem not_yet {md : Region.Mode} {ops : Array Oper} {listed : Array Bool} (hc : Closed md ops listed) {i : Nat} (hi : listed.getD i false = false) (n j : Nat) (h : reach md ops n j i = true) : listed.getD j false = false := by
  cases hj : listed.getD j false with
  | false => rfl
  | true => rw [closed_reach hc n j i h hj] at hi; cases hi

theorem wpOp_plain {P : Program} {ops : Array Oper} {Q : Exit → Act → World → Prop} {i : Nat} {o : Oper} {K : Act → World → Prop} {a : Act} {w : World} (ho : ops[i]? = some o) (hg : o.guard = none)
    (h : ∀ K' : Act → World → Prop, (∀ a w, K a w → K' a w) → Oper.wp P o a w K' Q) : wpOp P ops Q i K a w :=
  wpOp_step ho fun K' hK => by simp only [Region.wanted, hg, if_true]; exact h K' hK

/-- A binding made anew, at g. -/
def NewB (w : World) (base g : Nat) (ts vs : List Int) : Prop := ∃ X c Y d, Box w g #[.slice X ts.length c, .slice Y vs.length d] 100 ∧ RowV w base (.slice X ts.length c) ts ∧ RowV w base (.slice Y vs.length d) vs
theorem NewB.store {w : World} {base g X c Y d} {ts vs : List Int} {cs : Array Value} (h : Box w g cs 100) (hcs : cs.size = 2) (h1 : RowV w base (.slice X ts.length c) ts) (h2 : RowV w base (.slice Y vs.length d) vs) :
    NewB ((w.setCell ⟨g, 0, none⟩ (.slice X ts.length c)).setCell ⟨g, 1, none⟩ (.slice Y vs.length d)) base g ts vs := by
  obtain ⟨a, b, rfl⟩ : ∃ a b, cs = #[a, b] := by
    obtain ⟨l⟩ := cs
    match l, hcs with
    | [a, b], _ => exact ⟨a, b, rfl⟩
  have s1 := h.set 0 (.slice X ts.length c)
  have s2 := s1.set 1 (.slice Y vs.length d)
  exact ⟨X, c, Y, d, s2, (h1.set h (by decide)).set s1 (by decide), (h2.set h (by decide)).set s1 (by decide)⟩

/-- What holds in the midst of a drawn region. -/
structure RInv (tab : Nat → Option (List Int)) (cons : Nat → Nat) (vals : Nat → Option Value) (w0 : World) (listed : Array Bool) (T : Nat → Value) (u : World) : Prop where
  below : Below w0.heap.size w0 u
  own : OwnTs u w0.heap.size (liveR tab cons listed) T
  fv : FV vals listed T
theorem RInv.start {tab : Nat → Option (List Int)} {cons : Nat → Nat} {vals : Nat → Option Value} {w0 : World} {T : Nat → Value} (n : Nat) : RInv tab cons vals w0 (Array.replicate n false) T (World.drew w0) :=
  ⟨below_drew w0, OwnTs.none n, FV.none n⟩
theorem RInv.quiet {tab : Nat → Option (List Int)} {cons : Nat → Nat} {vals : Nat → Option Value} {w0 : World} {listed : Array Bool} {T : Nat → Value} {u u' : World} (h : RInv tab cons vals w0 listed T u) {i : Nat} {v : Value} (hi : i < listed.size)
    (hb : Below u.heap.size u u') (ht : tab i = none) (hv : ∀ x, vals i = some x → v = x) : RInv tab cons vals w0 (listed.setIfInBounds i true) (upd T i v) u' := by
  refine ⟨step h.below hb, h.own.quiet hb fun k xs hk => ?_, h.fv.set hi hv⟩
  rcases live_set hi hk with ⟨rfl, e⟩ | ⟨h1, _, h3⟩
  · rw [ht] at e; cases e
  · exact ⟨h3, upd_ne h1⟩
theorem RInv.fresh {tab : Nat → Option (List Int)} {cons : Nat → Nat} {vals : Nat → Option Value} {w0 : World} {listed : Array Bool} {T : Nat → Value} {u u' : World} (h : RInv tab cons vals w0 listed T u) {i : Nat} {v : Value} {xs : List Int} (hi : i < listed.size)
    (hb : Below u.heap.size u u') (ht : tab i = some xs) (hx : vals i = none) (hv : RowV u' u.heap.size v xs) : RInv tab cons vals w0 (listed.setIfInBounds i true) (upd T i v) u' := by
  refine ⟨step h.below hb, h.own.fresh hb h.below.size hv i fun k ys hk => ?_, h.fv.set hi fun x hx' => by rw [hx] at hx'; cases hx'⟩
  rcases live_set hi hk with ⟨rfl, e⟩ | ⟨h1, _, h3⟩
  · rw [ht] at e; exact .inl ⟨rfl, by injection e⟩
  · exact .inr ⟨h1, h3⟩
theorem RInv.grow {tab : Nat → Option (List Int)} {cons : Nat → Nat} {vals : Nat → Option Value} {w0 : World} {listed : Array Bool} {T : Nat → Value} {u u' : World} (h : RInv tab cons vals w0 listed T u) {i k : Nat} {v : Value} {xs zs : List Int} (hi : i < listed.size)
    (hk : liveR tab cons listed k = some zs) (hck : cons k = i) (ht : tab i = some xs) (hx : vals i = none) (hv : RowV u' w0.heap.size v xs) (hg : u.grownBy u' (T k).ownBlock) (hat : v.ownBlock = (T k).ownBlock ∨ v.ownBlock = some u.heap.size) :
    RInv tab cons vals w0 (listed.setIfInBounds i true) (upd T i v) u' := by
  refine ⟨h.below.grown hg h.below.size fun j hj => (World.ownsRow.lt (h.own.row k zs hk) j hj).1, h.own.grow k i hk hv hg hat fun j ys hj => ?_, h.fv.set hi fun x hx' => by rw [hx] at hx'; cases hx'⟩
  rcases live_set hi hj with ⟨rfl, e⟩ | ⟨h1, h2, h3⟩
  · rw [ht] at e; exact .inl ⟨rfl, by injection e⟩
  · exact .inr ⟨h1, fun e => h2 (e ▸ hck), h3⟩
/-- The rows that are left, once the store is all that is left. -/
theorem RInv.row {tab : Nat → Option (List Int)} {cons : Nat → Nat} {vals : Nat → Option Value} {w0 : World} {listed : Array Bool} {T : Nat → Value} {u : World} (h : RInv tab cons vals w0 listed T u) {k : Nat} {xs : List Int} (h1 : listed.getD k false = true) (h2 : listed.getD (cons k) false = false) (h3 : tab k = some xs) :
    RowV u w0.heap.size (T k) xs := h.own.row k xs (live_here h1 h2 h3)
theorem RInv.val {tab : Nat → Option (List Int)} {cons : Nat → Nat} {vals : Nat → Option Value} {w0 : World} {listed : Array Bool} {T : Nat → Value} {u : World} (h : RInv tab cons vals w0 listed T u) {k : Nat} {v : Value} (h1 : listed.getD k false = true) (h3 : vals k = some v) : T k = v := h.fv k v h3 h1
end Go.Proofs.YtimlpdcambmcjaaGreat

namespace Go.Proofs.YtimlpdcambmcjaaGreat
open Go.ChangeShapes Go.WideShapes Go.ChangeAt Go.RowKit Go.Sort
set_option linter.unusedVariables false
set_option linter.unusedSimpArgs false

/-- At A lie the numbers xs, in a block of numbers. -/
def RW (w : World) (A : Option Addr) (xs : List Int) : Prop := RI w A xs ∧ (xs ≠ [] → ∃ b off cs fr, A = some ⟨b, off, none⟩ ∧ w.heap[b]? = some (Obj.cells cs 3 fr))
theorem RW.ri {w : World} {A : Option Addr} {xs : List Int} (h : RW w A xs) : RI w A xs := h.1
theorem RW.nil (w : World) (A : Option Addr) : RW w A [] := ⟨fun h => absurd rfl h, fun h => absurd rfl h⟩
theorem RW.keep {w w' : World} {A : Option Addr} {xs : List Int} (h : RW w A xs) (hk : ∀ (b : Nat) cs fr, w.heap[b]? = some (Obj.cells cs 3 fr) → w'.heap[b]? = w.heap[b]?) (hs : w.heap.size ≤ w'.heap.size) : RW w' A xs := by
  refine ⟨fun hx => ?_, fun hx => ?_⟩
  · obtain ⟨b, off, h1, h2, h3, h4⟩ := h.1 hx
    obtain ⟨b', off', cs, fr, e1, e2⟩ := h.2 hx
    rw [h1] at e1
    injection e1 with e1
    injection e1 with e1 e3
    subst e1
    exact ⟨b, off, h1, h2, by omega, fun k hk' => (World.cell?_of_block (hk b cs fr e2)).trans (h4 k hk')⟩
  · obtain ⟨b', off', cs, fr, e1, e2⟩ := h.2 hx
    exact ⟨b', off', cs, fr, e1, (hk b' cs fr e2).trans e2⟩
theorem RW.step {w w' : World} {A : Option Addr} {xs : List Int} (h : RW w A xs) (b : Below w.heap.size w w') : RW w' A xs :=
  h.keep (fun k cs fr e => b.block k (Array.getElem?_eq_some_iff.1 e).1) b.size
theorem RowV.rw {w : World} {base : Nat} {A : Option Addr} {n c : Nat} {xs : List Int} (h : RowV w base (.slice A n c) xs) : RW w A xs := by
  refine ⟨ri_of_row h, fun hx => ?_⟩
  have hn : 0 < xs.length := List.length_pos_iff.2 hx
  rcases h.2 with ⟨hv, h0⟩ | ⟨g, cap, cur, hv, hbk, hk, _⟩
  · omega
  · injection hv with e1 e2 e3
    subst e1
    exact ⟨g, 0, _, _, rfl, hk⟩
theorem RW.setBox {w : World} {A : Option Addr} {xs : List Int} {g i : Nat} {u : Value} {bx : Array Value} {t : TypeId} (h : RW w A xs) (hb : Box w g bx t) (ht : t ≠ 3) : RW (w.setCell ⟨g, i, none⟩ u) A xs :=
  h.keep (fun b cs fr e => Below.heap_setCell _ _ _ _ (fun e' => by
    have e2 : b = g := e'
    unfold Box at hb
    rw [e2, hb] at e
    injection e with e
    injection e with _ h2
    exact ht h2)) (by rw [set_size]; exact Nat.le_refl _)
/-- A row of another type grows: numbers stay. -/
theorem RW.grown {w w' : World} {A : Option Addr} {xs : List Int} {base : Nat} {e : TypeId} {size : Nat} {v : Value} {n : Nat} {cs : List Value} (h : RW w A xs) (ho : w.ownsRow base e size v n cs) (hg : w.grownBy w' v.ownBlock) (he : e ≠ 3) : RW w' A xs :=
  h.keep (fun b cs fr hb => hg.block b (Array.getElem?_eq_some_iff.1 hb).1 (fun e' => by
    rcases ho.2 with ⟨hv, _⟩ | ⟨g, cap, cur, hv, hbk, hk, _⟩
    · rw [hv] at e'; simp [Value.ownBlock] at e'
    · have e2 : g = b := own_some (by rw [← hv]; exact e'.symm)
      rw [e2, hb] at hk
      injection hk with hk
      injection hk with _ h2
      exact he h2.symm)) hg.size
end Go.Proofs.YtimlpdcambmcjaaGreat

namespace Go.Proofs.YtimlpdcambmcjaaGreat
open Go.ChangeShapes Go.WideShapes Go.ChangeAt Go.RowKit Go.Sort
set_option linter.unusedVariables false
set_option linter.unusedSimpArgs false

abbrev noP : PL := ([], [])
/-- Two cells are the binding p. -/
def BE (w : World) (u v : Value) (p : PL) : Prop := ∃ X c Y d, u = .slice X p.1.length c ∧ v = .slice Y p.2.length d ∧ RW w X p.1 ∧ RW w Y p.2
theorem BE.keep {w w' : World} {u v : Value} {p : PL} (h : BE w u v p) (hk : ∀ (b : Nat) cs fr, w.heap[b]? = some (Obj.cells cs 3 fr) → w'.heap[b]? = w.heap[b]?) (hs : w.heap.size ≤ w'.heap.size) : BE w' u v p := by
  obtain ⟨X, c, Y, d, e1, e2, h1, h2⟩ := h
  exact ⟨X, c, Y, d, e1, e2, h1.keep hk hs, h2.keep hk hs⟩
theorem BE.step {w w' : World} {u v : Value} {p : PL} (h : BE w u v p) (b : Below w.heap.size w w') : BE w' u v p := h.keep (fun k cs fr e => b.block k (Array.getElem?_eq_some_iff.1 e).1) b.size
/-- The slice value v owns a row of the bindings ps. -/
def BC (w : World) (lo : Nat) (v : Value) (ps : List PL) : Prop :=
  ∃ cs, w.ownsRow lo 100 2 v ps.length cs ∧ ∀ k, k < ps.length → ∃ a b, cs[k * 2]? = some a ∧ cs[k * 2 + 1]? = some b ∧ BE w a b (ps.getD k noP)
theorem BC.nil (w : World) (lo : Nat) : BC w lo (.slice none 0 0) [] := ⟨[], World.ownsRow_nil _ _ _ _, fun k hk => by simp at hk⟩
theorem BC.form {w : World} {lo : Nat} {v : Value} {ps : List PL} (h : BC w lo v ps) : ∃ A c, v = .slice A ps.length c := by
  obtain ⟨cs, h, _⟩ := h
  exact ownsRow_form h
theorem BC.step {w w' : World} {lo : Nat} {v : Value} {ps : List PL} (h : BC w lo v ps) (b : Below w.heap.size w w') : BC w' lo v ps := by
  obtain ⟨cs, h1, h2⟩ := h
  exact ⟨cs, ownsRow_step h1 b, fun k hk => by
    obtain ⟨x, y, e1, e2, h3⟩ := h2 k hk
    exact ⟨x, y, e1, e2, h3.step b⟩⟩
theorem BC.lo {w : World} {lo lo' : Nat} {v : Value} {ps : List PL} (h : BC w lo v ps) (a : lo' ≤ lo) : BC w lo' v ps := by
  obtain ⟨cs, h1, h2⟩ := h
  exact ⟨cs, ownsRow_low h1 a, h2⟩
theorem BC.at_ {w : World} {lo c : Nat} {A : Option Addr} {ps : List PL} (h : BC w lo (.slice A ps.length c) ps) {k : Nat} (hk : k < ps.length) {p : PL} (hf : ps.getD k noP = p) :
    ∃ g X c1 Y d1, A = some ⟨g, 0, none⟩ ∧ g < w.heap.size ∧ w.cell? ⟨g, k * 2, none⟩ = some (.slice X p.1.length c1) ∧ w.cell? ⟨g, k * 2 + 1, none⟩ = some (.slice Y p.2.length d1) ∧ RW w X p.1 ∧ RW w Y p.2 := by
  obtain ⟨cs, h1, h2⟩ := h
  obtain ⟨x, y, e1, e2, X, c1, Y, d1, rfl, rfl, r1, r2⟩ := h2 k hk
  rw [hf] at e1 e2 r1 r2
  rcases h1.2 with ⟨hv, h0⟩ | ⟨g, cap, cur, hv, hbk, hg, _⟩
  · omega
  · injection hv with a1 a2 a3
    subst a1
    have q1 := World.ownsRow.cells h1 (g := g) rfl _ _ e1
    have q2 := World.ownsRow.cells h1 (g := g) rfl _ _ e2
    rw [add_eq] at q1 q2
    exact ⟨g, X, c1, Y, d1, rfl, (Array.getElem?_eq_some_iff.1 hg).1, by simpa using q1, by simpa using q2, r1, r2⟩
theorem getD_snocB (ps : List PL) (p : PL) (k : Nat) (hk : k < (ps ++ [p]).length) : (ps ++ [p]).getD k noP = if k < ps.length then ps.getD k noP else p := by
  rw [List.length_append, List.length_singleton] at hk
  by_cases h : k < ps.length
  · rw [if_pos h, List.getD_eq_getElem?_getD, List.getElem?_append_left h, ← List.getD_eq_getElem?_getD]
  · have : k = ps.length := by omega
    subst this
    rw [if_neg h]
    simp [List.getD_eq_getElem?_getD]

set_option maxRecDepth 100000 in
theorem binding_info : (Tryz.prog.info? 100).map (fun i => (i.zero, i.size, i.bytes)) = some (some (.agg #[.slice none 0 0, .slice none 0 0]), 2, 48) := by kernel_rfl

/-- append(v, y) of one binding, in a new block. -/
theorem wpList_pushB {P : Program} {W : World} {ops : Array Oper} {rest : List Oper} {o : Oper} {a : Act} {Q : Exit → Act → World → Prop} (hgd : o.guard = none) (s x : Operand) (t : TypeId)
    (ho : o.op = .call { callee := .builtin .append, args := #[s, x], argTypes := #[t, t] })
    (i : TypeInfo) (ht : P.underlying t = some (.slice 100)) (hi : P.info? 100 = some i) (hz : i.zero = some (.agg #[.slice none 0 0, .slice none 0 0])) (hz1 : i.size = 2) (hz2 : i.bytes = 48)
    {base : Nat} {v : Value} {ps : List PL} {p : PL} {y1 y2 : Value} (hs : a.eval s = v) (hx : a.eval x = .slice (some ⟨W.heap.size, 0, none⟩) 1 1)
    (hown : BC W base v ps) (hE : BE W y1 y2 p) (hbase : base ≤ W.heap.size) (hn : ps.length + 1 ≤ 1099511627776)
    (h : ∀ v' w', BC w' base v' (ps ++ [p]) → W.grownBy w' v.ownBlock → wpList P ops Q rest (a.put o.dst v') w') :
    wpList P ops Q (o :: rest) a (W.alloc (.cells #[y1, y2] 100)) := by
  obtain ⟨cs, h1, h2⟩ := hown
  obtain ⟨X, c, Y, d, rfl, rfl, r1, r2⟩ := hE
  refine wpList_append_own (P := P) _ hgd s x t ho base 100 i _ 2 48 ht hi hz hz1 hz2 rfl (by omega) v ps.length cs hs (h1.alloc _) ⟨W.heap.size, 0, none⟩ 1 1 [.slice X p.1.length c, .slice Y p.2.length d] hx rfl
    (World.news_of_block (cs := #[.slice X p.1.length c, .slice Y p.2.length d]) (t := 100) (fr := (0, 0)) (heap_alloc_new W _)) (by simp [Value.oneCell'])
    (by unfold maxLen; omega) (by omega) (by simp; omega) ?_
  intro v' w' hown' hg _
  have hcl : cs.length = ps.length * 2 := h1.1
  have hg2 : W.grownBy w' v.ownBlock := (World.grownBy_alloc W _ _).trans hg
  have kp : ∀ (b : Nat) ds fr, W.heap[b]? = some (Obj.cells ds 3 fr) → w'.heap[b]? = W.heap[b]? := fun b ds fr hb => hg2.block b (Array.getElem?_eq_some_iff.1 hb).1 (fun e' => by
    rcases h1.2 with ⟨hv, _⟩ | ⟨g, cap, cur, hv, hbk, hk, _⟩
    · rw [hv] at e'; simp [Value.ownBlock] at e'
    · have e2 : g = b := own_some (by rw [← hv]; exact e'.symm)
      rw [e2, hb] at hk
      injection hk with hk
      injection hk with _ h2
      exact absurd h2 (by decide))
  refine h v' w' ⟨cs ++ [.slice X p.1.length c, .slice Y p.2.length d], by rw [List.length_append]; exact hown', fun k hk => ?_⟩ hg2
  rw [getD_snocB ps p k hk]
  rw [List.length_append, List.length_singleton] at hk
  by_cases hlt : k < ps.length
  · rw [if_pos hlt]
    obtain ⟨x, y, e1, e2, h3⟩ := h2 k hlt
    refine ⟨x, y, ?_, ?_, h3.keep kp hg2.size⟩
    · rw [List.getElem?_append_left (by omega)]; exact e1
    · rw [List.getElem?_append_left (by omega)]; exact e2
  · have : k = ps.length := by omega
    subst this
    rw [if_neg hlt]
    refine ⟨_, _, ?_, ?_, X, c, Y, d, rfl, rfl, r1.keep kp hg2.size, r2.keep kp hg2.size⟩
    · rw [List.getElem?_append_right (by omega), hcl]; simp
    · rw [List.getElem?_append_right (by omega), hcl, show ps.length * 2 + 1 - ps.length * 2 = 1 by omega]; rfl
end Go.Proofs.YtimlpdcambmcjaaGreat

namespace Go.Proofs.YtimlpdcambmcjaaGreat
open Go.ChangeShapes Go.WideShapes Go.ChangeAt Go.RowKit Go.Sort
open Go.Maps (Keyed int_keyed keyOf_int_mk)
set_option linter.unusedVariables false
set_option linter.unusedSimpArgs false

def cpTab (ts vs : List Int) : Nat → Option (List Int)
  | 0 => some [] | 3 => some ts | 4 => some [] | 7 => some vs | _ => none
def cpCons : Nat → Nat
  | 0 => 3 | 3 => 9 | 4 => 7 | 7 => 9 | _ => 10
def cpVals (g : Nat) (x y : Value) : Nat → Option Value
  | 1 => some (.pointer (some ⟨g, 0, none⟩)) | 2 => some x | 5 => some (.pointer (some ⟨g, 1, none⟩)) | 6 => some y | _ => none

set_option maxRecDepth 100000 in
set_option maxHeartbeats 4000000 in
theorem l4Copy_any (A B : Option Addr) (c d : Nat) (ts vs : List Int) (hts : ts.length ≤ 1048576) (hvs : vs.length ≤ 1048576) (w : World) (hA : RI w A ts) (hB : RI w B vs) :
    Calls Tryz.prog 121 #[.agg #[.slice A ts.length c, .slice B vs.length d]] w fun e w' => ∃ X c' Y d', e = .returned (.agg #[.slice X ts.length c', .slice Y vs.length d']) ∧ RW w' X ts ∧ RW w' Y vs ∧ Below w.heap.size w w' := by
  have B0 := Lib.hid (step (below_alloc w (.cells #[.slice A ts.length c, .slice B vs.length d] 100)) (below_alloc _ (.cells #[.slice none 0 0, .slice none 0 0] 100)))
  have X0 := Lib.hid ((Box.new w #[.slice A ts.length c, .slice B vs.length d] 100).step (below_alloc _ (.cells #[.slice none 0 0, .slice none 0 0] 100)))
  have Y0 := Lib.hid (Box.new (w.alloc (.cells #[.slice A ts.length c, .slice B vs.length d] 100)) #[.slice none 0 0, .slice none 0 0] 100)
  rw [al_size] at Y0
  have HA := Lib.hid (hA.step B0.out)
  have HB := Lib.hid (hB.step B0.out)
  obtain ⟨w0, hw0⟩ : ∃ W, W = (w.alloc (.cells #[.slice A ts.length c, .slice B vs.length d] 100)).alloc (.cells #[.slice none 0 0, .slice none 0 0] 100) := ⟨_, rfl⟩
  have E0 := Lib.hid hw0
  rw [← hw0] at B0 X0 Y0 HA HB
  have hsz : w.heap.size + 2 = w0.heap.size := by rw [hw0, al_size, al_size]
  have x0 := X0.out.cell 0
  have x1 := X0.out.cell 1
  simp only [List.getElem?_toArray, List.getElem?_cons_zero, List.getElem?_cons_succ] at x0 x1
  clear hA hB hw0
  go_enter Tryz.func121, Tryz.ntmps121
  go_upto_region 1 with fail
  rw [← E0.out]
  refine wp_region_inv rfl (by kernel_rfl) (fun listed a u => ∃ T : Nat → Value, a = ⟨#[Value.agg #[Value.slice A ts.length c, Value.slice B vs.length d], Value.pointer (some ⟨w.heap.size, 0, none⟩), Value.pointer (some ⟨w.heap.size + 1, 0, none⟩), T 0, T 1, T 2, T 3, T 4, T 5, T 6, T 7, T 8], []⟩ ∧
    (listed.getD 9 false = false → RInv (cpTab ts vs) cpCons (cpVals w.heap.size (.slice A ts.length c) (.slice B vs.length d)) w0 listed T u ∧ (listed.getD 8 false = true → T 8 = .agg #[T 3, T 7])) ∧
    (listed.getD 9 false = true → NewB u w0.heap.size (w.heap.size + 1) ts vs ∧ Below w.heap.size w u)) ?_ ?_ ?_
  · refine ⟨fun _ => undef, rfl, fun _ => ⟨RInv.start _, fun h => ?_⟩, fun h => ?_⟩ <;> exact absurd h (by decide)
  · rintro listed a u i hi hz hc ⟨T, rfl, h1, h2⟩
    have hlt : i < 10 := ready_lt hi
    have hs : i < listed.size := by rw [hz]; exact ready_lt hi
    have hn := ready_new hi hz
    have n9 : listed.getD 9 false = false := by
      obtain rfl | rfl | rfl | rfl | rfl | rfl | rfl | rfl | rfl | rfl : i = 0 ∨ i = 1 ∨ i = 2 ∨ i = 3 ∨ i = 4 ∨ i = 5 ∨ i = 6 ∨ i = 7 ∨ i = 8 ∨ i = 9 := by omega
      all_goals first | exact hn | exact not_yet hc hn 0 9 (by kernel_rfl)
    obtain ⟨I0, h8⟩ := h1 n9
    clear h1 h2
    by_cases hlt8 : i < 8
    · have n8 : listed.getD 8 false = false := by
        obtain rfl | rfl | rfl | rfl | rfl | rfl | rfl | rfl : i = 0 ∨ i = 1 ∨ i = 2 ∨ i = 3 ∨ i = 4 ∨ i = 5 ∨ i = 6 ∨ i = 7 := by omega
        all_goals exact not_yet hc hn 3 8 (by kernel_rfl)
      have key : ∀ (v : Value) (u' : World), RInv (cpTab ts vs) cpCons (cpVals w.heap.size (.slice A ts.length c) (.slice B vs.length d)) w0 (listed.setIfInBounds i true) (upd T i v) u' → ∀ a', a' = (⟨#[Value.agg #[Value.slice A ts.length c, Value.slice B vs.length d], Value.pointer (some ⟨w.heap.size, 0, none⟩), Value.pointer (some ⟨w.heap.size + 1, 0, none⟩), upd T i v 0, upd T i v 1, upd T i v 2, upd T i v 3, upd T i v 4, upd T i v 5, upd T i v 6, upd T i v 7, upd T i v 8], []⟩ : Act) → _ :=
        fun v u' hr a' ha => (⟨upd T i v, ha, fun _ => ⟨hr, fun h => absurd h (by rw [getD_set hs, if_neg (by omega), n8]; decide)⟩, fun h => absurd h (by rw [getD_set hs, if_neg (by omega), n9]; decide)⟩ : (fun listed a u => ∃ T : Nat → Value, a = (⟨#[Value.agg #[Value.slice A ts.length c, Value.slice B vs.length d], Value.pointer (some ⟨w.heap.size, 0, none⟩), Value.pointer (some ⟨w.heap.size + 1, 0, none⟩), T 0, T 1, T 2, T 3, T 4, T 5, T 6, T 7, T 8], []⟩ : Act) ∧
    (listed.getD 9 false = false → RInv (cpTab ts vs) cpCons (cpVals w.heap.size (.slice A ts.length c) (.slice B vs.length d)) w0 listed T u ∧ (listed.getD 8 false = true → T 8 = .agg #[T 3, T 7])) ∧
    (listed.getD 9 false = true → NewB u w0.heap.size (w.heap.size + 1) ts vs ∧ Below w.heap.size w u)) (listed.setIfInBounds i true) a' u')
      obtain rfl | rfl | rfl | rfl | rfl | rfl | rfl | rfl : i = 0 ∨ i = 1 ∨ i = 2 ∨ i = 3 ∨ i = 4 ∨ i = 5 ∨ i = 6 ∨ i = 7 := by omega
      · refine wpOp_plain rfl rfl (fun K' hK => ?_)
        go_simp
        exact hK _ _ (key _ _ (I0.fresh hs (below_alloc _ _) rfl rfl (World.ownsRow_lit _ #[] 0 (Nat.le_refl _) (by unfold maxLen; omega) rfl)) _ rfl)
      · refine wpOp_plain rfl rfl (fun K' hK => ?_)
        go_simp
        exact hK _ _ (key _ _ (I0.quiet hs (Below.refl _ _) rfl (by rintro x ⟨⟩; rfl)) _ rfl)
      · refine wpOp_plain rfl rfl (fun K' hK => ?_)
        have e1 := I0.val (ready_dep hi (j := 1) (by kernel_rfl)) rfl
        have hx := (I0.below.cell (p := ⟨w.heap.size, 0, none⟩) (by simp; omega)).trans x0
        go_simp
        exact hK _ _ (key (.slice A ts.length c) _ (I0.quiet hs (Below.refl _ _) rfl (by rintro x ⟨⟩; rfl)) _ (by simp [upd, e1]))
      · refine wpOp_plain rfl rfl (fun K' hK => ?_)
        have e2 := I0.val (ready_dep hi (j := 2) (by kernel_rfl)) rfl
        have hl := live_here (tab := cpTab ts vs) (cons := cpCons) (ready_dep hi (j := 0) (by kernel_rfl)) hn rfl
        refine opwp_append_row (.tmp 3) (.tmp 5) rfl w0.heap.size (T 0) [] rfl (I0.own.row 0 [] hl) A c ts e2 (HA.out.step I0.below) (by simp; omega) I0.below.size ?_
        intro v' w' r1 r2 r3
        exact hK _ _ (key v' w' (I0.grow hs hl rfl rfl rfl r1 r2 r3) _ rfl)
      · refine wpOp_plain rfl rfl (fun K' hK => ?_)
        go_simp
        exact hK _ _ (key _ _ (I0.fresh hs (below_alloc _ _) rfl rfl (World.ownsRow_lit _ #[] 0 (Nat.le_refl _) (by unfold maxLen; omega) rfl)) _ rfl)
      · refine wpOp_plain rfl rfl (fun K' hK => ?_)
        go_simp
        exact hK _ _ (key _ _ (I0.quiet hs (Below.refl _ _) rfl (by rintro x ⟨⟩; rfl)) _ rfl)
      · refine wpOp_plain rfl rfl (fun K' hK => ?_)
        have e1 := I0.val (ready_dep hi (j := 5) (by kernel_rfl)) rfl
        have hx := (I0.below.cell (p := ⟨w.heap.size, 1, none⟩) (by simp; omega)).trans x1
        go_simp
        exact hK _ _ (key (.slice B vs.length d) _ (I0.quiet hs (Below.refl _ _) rfl (by rintro x ⟨⟩; rfl)) _ (by simp [upd, e1]))
      · refine wpOp_plain rfl rfl (fun K' hK => ?_)
        have e2 := I0.val (ready_dep hi (j := 6) (by kernel_rfl)) rfl
        have hl := live_here (tab := cpTab ts vs) (cons := cpCons) (ready_dep hi (j := 4) (by kernel_rfl)) hn rfl
        refine opwp_append_row (.tmp 7) (.tmp 9) rfl w0.heap.size (T 4) [] rfl (I0.own.row 4 [] hl) B d vs e2 (HB.out.step I0.below) (by simp; omega) I0.below.size ?_
        intro v' w' r1 r2 r3
        exact hK _ _ (key v' w' (I0.grow hs hl rfl rfl rfl r1 r2 r3) _ rfl)
    · have l3 := (closed_reach hc 0 8 3 (by kernel_rfl))
      have l7 := (closed_reach hc 0 8 7 (by kernel_rfl))
      obtain rfl | rfl : i = 8 ∨ i = 9 := by omega
      · refine wpOp_plain rfl rfl (fun K' hK => ?_)
        obtain ⟨X, cx, e3⟩ := (I0.own.row 3 ts (live_here (ready_dep hi (j := 3) (by kernel_rfl)) n9 rfl)).form
        obtain ⟨Y, cy, e7⟩ := (I0.own.row 7 vs (live_here (ready_dep hi (j := 7) (by kernel_rfl)) n9 rfl)).form
        rw [e3, e7]
        go_simp
        refine hK _ _ ⟨upd T 8 (.agg #[.slice X ts.length cx, .slice Y vs.length cy]), by simp [upd, e3, e7], fun _ => ⟨I0.quiet hs (Below.refl _ _) rfl (by rintro x ⟨⟩), fun _ => by simp [upd, e3, e7]⟩, fun h => absurd h (by rw [getD_set hs, if_neg (by omega), n9]; decide)⟩
      · refine wpOp_plain rfl rfl (fun K' hK => ?_)
        have d8 := ready_dep hi (j := 8) (by kernel_rfl)
        have r3 := I0.own.row 3 ts (live_here (l3 d8) n9 rfl)
        have r7 := I0.own.row 7 vs (live_here (l7 d8) n9 rfl)
        obtain ⟨X, cx, e3⟩ := r3.form
        obtain ⟨Y, cy, e7⟩ := r7.form
        have e8 := h8 d8
        rw [e3] at r3 e8
        rw [e7] at r7 e8
        have hy := Y0.out.step I0.below
        have y0 := hy.cell 0
        have y1 := hy.cell 1
        have y2 := hy.frozen 0
        have y3 := hy.frozen 1
        simp only [List.getElem?_toArray, List.getElem?_cons_zero, List.getElem?_cons_succ] at y0 y1
        go_simp
        refine hK _ _ ⟨T, by rw [e8, e3, e7], fun h => absurd h (by rw [getD_set hs, if_pos rfl]; decide), fun _ => ⟨NewB.store hy rfl r3 r7, ?_⟩⟩
        exact Below.setCell (Below.setCell (B0.out.trans (I0.below.mono B0.out.size)) (by (try simp) <;> omega) _) (by (try simp) <;> omega) _
  · rintro listed a u hz hall ⟨T, rfl, h1, h2⟩
    obtain ⟨⟨X, cx, Y, cy, hb, hr1, hr2⟩, hbw⟩ := h2 (hall 9 (by decide))
    have y0 := hb.cell 0
    have y1 := hb.cell 1
    simp only [List.getElem?_toArray, List.getElem?_cons_zero, List.getElem?_cons_succ] at y0 y1
    go_wp2
    refine bodyPost_ret (v := .agg #[.slice X ts.length cx, .slice Y vs.length cy]) (by simp [results, Tryz.results121, go_sem, y0, y1]) rfl ?_
    exact ⟨X, cx, Y, cy, rfl, RowV.rw hr1, RowV.rw hr2, hbw⟩
end Go.Proofs.YtimlpdcambmcjaaGreat
