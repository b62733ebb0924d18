/- What the program's MatchAtom leaves. Conditions: none beyond each theorem's own. Bindings in the law of MatchAtom: what is opened, marked and held. Conditions: none beyond each theorem's own. Freezing a query, purely: the values that are free, the facts. Conditions: none beyond each theorem's own. Freezing a query apart from another one's constants, purely: the model's way and the program's agree. Conditions: none beyond each theorem's own. The end of the model's FreezeQuery. Conditions: none beyond each theorem's own. -/
import Derived.Test.YtimlpdcambmcjaaGreatSSpM
import Derived.Test.YtimlpdcambmcjaaGreatS23
import Derived.Test.YtimlpdcambmcjaaGreatSAtom
import Derived.Test.YtimlpdcambmcjaaGreatS12
import Derived.Test.YtimlpdcambmcjaaGreatS21
import Derived.Test.YtimlpdcambmcjaaGreatS20

namespace Go.Proofs.YtimlpdcambmcjaaGreat
open Go.ChangeShapes Go.WideShapes Go.ChangeAt Go.RowKit Go.Sort
open Go.Maps (Keyed int_keyed keyOf_int_mk)
set_option linter.unusedVariables false
set_option linter.unusedSimpArgs false

theorem mst_mem {p q : PL} {t v x : Int} (h : mst p t v = some q) (hx : x ∈ q.1) : x ∈ p.1 ∨ x = t := by
  rcases mst_cases p t v with ⟨_, e⟩ | ⟨_, _, e⟩ | ⟨_, _, e⟩ <;> rw [e] at h
  · split at h
    · injection h with h; subst h; exact .inl hx
    · cases h
  · split at h
    · injection h with h; subst h; exact .inl hx
    · cases h
  · injection h with h
    subst h
    simpa using hx
theorem mgo_mem : ∀ (ts vs : List Int) (p q : PL), mgo p ts vs = some q → ∀ x ∈ q.1, x ∈ p.1 ∨ x ∈ ts
  | [], vs, p, q, h, x, hx => by rw [mgo_nil] at h; injection h with h; subst h; exact .inl hx
  | t :: ts, [], p, q, h, x, hx => by injection h with h; subst h; exact .inl hx
  | t :: ts, v :: vs, p, q, h, x, hx => by
    change (mst p t v).bind _ = _ at h
    cases hm : mst p t v with
    | none => rw [hm] at h; cases h
    | some r =>
      rw [hm] at h
      rcases mgo_mem ts vs r q h x hx with h1 | h1
      · rcases mst_mem hm h1 with h2 | h2
        · exact .inl h2
        · exact .inr (h2 ▸ List.mem_cons_self)
      · exact .inr (List.mem_cons_of_mem _ h1)

/-- What the program's MatchAtom answers. -/
def MatOwn (w : World) (r : Option PL) (e : Ending) (w' : World) : Prop :=
  ((r = none ∧ e = .returned (.tuple #[.agg #[.slice none 0 0, .slice none 0 0], .bool false])) ∨
   (∃ q X c Y d, r = some q ∧ e = .returned (.tuple #[.agg #[.slice X q.1.length c, .slice Y q.2.length d], .bool true]) ∧ RowV w' w.heap.size (.slice X q.1.length c) q.1 ∧ RowV w' w.heap.size (.slice Y q.2.length d) q.2 ∧ Apart (.slice X q.1.length c) (.slice Y q.2.length d))) ∧ Below w.heap.size w w' ∧ w.heap.size + 4 ≤ w'.heap.size

end Go.Proofs.YtimlpdcambmcjaaGreat

namespace Go.Proofs.YtimlpdcambmcjaaGreat
open Go.ChangeShapes Go.WideShapes Go.ChangeAt Go.RowKit Go.Sort
set_option linter.unusedVariables false
set_option linter.unusedSimpArgs false

section
variable {H : Type} {enc : TypeId × Value → H} {w : World}
set_option maxRecDepth 100000 in
theorem open_factW {r : Reach} {base : Nat} {v : Value} {d : DataW H} {p : List MemPlace} (hv : Value.okWide Tryz.prog w r base 73 v) (h : DataW.Trod enc Tryz.prog w 0 (fun _ => true) true 73 v d p) :
    ∃ (f : Int × List Int) (A : Option Addr) (c : Nat), v = .agg #[.int .i64 f.1, .slice A f.2.length c] ∧ f.2.length ≤ c ∧ c ≤ maxLen ∧ Ints w 0 w.heap.size A f.2 ∧ ∀ n ∈ f.2, (Lit.int .i64 n).wf = true := by
  obtain ⟨v0, v1, y0, y1, n, rfl, _, _, h0, h1⟩ := Go.Joins.open_agg2 Tryz.underlying73 (by kernel_rfl) (by kernel_rfl) hv h
  obtain ⟨z, hz, _, _⟩ := DataW.trod_int Tryz.underlying3 h0
  injection hz with hz
  obtain ⟨A, c, xs, hv1, hl, hm, hi, hw⟩ := open_numsW (v := v1) Tryz.underlying22 Tryz.underlying3 (by kernel_rfl) h1
  subst hz hv1
  exact ⟨(z, xs), A, c, rfl, hl, hm, hi, hw⟩
set_option maxRecDepth 100000 in
theorem open_atomW {r : Reach} {base : Nat} {v : Value} {d : DataW H} {p : List MemPlace} (hv : Value.okWide Tryz.prog w r base 92 v) (h : DataW.Trod enc Tryz.prog w 0 (fun _ => true) true 92 v d p) :
    ∃ (f : Int × List Int) (A : Option Addr) (c : Nat), v = .agg #[.int .i64 f.1, .slice A f.2.length c] ∧ f.2.length ≤ c ∧ c ≤ maxLen ∧ Ints w 0 w.heap.size A f.2 ∧ ∀ n ∈ f.2, (Lit.int .i64 n).wf = true := by
  obtain ⟨v0, v1, y0, y1, n, rfl, _, _, h0, h1⟩ := Go.Joins.open_agg2 Tryz.underlying92 (by kernel_rfl) (by kernel_rfl) hv h
  obtain ⟨z, hz, _, _⟩ := DataW.trod_int Tryz.underlying3 h0
  injection hz with hz
  obtain ⟨A, c, xs, hv1, hl, hm, hi, hw⟩ := open_numsW (v := v1) Tryz.underlying22 Tryz.underlying3 (by kernel_rfl) h1
  subst hz hv1
  exact ⟨(z, xs), A, c, rfl, hl, hm, hi, hw⟩
end

/-- A binding of the call's own: two rows, each in a block of its own, from lo to below hi. -/
def BR (w : World) (lo hi : Nat) (X : Option Addr) (c : Nat) (Y : Option Addr) (d : Nat) (p : PL) : Prop :=
  ∃ q1 q2, OwnV w q1 (q1 + 1) (.slice X p.1.length c) q1 p.1 ∧ OwnV w q2 (q2 + 1) (.slice Y p.2.length d) q2 p.2 ∧ lo ≤ q1 ∧ q1 < hi ∧ lo ≤ q2 ∧ q2 < hi ∧ q1 ≠ q2 ∧ hi ≤ w.heap.size
theorem ownV_block {w w' : World} {q : Nat} {v : Value} {xs : List Int} (h : OwnV w q (q + 1) v q xs) (hk : w'.heap[q]? = w.heap[q]?) : OwnV w' q (q + 1) v q xs := by
  obtain ⟨A, c, e, hc, hm, hx⟩ := h
  refine ⟨A, c, e, hc, hm, fun hp => ?_⟩
  obtain ⟨h1, h2, h3, m, F, h4, h5, h6⟩ := hx hp
  exact ⟨h1, h2, h3, m, F, h4, h5.of_block hk, h6⟩
theorem BR.keep {w w' : World} {lo hi c d : Nat} {X Y : Option Addr} {p : PL} (h : BR w lo hi X c Y d p) (hk : ∀ b, lo ≤ b → b < hi → w'.heap[b]? = w.heap[b]?) (hs : w.heap.size ≤ w'.heap.size) : BR w' lo hi X c Y d p := by
  obtain ⟨q1, q2, h1, h2, h3, h4, h5, h6, h7, h8⟩ := h
  exact ⟨q1, q2, ownV_block h1 (hk q1 h3 h4), ownV_block h2 (hk q2 h5 h6), h3, h4, h5, h6, h7, Nat.le_trans h8 hs⟩
theorem BR.step {w w' : World} {lo hi c d : Nat} {X Y : Option Addr} {p : PL} (h : BR w lo hi X c Y d p) (b : Below w.heap.size w w') : BR w' lo hi X c Y d p := by
  have h8 : hi ≤ w.heap.size := by obtain ⟨_, _, _, _, _, _, _, _, _, h8⟩ := h; exact h8
  exact h.keep (fun k _ hk => b.block k (by omega)) b.size
theorem BR.ri {w : World} {lo hi c d : Nat} {X Y : Option Addr} {p : PL} (h : BR w lo hi X c Y d p) : RI w X p.1 := by
  obtain ⟨q1, q2, h1, h2, h3, h4, h5, h6, h7, h8⟩ := h
  exact (OwnV.ints h1).2.2.2.mono (Nat.zero_le _) (by omega)
theorem BR.rv {w : World} {lo hi c d : Nat} {X Y : Option Addr} {p : PL} (h : BR w lo hi X c Y d p) : RI w Y p.2 := by
  obtain ⟨q1, q2, h1, h2, h3, h4, h5, h6, h7, h8⟩ := h
  exact (OwnV.ints h2).2.2.2.mono (Nat.zero_le _) (by omega)
theorem ownV_row {w : World} {g : Nat} {xs : List Int} (hl : xs.length ≤ 1048576) (h : Row w g xs) : OwnV w g (g + 1) (.slice (some ⟨g, 0, none⟩) xs.length xs.length) g xs :=
  ⟨some ⟨g, 0, none⟩, xs.length, rfl, Nat.le_refl _, by unfold maxLen; omega, fun _ => ⟨rfl, Nat.le_refl _, Nat.lt_succ_self _, xs.length, _, Nat.le_refl _, h, fun i _ => rfl⟩⟩
theorem BX.br {w : World} {g : Nat} {hs l : List Int} (h1 : hs.length ≤ 1048576) (h2 : l.length ≤ 1048576) (h : BX w g hs l) : BR w g (g + 2) (some ⟨g, 0, none⟩) hs.length (some ⟨g + 1, 0, none⟩) l.length (hs, l) :=
  ⟨g, g + 1, ownV_row h1 h.1, ownV_row h2 h.2, Nat.le_refl _, by omega, by omega, by omega, by omega, by have := World.rowIs.lt h.2; omega⟩

/-- An own row lies in a block of its own, or has no numbers and then may lie anywhere. -/
theorem ownV_of_rowV {w : World} {base : Nat} {v : Value} {xs : List Int} (h : RowV w base v xs) (q0 : Nat) : ∃ q, OwnV w q (q + 1) v q xs ∧ ((v.ownBlock = some q ∧ base ≤ q ∧ q < w.heap.size) ∨ q = q0) := by
  rcases h.2 with ⟨hv, h0⟩ | ⟨k, cap, cur, hv, hbk, hk, hnc, hcm, hcs, htk⟩
  · have hx : xs = [] := List.eq_nil_of_length_eq_zero h0
    subst hx hv
    exact ⟨q0, ⟨none, 0, rfl, Nat.le_refl _, by unfold maxLen; omega, fun h => absurd h (by simp)⟩, .inr rfl⟩
  · obtain ⟨q, hq⟩ := ownV_of_row (show w.ownsRow base 3 1 v xs.length (xs.map (Value.int .i64)) from h)
    by_cases hp : 0 < xs.length
    · obtain ⟨A, c, e, hc, hm, hx⟩ := hq
      obtain ⟨h1, h2, h3, m, F, h4, h5, h6⟩ := hx hp
      refine ⟨q, ⟨A, c, e, hc, hm, fun _ => ⟨h1, Nat.le_refl _, Nat.lt_succ_self _, m, F, h4, h5, h6⟩⟩, .inl ⟨?_, h2, h3⟩⟩
      rw [e, h1]
      rfl
    · have hx : xs = [] := List.eq_nil_of_length_eq_zero (by omega)
      subst hx
      exact ⟨q0, ⟨some ⟨k, 0, none⟩, cap, hv, hnc, hcm, fun h => absurd h (by simp)⟩, .inr rfl⟩
theorem BR.of_rows {w : World} {lo : Nat} {X Y : Option Addr} {c d : Nat} {p : PL} (h1 : RowV w lo (.slice X p.1.length c) p.1) (h2 : RowV w lo (.slice Y p.2.length d) p.2) (ha : Apart (.slice X p.1.length c) (.slice Y p.2.length d)) (hs : lo + 4 ≤ w.heap.size) :
    BR w lo w.heap.size X c Y d p := by
  obtain ⟨a1, ha1, hb1⟩ := ownV_of_rowV h1 lo
  have key : ∀ q0, ∃ q, OwnV w q (q + 1) (.slice Y p.2.length d) q p.2 ∧ (((Value.slice Y p.2.length d).ownBlock = some q ∧ lo ≤ q ∧ q < w.heap.size) ∨ q = q0) := fun q0 => ownV_of_rowV h2 q0
  have hlo : lo ≤ a1 ∧ a1 < w.heap.size := by rcases hb1 with ⟨_, x, y⟩ | rfl <;> omega
  rcases hb1 with ⟨e1, x1, y1⟩ | e1
  · obtain ⟨a2, ha2, hb2⟩ := key (if a1 = lo then lo + 1 else lo)
    rcases hb2 with ⟨e2, x2, y2⟩ | e2
    · refine ⟨a1, a2, ha1, ha2, x1, y1, x2, y2, ?_, Nat.le_refl _⟩
      rintro rfl
      rcases ha with h | h
      · rw [e1] at h; cases h
      · exact h (e1.trans e2.symm)
    · have : a2 ≠ a1 ∧ lo ≤ a2 ∧ a2 < w.heap.size := by subst e2; split <;> omega
      exact ⟨a1, a2, ha1, ha2, x1, y1, this.2.1, this.2.2, this.1.symm, Nat.le_refl _⟩
  · obtain ⟨a2, ha2, hb2⟩ := key (lo + 1)
    rcases hb2 with ⟨e2, x2, y2⟩ | e2
    · obtain ⟨a3, ha3, hb3⟩ := ownV_of_rowV h1 (if a2 = lo then lo + 1 else lo)
      rcases hb3 with ⟨e3, x3, y3⟩ | e3
      · refine ⟨a3, a2, ha3, ha2, x3, y3, x2, y2, ?_, Nat.le_refl _⟩
        rintro rfl
        rcases ha with h | h
        · rw [e3] at h; cases h
        · exact h (e3.trans e2.symm)
      · have : a3 ≠ a2 ∧ lo ≤ a3 ∧ a3 < w.heap.size := by subst e3; split <;> omega
        exact ⟨a3, a2, ha3, ha2, this.2.1, this.2.2, x2, y2, this.1, Nat.le_refl _⟩
    · subst e1 e2
      exact ⟨a1, a1 + 1, ha1, ha2, Nat.le_refl _, by omega, by omega, by omega, by omega, Nat.le_refl _⟩

/-- Marks in it. -/
def BM (w : World) (lo hi : Nat) (X Y : Option Addr) (k : Int) (p : PL) : Prop :=
  ∃ q1 q2, Ints w q1 (q1 + 1) X (marks k p.1.length) ∧ Ints w q2 (q2 + 1) Y (marks (k + p.1.length) p.2.length) ∧ lo ≤ q1 ∧ q1 < hi ∧ lo ≤ q2 ∧ q2 < hi ∧ hi ≤ w.heap.size
theorem BM.step {w w' : World} {lo hi : Nat} {X Y : Option Addr} {k : Int} {p : PL} (h : BM w lo hi X Y k p) (b : Below w.heap.size w w') : BM w' lo hi X Y k p := by
  obtain ⟨q1, q2, h1, h2, h3, h4, h5, h6, h7⟩ := h
  exact ⟨q1, q2, h1.below b (by omega), h2.below b (by omega), h3, h4, h5, h6, Nat.le_trans h7 b.size⟩

/-- Only blocks from lo to below hi have turned. -/
structure TurnB (lo hi : Nat) (w w' : World) : Prop where
  below : Below lo w w'
  size : w.heap.size ≤ w'.heap.size
  block : ∀ b, (b < lo ∨ hi ≤ b) → b < w.heap.size → w'.heap[b]? = w.heap[b]?

theorem markIntS_ov (q : Nat) (A : Option Addr) (c : Nat) (k : Int) (xs : List Int) (hl : xs.length ≤ 1048576) (h0 : 0 ≤ k) (h1 : k ≤ 4194304) (w : World) (h : OwnV w q (q + 1) (.slice A xs.length c) q xs) :
    Calls Tryz.prog 14 #[.slice A xs.length c, .int .i64 k] w fun e w' => e = .returned (.int .i64 (k + xs.length)) ∧ Within q (q + 1) w w' ∧ Ints w' q (q + 1) A (marks k xs.length) := by
  obtain ⟨A', c', he, _, _, hx⟩ := h
  injection he with e1 e2 e3
  subst e1 e3
  by_cases hp : 0 < xs.length
  · obtain ⟨rfl, a, b, m, F, hm, hr, _⟩ := hx hp
    refine (markIntS_any _ q c xs.length m k w hl h0 (by omega) F (fun _ => rfl) hm (fun _ => hr)).mono ?_
    rintro e w' ⟨rfl, hw, hr'⟩
    refine ⟨rfl, hw, fun _ => ⟨q, 0, rfl, a, b, fun j hj => ?_⟩⟩
    rw [marks_length] at hj
    rw [Nat.zero_add, World.rowIs.cell (hr' hp) (show j < m by omega), marks_getD _ _ _ hj, if_pos hj]
  · refine (markIntS_any _ q c xs.length xs.length k w hl h0 (by omega) (fun _ => undef) (fun h => absurd h hp) (Nat.le_refl _) (fun h => absurd h hp)).mono ?_
    rintro e w' ⟨rfl, hw, _⟩
    refine ⟨rfl, hw, fun hx => ?_⟩
    have : xs.length = 0 := by omega
    rw [this] at hx
    exact absurd rfl hx

/-- What both answer, as a pair of lists, and whether they match. -/
def mres (o : Option PL) : PL := o.getD ([], [])
/-- A binding that lies somewhere. -/
def BI (w : World) (X Y : Option Addr) (p : PL) : Prop := RI w X p.1 ∧ RI w Y p.2
theorem BI.step {w w' : World} {X Y : Option Addr} {p : PL} (h : BI w X Y p) (b : Below w.heap.size w w') : BI w' X Y p := ⟨h.1.step b, h.2.step b⟩
theorem spec_MatU (A B T V : Option Addr) (c d tc vc : Nat) (r r' : Int) (us bs ts vs : List Int) (hl : us.length + ts.length ≤ 1048576) (hlb : bs.length ≤ 1048576) (hlv : vs.length ≤ 1048576)
    (w : World) (hA : RI w A us) (hB : RI w B bs) (hT : RI w T ts) (hV : RI w V vs) :
    Calls Tryz.prog 158 #[.agg #[.slice A us.length c, .slice B bs.length d], .agg #[.int .i64 r, .slice T ts.length tc], .agg #[.int .i64 r', .slice V vs.length vc]] w fun e w' =>
      ∃ X c Y d, e = .returned (.tuple #[.agg #[.slice X (mres (matB (us, bs) r ts r' vs)).1.length c, .slice Y (mres (matB (us, bs) r ts r' vs)).2.length d], .bool (matB (us, bs) r ts r' vs).isSome]) ∧ BI w' X Y (mres (matB (us, bs) r ts r' vs)) ∧ Below w.heap.size w w' := by
  refine (spec_MatchAtom A B T V c d tc vc r r' us bs ts vs hl hlb hlv w hA hB hT hV).mono ?_
  rintro e w' ⟨h | h, hb⟩
  · obtain ⟨h1, rfl⟩ := h
    rw [h1]
    exact ⟨none, 0, none, 0, rfl, ⟨fun h => absurd rfl h, fun h => absurd rfl h⟩, hb⟩
  · obtain ⟨q, X, c, Y, d, h1, rfl, h2, h3⟩ := h
    rw [h1]
    exact ⟨X, c, Y, d, rfl, ⟨h2.ri, h3.ri⟩, hb⟩
theorem mres_len {p : PL} {r r' : Int} {ts vs : List Int} : (mres (matB p r ts r' vs)).1.length ≤ p.1.length + ts.length ∧ (mres (matB p r ts r' vs)).2.length ≤ p.1.length + ts.length := by
  cases h : matB p r ts r' vs with
  | none => exact ⟨Nat.zero_le _, Nat.zero_le _⟩
  | some q =>
    unfold matB at h
    split at h
    · rename_i hc
      have := mgo_len _ _ _ _ h hc.2.2
      show q.1.length ≤ _ ∧ q.2.length ≤ _
      omega
    · cases h
end Go.Proofs.YtimlpdcambmcjaaGreat

namespace Go.Proofs.YtimlpdcambmcjaaGreat
open Go.ChangeShapes Go.WideShapes Go.ChangeAt Go.RowKit Go.Sort
set_option linter.unusedVariables false
set_option linter.unusedSimpArgs false

/-- The numbers from 0 to below n that are not used, in order. -/
def frV (used : List Int) : Nat → List Int
  | 0 => []
  | n + 1 => if (n : Int) ∈ used then frV used n else frV used n ++ [(n : Int)]
theorem frV_used {used : List Int} {n : Nat} (h : decide ((n : Int) ∈ used) = true) : frV used (n + 1) = frV used n := by simp only [frV]; rw [if_pos (by simpa using h)]
theorem frV_free {used : List Int} {n : Nat} (h : decide ((n : Int) ∈ used) = false) : frV used (n + 1) = frV used n ++ [(n : Int)] := by simp only [frV]; rw [if_neg (by simpa using h)]
theorem frV_len (used : List Int) : ∀ n : Nat, (frV used n).length ≤ n
  | 0 => by simp [frV]
  | n + 1 => by
    have := frV_len used n
    simp only [frV]
    split <;> simp <;> omega
theorem frV_more (used : List Int) (n : Nat) : ∀ m, ∃ r, frV used (n + m) = frV used n ++ r
  | 0 => ⟨[], by simp⟩
  | m + 1 => by
    obtain ⟨r, hr⟩ := frV_more used n m
    rw [show n + (m + 1) = (n + m) + 1 by omega]
    simp only [frV]
    split
    · exact ⟨r, hr⟩
    · exact ⟨r ++ [((n + m : Nat) : Int)], by rw [hr, List.append_assoc]⟩
theorem frV_take (used : List Int) {n : Nat} (hn : n ≤ 10) {m : Nat} (h : (frV used n).length = m) : (frV used 10).take m = frV used n := by
  obtain ⟨r, hr⟩ := frV_more used n (10 - n)
  rw [show n + (10 - n) = 10 by omega] at hr
  rw [hr, ← h, List.take_left]
/-- The facts of the atoms. -/
def frzF (us vs : List Int) (l : FL) : FL := l.foldl (fun F a => addF F a.1 (tupV us vs a.2)) []
theorem frzF_take (us vs : List Int) (l : FL) {k : Nat} (hk : k < l.length) {r : Int} {xs : List Int} (hf : l.getD k (0, []) = (r, xs)) : frzF us vs (l.take (k + 1)) = addF (frzF us vs (l.take k)) r (tupV us vs xs) := by
  unfold frzF
  rw [List.take_succ_eq_append_getElem hk, List.foldl_append]
  have : l[k] = l.getD k (0, []) := by simp [List.getD_eq_getElem?_getD, hk]
  rw [this, hf]
  rfl
theorem szF_frz (us vs : List Int) (l : FL) : ∀ k, k ≤ l.length → szF (frzF us vs (l.take k)) ≤ szF (l.take k)
  | 0, _ => by simp [frzF, szF, sumN]
  | k + 1, hk => by
    have ih := szF_frz us vs l k (by omega)
    generalize hf : l.getD k (0, []) = f
    obtain ⟨r, xs⟩ := f
    rw [frzF_take us vs l (by omega) hf]
    have h1 := szF_addF (frzF us vs (l.take k)) r (tupV us vs xs)
    rw [tupV_len] at h1
    have h2 := sumN_take l k (by omega)
    rw [hf] at h2
    have h3 : (l.take (k + 1)).length = k + 1 := by rw [List.length_take]; omega
    have h4 : (l.take k).length = k := by rw [List.length_take]; omega
    unfold szF at ih ⊢ h1
    rw [h3, h2]
    rw [h4] at ih
    push_cast
    omega
theorem szF_frzA (us vs : List Int) (l : FL) (k : Nat) (hk : k ≤ l.length) (hz : szF l ≤ 1048576) : szF (frzF us vs (l.take k)) ≤ 1048576 := by
  have h1 := szF_frz us vs l k hk
  have h2 := szF_take l k
  omega
/-- What freezing gives: facts, values, whether there are enough values. -/
def frzO (used vars : List Int) : Bool := decide (vars.length ≤ (frV used 10).length)
def frzL (used vars : List Int) : List Int := if frzO used vars = true then vars else []
def frzV (used vars : List Int) : List Int := if frzO used vars = true then (frV used 10).take vars.length else []
def frzR (used vars : List Int) (l : FL) : FL := if frzO used vars = true then frzF vars ((frV used 10).take vars.length) l else []
theorem frz_no {used vars : List Int} (l : FL) (h : (frV used 10).length < vars.length) : frzO used vars = false ∧ frzL used vars = [] ∧ frzV used vars = [] ∧ frzR used vars l = [] := by
  have h1 : frzO used vars = false := by simp [frzO]; omega
  exact ⟨h1, by simp [frzL, h1], by simp [frzV, h1], by simp [frzR, h1]⟩
theorem frz_yes {used vars : List Int} (l : FL) (h : ¬ (frV used 10).length < vars.length) : frzO used vars = true ∧ frzL used vars = vars ∧ frzV used vars = (frV used 10).take vars.length ∧ frzR used vars l = frzF vars ((frV used 10).take vars.length) l := by
  have h1 : frzO used vars = true := by simp [frzO]; omega
  exact ⟨h1, by simp [frzL, h1], by simp [frzV, h1], by simp [frzR, h1]⟩
/-- The values taken so far. -/
theorem tak_used {used : List Int} {n m : Nat} (h : decide ((n : Int) ∈ used) = true) : (frV used (n + 1)).take m = (frV used n).take m := by rw [frV_used h]
theorem tak_full {used : List Int} {n m : Nat} (h : ¬ ((frV used n).take m).length < m) : (frV used (n + 1)).take m = (frV used n).take m := by
  rw [List.length_take] at h
  obtain ⟨r, hr⟩ := frV_more used n 1
  rw [hr, List.take_append_of_le_length (by omega)]
theorem tak_more {used : List Int} {n m : Nat} (h : ((frV used n).take m).length < m) (h2 : decide ((n : Int) ∈ used) = false) : (frV used (n + 1)).take m = (frV used n).take m ++ [(n : Int)] := by
  rw [List.length_take] at h
  rw [frV_free h2, List.take_of_length_le (by simp; omega), List.take_of_length_le (by omega)]
theorem tak_len {used : List Int} {n m : Nat} : ((frV used n).take m).length ≤ n := by
  have := frV_len used n
  rw [List.length_take]
  omega

/-- Facts of the call's own, or none. -/
def POf (w : World) (lo hi : Nat) (A : Option Addr) (c : Nat) (fs : FL) : Prop := hi ≤ w.heap.size ∧ (fs = [] ∨ ∃ g, A = some ⟨g, 0, none⟩ ∧ PX w lo hi g (c * 2) fs)
theorem POf.keep {w w' : World} {lo hi c : Nat} {A : Option Addr} {fs : FL} (h : POf w lo hi A c fs) (hk : ∀ b, lo ≤ b → b < hi → w'.heap[b]? = w.heap[b]?) (hs : w.heap.size ≤ w'.heap.size) : POf w' lo hi A c fs := by
  obtain ⟨h1, h2⟩ := h
  refine ⟨Nat.le_trans h1 hs, ?_⟩
  rcases h2 with h2 | ⟨g, e, h2⟩
  · exact .inl h2
  · exact .inr ⟨g, e, h2.keep hk hs⟩
theorem POf.step {w w' : World} {lo hi c : Nat} {A : Option Addr} {fs : FL} (h : POf w lo hi A c fs) (b : Below w.heap.size w w') : POf w' lo hi A c fs :=
  h.keep (fun q _ hq => b.block q (by have := h.1; omega)) b.size
theorem POf.rf {w : World} {lo hi c : Nat} {A : Option Addr} {fs : FL} (h : POf w lo hi A c fs) : RF w A fs := by
  obtain ⟨h1, h2⟩ := h
  rcases h2 with rfl | ⟨g, rfl, h2⟩
  · exact fun hne => absurd rfl hne
  · exact h2.rf
theorem AddOut.toPOf {w : World} {l : FL} {r : Int} {xs : List Int} {e : Ending} {w' : World} (h : AddOut w (addF l r xs) e w') : ∃ A c, e = .returned (.slice A (addF l r xs).length c) ∧ POf w' w.heap.size w'.heap.size A c (addF l r xs) ∧ Below w.heap.size w w' := by
  obtain ⟨g, cap, he, hp, hb⟩ := h.toP
  exact ⟨_, cap, he, ⟨Nat.le_refl _, .inr ⟨g, rfl, hp⟩⟩, hb⟩
end Go.Proofs.YtimlpdcambmcjaaGreat

namespace Go.Proofs.YtimlpdcambmcjaaGreat
open Go.ChangeShapes Go.WideShapes Go.ChangeAt Go.RowKit Go.Sort
set_option linter.unusedVariables false
set_option linter.unusedSimpArgs false

theorem frV_congr {a b : List Int} (h : ∀ x, x ∈ a ↔ x ∈ b) : ∀ n, frV a n = frV b n
  | 0 => rfl
  | n + 1 => by
    simp only [frV]
    rw [frV_congr h n]
    by_cases hx : (n : Int) ∈ a
    · rw [if_pos hx, if_pos ((h _).1 hx)]
    · rw [if_neg hx, if_neg fun h' => hx ((h _).2 h')]
theorem frV_mem (used : List Int) : ∀ n x, x ∈ frV used n → 0 ≤ x ∧ x < n
  | 0, x, h => by cases h
  | n + 1, x, h => by
    simp only [frV] at h
    split at h
    · have := frV_mem used n x h; omega
    · rcases List.mem_append.1 h with h | h
      · have := frV_mem used n x h; omega
      · have e : x = (n : Int) := by simpa using h
        omega
/-- The query with an atom of no relation for each of the constants c. -/
def apartL (l : FL) (c : List Int) : FL := l ++ c.map fun v => (3, [v])
theorem apart_terms (l : FL) (c : List Int) : terms (apartL l c) = terms l ++ c := by
  unfold apartL terms
  rw [List.flatMap_append]
  congr 1
  induction c with
  | nil => rfl
  | cons v c ih => rw [List.map_cons, List.flatMap_cons, ih]; rfl
theorem apart_take (l : FL) (c : List Int) {k : Nat} (hk : k < c.length) {v : Int} (hv : c.getD k 0 = v) : apartL l (c.take (k + 1)) = apartL l (c.take k) ++ [(3, [v])] := by
  unfold apartL
  rw [takeI' c hk hv, List.map_append, List.append_assoc]
  rfl
theorem apart_sz (l : FL) (c : List Int) : szF (apartL l c) = szF l + 2 * (c.length : Int) := by
  unfold apartL szF sumN
  rw [List.map_append, List.sum_append, List.length_append, List.length_map, List.map_map]
  have : ((c.map ((fun f => f.2.length) ∘ fun v => ((3 : Int), [v]))).sum) = c.length := by
    induction c with
    | nil => rfl
    | cons v c ih => rw [List.map_cons, List.sum_cons, ih]; simp; omega
  rw [this]
  push_cast
  omega
/-- The relations that there are. -/
def isRel (f : Int × List Int) : Bool := decide (f.1 < 3)
theorem addI_keep : ∀ (F : FL) (xs : List Int), (addI F 3 xs).filter isRel = F.filter isRel
  | [], xs => by simp [addI, isRel]
  | g :: t, xs => by
    unfold addI
    split
    · rw [List.filter_cons, List.filter_cons, addI_keep t xs]
    · rw [List.filter_cons, if_neg (by simp [isRel])]
theorem addF_keep (F : FL) (xs : List Int) : (addF F 3 xs).filter isRel = F.filter isRel := by
  unfold addF
  split
  · rfl
  · exact addI_keep F xs
theorem frzF_apart (us vs : List Int) (l : FL) : ∀ c : List Int, ∀ F : FL, ((c.map fun v => ((3 : Int), [v])).foldl (fun F a => addF F a.1 (tupV us vs a.2)) F).filter isRel = F.filter isRel
  | [], F => rfl
  | v :: c, F => by
    rw [List.map_cons, List.foldl_cons, frzF_apart us vs l c]
    exact addF_keep F _
theorem addI_all {P : Int × List Int → Prop} : ∀ (F : FL) (r : Int) (xs : List Int), (∀ f ∈ F, P f) → P (r, xs) → ∀ f ∈ addI F r xs, P f
  | [], r, xs, _, h, f, hf => by
    have : f = (r, xs) := by simpa [addI] using hf
    rw [this]; exact h
  | g :: t, r, xs, hF, h, f, hf => by
    unfold addI at hf
    split at hf
    · rcases List.mem_cons.1 hf with e | e
      · rw [e]; exact hF g (by simp)
      · exact addI_all t r xs (fun f hf => hF f (by simp [hf])) h f e
    · rcases List.mem_cons.1 hf with e | e
      · rw [e]; exact h
      · exact hF f e
theorem addF_all {P : Int × List Int → Prop} {F : FL} {r : Int} {xs : List Int} (hF : ∀ f ∈ F, P f) (h : P (r, xs)) : ∀ f ∈ addF F r xs, P f := by
  unfold addF
  split
  · exact hF
  · exact addI_all F r xs hF h
theorem frzF_allG {P : Int × List Int → Prop} (us vs : List Int) : ∀ (l F : FL), (∀ f ∈ F, P f) → (∀ a ∈ l, P (a.1, tupV us vs a.2)) → ∀ f ∈ l.foldl (fun F a => addF F a.1 (tupV us vs a.2)) F, P f
  | [], F, hF, _ => hF
  | a :: l, F, hF, h => frzF_allG us vs l _ (addF_all hF (h a (by simp))) fun b hb => h b (by simp [hb])
theorem frzF_all {P : Int × List Int → Prop} (us vs : List Int) (l : FL) (h : ∀ a ∈ l, P (a.1, tupV us vs a.2)) : ∀ f ∈ frzF us vs l, P f :=
  frzF_allG us vs l [] (fun f hf => by cases hf) h
theorem addI_lenP : ∀ (l : FL) (r : Int) (xs : List Int), (addI l r xs).length = l.length + 1
  | [], r, xs => rfl
  | g :: t, r, xs => by
    have ih := addI_lenP t r xs
    unfold addI
    split
    · rw [List.length_cons, ih]; rfl
    · rfl
theorem addF_lenP (l : FL) (r : Int) (xs : List Int) : (addF l r xs).length ≤ l.length + 1 := by
  unfold addF
  split
  · omega
  · rw [addI_lenP]; omega
theorem frzF_lenG (us vs : List Int) : ∀ (l F : FL), (l.foldl (fun F a => addF F a.1 (tupV us vs a.2)) F).length ≤ F.length + l.length
  | [], F => by simp
  | a :: l, F => by
    have h1 := frzF_lenG us vs l (addF F a.1 (tupV us vs a.2))
    have h2 := addF_lenP F a.1 (tupV us vs a.2)
    rw [List.foldl_cons, List.length_cons]
    omega
theorem frzF_len (us vs : List Int) (l : FL) : (frzF us vs l).length ≤ l.length := by
  have := frzF_lenG us vs l []
  simpa [frzF] using this
theorem frzR_len (used vars : List Int) (l : FL) : (frzR used vars l).length ≤ l.length := by
  unfold frzR
  split
  · exact frzF_len _ _ l
  · simp

/-- The constants of two queries, in the model's way and in the program's. -/
theorem used_iff (l : FL) {c : List Int} (hc : ∀ x ∈ c, inB x 0 9 = true) (x : Int) : x ∈ wl 0 9 (terms (apartL l c)) ↔ x ∈ wl 0 9 (terms l) ++ c := by
  rw [apart_terms, List.mem_append, wl_mem, wl_mem, List.mem_append]
  constructor
  · rintro ⟨h | h, h2⟩
    · exact .inl ⟨h, h2⟩
    · exact .inr h
  · rintro (⟨h, h2⟩ | h)
    · exact ⟨.inl h, h2⟩
    · exact ⟨.inr h, hc x h⟩
theorem vars_apart (l : FL) {c : List Int} (hc : ∀ x ∈ c, inB x 0 9 = true) : wl 10 17 (terms (apartL l c)) = wl 10 17 (terms l) := by
  rw [apart_terms]
  unfold wl
  rw [List.filter_append]
  have : c.filter (fun x => inB x 10 17) = [] := by
    rw [List.filter_eq_nil_iff]
    intro x hx
    have h1 := hc x hx
    simp only [inB, Bool.and_eq_true, decide_eq_true_eq] at h1 ⊢
    omega
  rw [this, List.append_nil]
theorem frz_apart (l : FL) {c : List Int} (hc : ∀ x ∈ c, inB x 0 9 = true) (hr : ∀ a ∈ l, a.1 < 3) (vars : List Int) :
    frzO (wl 0 9 (terms (apartL l c))) vars = frzO (wl 0 9 (terms l) ++ c) vars ∧ frzL (wl 0 9 (terms (apartL l c))) vars = frzL (wl 0 9 (terms l) ++ c) vars ∧
    frzV (wl 0 9 (terms (apartL l c))) vars = frzV (wl 0 9 (terms l) ++ c) vars ∧ (frzR (wl 0 9 (terms (apartL l c))) vars (apartL l c)).filter isRel = frzR (wl 0 9 (terms l) ++ c) vars l := by
  have h := frV_congr (used_iff l hc) 10
  have ho : frzO (wl 0 9 (terms (apartL l c))) vars = frzO (wl 0 9 (terms l) ++ c) vars := by unfold frzO; rw [h]
  refine ⟨ho, by unfold frzL; rw [ho], by unfold frzV; rw [ho, h], ?_⟩
  unfold frzR
  rw [ho, h]
  split
  · generalize (frV (wl 0 9 (terms l) ++ c) 10).take vars.length = vs
    have h1 : frzF vars vs (apartL l c) = (c.map fun v => ((3 : Int), [v])).foldl (fun F a => addF F a.1 (tupV vars vs a.2)) (frzF vars vs l) := by
      unfold frzF apartL
      rw [List.foldl_append]
    rw [h1, frzF_apart vars vs l c, List.filter_eq_self]
    intro f hf
    have := frzF_all (P := fun f => f.1 < 3) vars vs l hr f hf
    simpa [isRel] using this
  · rfl

/-- What the values of a frozen query's terms are. -/
theorem bval_range {us vs : List Int} {t : Int} (hl : us.length = vs.length) (hv : allB 0 9 vs = true) (ht : 0 ≤ t ∧ t ≤ 17) (hm : inB t 10 17 = true → t ∈ us) : 0 ≤ bval us vs t ∧ bval us vs t ≤ 9 := by
  by_cases h : inB t 10 17 = true
  · have h1 := List.idxOf_lt_length_iff.2 (hm h)
    have e : bval us vs t = vs.getD (us.idxOf t) 0 := by
      unfold bval
      rw [if_pos h, if_pos ⟨h1, by omega⟩]
    rw [e, List.getD_eq_getElem?_getD, List.getElem?_eq_getElem (by omega)]
    exact allB_mem hv (List.getElem_mem _)
  · have h' : inB t 10 17 = false := by simpa using h
    rw [bval_no h']
    simp only [inB, Bool.and_eq_false_iff, decide_eq_false_iff_not] at h'
    omega
theorem tupV_range {us vs ts : List Int} (hl : us.length = vs.length) (hv : allB 0 9 vs = true) (ht : allB 0 17 ts = true) (hm : ∀ t ∈ ts, inB t 10 17 = true → t ∈ us) : allB 0 9 (tupV us vs ts) = true :=
  allB_of fun x hx => by
    obtain ⟨t, ht', rfl⟩ := List.mem_map.1 hx
    exact bval_range hl hv (allB_mem ht ht') (hm t ht')
/-- A frozen query: few facts of values, and a tuple of values. -/
theorem frz_good {hs : List Int} {l : FL} (hq : QOk hs l) (used : List Int) (ho : frzO used (wl 10 17 (terms l)) = true) :
    (frzR used (wl 10 17 (terms l)) l).length ≤ 24 ∧ (∀ f ∈ frzR used (wl 10 17 (terms l)) l, allB 0 9 f.2 = true ∧ f.2.length ≤ 3) ∧ allB 0 9 (tupV (frzL used (wl 10 17 (terms l))) (frzV used (wl 10 17 (terms l))) hs) = true := by
  have hvs : allB 0 9 ((frV used 10).take (wl 10 17 (terms l)).length) = true := allB_of fun x hx => by
    have := frV_mem used 10 x (List.mem_of_mem_take hx)
    omega
  have hll : (wl 10 17 (terms l)).length = ((frV used 10).take (wl 10 17 (terms l)).length).length := by
    have := of_decide_eq_true ho
    rw [List.length_take]; omega
  refine ⟨Nat.le_trans (frzR_len _ _ l) (by have := hq.few; omega), ?_, ?_⟩
  · unfold frzR
    rw [if_pos ho]
    refine frzF_all _ _ l fun a ha => ⟨tupV_range hll hvs (hq.term a ha) fun t ht hi => (wl_mem 10 17 _ t).2 ⟨List.mem_flatMap.2 ⟨a, ha, ht⟩, hi⟩, ?_⟩
    rw [tupV_len]
    exact hq.short a ha
  · unfold frzL frzV
    rw [if_pos ho, if_pos ho]
    refine tupV_range hll hvs (allB_of fun x hx => ?_) fun t ht hi => ?_
    · have := (hq.var x hx).1
      simp only [inB, Bool.and_eq_true, decide_eq_true_eq] at this
      omega
    · obtain ⟨a, ha, hta⟩ := (hq.var t ht).2
      exact (wl_mem 10 17 _ t).2 ⟨List.mem_flatMap.2 ⟨a, ha, hta⟩, hi⟩
theorem query_rel {s hs : List Int} {l : FL} (h : queryB s hs l = true) : ∀ a ∈ l, a.1 < 3 := by
  intro a ha
  have h1 : atomsB s l = true := by
    unfold queryB at h
    simp only [Bool.and_eq_true] at h
    exact h.1.1.1.1
  unfold atomsB at h1
  rw [List.all_eq_true] at h1
  have h2 := h1 a ha
  unfold atom.factB at h2
  simp only [Bool.and_eq_true] at h2
  have h3 := h2.1.1.1
  have h4 := h2.1.1.2
  simp only [inB, Bool.and_eq_true, decide_eq_true_eq] at h4
  have h5 := h3
  unfold schB at h5
  rw [Bool.and_eq_true] at h5
  have h6 := h5.2
  simp only [inB, Bool.and_eq_true, decide_eq_true_eq] at h6
  omega
end Go.Proofs.YtimlpdcambmcjaaGreat

namespace Go.Proofs.YtimlpdcambmcjaaGreat
open Go.ChangeShapes Go.WideShapes Go.ChangeAt Go.RowKit Go.Sort
set_option linter.unusedVariables false
set_option linter.unusedSimpArgs false

/-- What the model's freezing gives. -/
def FzS (w : World) (F : FL) (us vs : List Int) (ok : Bool) (e : Ending) (w' : World) : Prop :=
  ∃ (A : Option Addr) (c : Nat) (X : Option Addr) (cx : Nat) (Y : Option Addr) (cy : Nat), e = .returned (.tuple #[.slice A F.length c, .agg #[.slice X us.length cx, .slice Y vs.length cy], .bool ok]) ∧ RF w' A F ∧ RI w' X us ∧ RI w' Y vs ∧ Below w.heap.size w w'
theorem frzS_end {w wr w' : World} {lo hi cA cx cy g : Nat} {A X Y : Option Addr} {F : FL} {us vs : List Int} {bx : Array Value}
    (h : POf wr lo hi A cA F) (hlo : g < lo) (RX : RW wr X us) (RY : RW wr Y vs) (hb : Box wr g bx 100)
    (hk : ∀ b, b ≠ g → w'.heap[b]? = wr.heap[b]?) (hs : w'.heap.size = wr.heap.size) (hB : Below w.heap.size w w') :
    FzS w F us vs true (.returned (.tuple #[.slice A F.length cA, .agg #[.slice X us.length cx, .slice Y vs.length cy], .bool true])) w' := by
  have hk2 : ∀ (b : Nat) cs fr, wr.heap[b]? = some (Obj.cells cs 3 fr) → w'.heap[b]? = wr.heap[b]? := fun b cs fr e => hk b fun e2 => by
    unfold Box at hb
    rw [e2, hb] at e
    injection e with e
    injection e with _ h2
    exact absurd h2 (by decide)
  exact ⟨A, cA, X, cx, Y, cy, rfl, (h.keep (fun b h1 _ => hk b (by omega)) (by omega)).rf, (RX.keep hk2 (by omega)).ri, (RY.keep hk2 (by omega)).ri, hB⟩
/-- The same, with the facts in blocks of the call's own and the numbers in blocks of numbers. -/
def FzT (w : World) (F : FL) (us vs : List Int) (ok : Bool) (e : Ending) (w' : World) : Prop :=
  ∃ (A : Option Addr) (c : Nat) (X : Option Addr) (cx : Nat) (Y : Option Addr) (cy : Nat), e = .returned (.tuple #[.slice A F.length c, .agg #[.slice X us.length cx, .slice Y vs.length cy], .bool ok]) ∧ Facts w' w.heap.size w'.heap.size A F ∧ RW w' X us ∧ RW w' Y vs ∧ Below w.heap.size w w'
theorem FzT.toS {w : World} {F : FL} {us vs : List Int} {ok : Bool} {e : Ending} {w' : World} (h : FzT w F us vs ok e w') : FzS w F us vs ok e w' := by
  obtain ⟨A, c, X, cx, Y, cy, e1, e2, e3, e4, e5⟩ := h
  exact ⟨A, c, X, cx, Y, cy, e1, e2.mono (Nat.zero_le _) (Nat.le_refl _), e3.ri, e4.ri, e5⟩
theorem POf.facts {w : World} {lo hi c : Nat} {A : Option Addr} {fs : FL} (h : POf w lo hi A c fs) : Facts w lo hi A fs := by
  obtain ⟨_, h2⟩ := h
  rcases h2 with rfl | ⟨g, rfl, h2⟩
  · exact fun hne => absurd rfl hne
  · exact h2.1.facts h2.2.2
theorem frzT_end {w wr w' : World} {lo hi cA cx cy g : Nat} {A X Y : Option Addr} {F : FL} {us vs : List Int} {bx : Array Value}
    (h : POf wr lo hi A cA F) (hlo : g < lo) (hw : w.heap.size ≤ lo) (RX : RW wr X us) (RY : RW wr Y vs) (hb : Box wr g bx 100)
    (hk : ∀ b, b ≠ g → w'.heap[b]? = wr.heap[b]?) (hs : w'.heap.size = wr.heap.size) (hB : Below w.heap.size w w') :
    FzT w F us vs true (.returned (.tuple #[.slice A F.length cA, .agg #[.slice X us.length cx, .slice Y vs.length cy], .bool true])) w' := by
  have hk2 : ∀ (b : Nat) cs fr, wr.heap[b]? = some (Obj.cells cs 3 fr) → w'.heap[b]? = wr.heap[b]? := fun b cs fr e => hk b fun e2 => by
    unfold Box at hb
    rw [e2, hb] at e
    injection e with e
    injection e with _ h2
    exact absurd h2 (by decide)
  have h2 := h.keep (fun b h1 _ => hk b (by omega)) (by omega)
  exact ⟨A, cA, X, cx, Y, cy, rfl, h2.facts.mono hw h2.1, RX.keep hk2 (by omega), RY.keep hk2 (by omega), hB⟩
theorem AddP.toPOf {w : World} {res : FL} {e : Ending} {w' : World} (h : AddP w res e w') : ∃ A c, e = .returned (.slice A res.length c) ∧ POf w' w.heap.size w'.heap.size A c res ∧ Below w.heap.size w w' := by
  obtain ⟨g, cap, he, hp, hb⟩ := h
  exact ⟨_, cap, he, ⟨Nat.le_refl _, .inr ⟨g, rfl, hp⟩⟩, hb⟩
end Go.Proofs.YtimlpdcambmcjaaGreat
