/- Numbers that came in are such as an int holds. Conditions: none beyond each theorem's own. Bindings in the law of MatchAtom: what is opened, marked and held. Conditions: none beyond each theorem's own. Freezing a query, purely: the values that are free, the facts. Conditions: none beyond each theorem's own. -/
import Derived.Test.YtpdmkdhnidgjoaaOpen
import Derived.Test.YtpdmkdhnidgjoaaFz11
import Derived.Test.YtpdmkdhnidgjoaaAtom
import Derived.Test.YtpdmkdhnidgjoaaFz6
import Derived.Test.YtpdmkdhnidgjoaaFz9

namespace Go.Proofs.Ytpdmkdhnidgjoaa
open Go.ChangeShapes Go.WideShapes Go.ChangeAt Go.RowKit
set_option linter.unusedVariables false
set_option linter.unusedSimpArgs false

section
variable {H : Type} {enc : TypeId × Value → H} {P : Program} {w : World}
theorem open_numsW {t e : TypeId} {fuel : Nat} {v : Value} {x : DataW H × List MemPlace} (ht : P.underlying t = some (.slice e)) (he : P.underlying e = some (.int .i64)) (hc : P.cellsOf e = 1)
    (h : DataW.trod enc P w 0 (fun _ => true) true fuel t [v] = some x) : ∃ (A : Option Addr) (c : Nat) (xs : List Int), v = .slice A xs.length c ∧ xs.length ≤ c ∧ c ≤ maxLen ∧ Ints w 0 w.heap.size A xs ∧ ∀ n ∈ xs, (Lit.int .i64 n).wf = true := by
  rcases open_ints ht he hc h with ⟨hv, _⟩ | ⟨a, len, cap, zs, hv, _, hl, hm, hz, _, hcell, hwf⟩
  · injection hv with hv
    exact ⟨none, 0, [], hv, Nat.le_refl _, by unfold maxLen; omega, fun h => absurd rfl h, fun n hn => by simp at hn⟩
  · injection hv with hv
    have hlen : (zs.take len).length = len := by rw [List.length_take]; simp at hz; omega
    refine ⟨some a, cap, zs.take len, by rw [hlen]; exact hv, by rw [hlen]; exact hl, hm, fun hne => ?_, fun n hn => hwf n (List.mem_of_mem_take hn)⟩
    have hpos : 0 < len := by
      rcases Nat.eq_zero_or_pos len with h0 | h0
      · subst h0; simp at hne
      · exact h0
    simp only [if_true] at hz
    obtain ⟨b, off, spot⟩ := a
    have hc0 := hcell 0 (by omega)
    have hspot : spot = none := by simpa [Addr.add] using World.cell?_spot hc0
    subst hspot
    have hb := World.block_lt_of_cell? w _ hc0
    refine ⟨b, off, rfl, by omega, by simpa [Addr.add] using hb, fun k hk => ?_⟩
    have hk' : k < len := by rw [hlen] at hk; exact hk
    have := hcell k (by omega)
    have e : (⟨b, off, none⟩ : Addr).add k = ⟨b, off + k, none⟩ := by unfold Addr.add; split <;> simp_all
    rw [e] at this
    rw [this]
    simp [List.getD_eq_getElem?_getD, List.getElem?_take, hk']
end
theorem range_of {hs : List Int} (h : ∀ n ∈ hs, (Lit.int .i64 n).wf = true) : allB (-9223372036854775808) 9223372036854775807 hs = true := by
  unfold allB
  rw [List.all_eq_true]
  intro x hx
  have h1 : -9223372036854775808 ≤ x ∧ x ≤ 9223372036854775807 := by simpa [Lit.wf, IntKind.min, IntKind.max, IntKind.signed, IntKind.bits] using h x hx
  simp [inB, h1.1, h1.2]
end Go.Proofs.Ytpdmkdhnidgjoaa

namespace Go.Proofs.Ytpdmkdhnidgjoaa
open Go.ChangeShapes Go.WideShapes Go.ChangeAt Go.RowKit Go.Sort
set_option linter.unusedVariables false
set_option linter.unusedSimpArgs false

section
variable {H : Type} {enc : TypeId × Value → H} {w : World}
set_option maxRecDepth 100000 in
theorem open_bindingW {r : Reach} {base : Nat} {v : Value} {d : DataW H} {p : List MemPlace} (hv : Value.okWide Try.prog w r base 43 v) (h : DataW.Trod enc Try.prog w 0 (fun _ => true) true 43 v d p) :
    ∃ (H A : Option Addr) (ch c : Nat) (hs l : List Int), v = .agg #[.slice H hs.length ch, .slice A l.length c] ∧ hs.length ≤ ch ∧ ch ≤ maxLen ∧ l.length ≤ c ∧ c ≤ maxLen ∧ (Ints w 0 w.heap.size H hs ∧ Ints w 0 w.heap.size A l) ∧ ((∀ n ∈ hs, (Lit.int .i64 n).wf = true) ∧ ∀ n ∈ l, (Lit.int .i64 n).wf = true) := by
  obtain ⟨v0, v1, y0, y1, n, rfl, _, _, h0, h1⟩ := Go.Joins.open_agg2 Try.underlying43 (by kernel_rfl) (by kernel_rfl) hv h
  obtain ⟨A, c, xs, hv1, hl, hm, hi, hw⟩ := open_numsW (v := v0) Try.underlying22 Try.underlying3 (by kernel_rfl) h0
  subst hv1
  obtain ⟨B, c2, l, hv2, hl2, hm2, hf, hw2⟩ := open_numsW (v := v1) Try.underlying22 Try.underlying3 (by kernel_rfl) h1
  subst hv2
  exact ⟨A, B, c, c2, xs, l, rfl, hl, hm, hl2, hm2, ⟨hi, hf⟩, hw, hw2⟩
set_option maxRecDepth 100000 in
theorem open_factW {r : Reach} {base : Nat} {v : Value} {d : DataW H} {p : List MemPlace} (hv : Value.okWide Try.prog w r base 79 v) (h : DataW.Trod enc Try.prog w 0 (fun _ => true) true 79 v d p) :
    ∃ (f : Int × List Int) (A : Option Addr) (c : Nat), v = .agg #[.int .i64 f.1, .slice A f.2.length c] ∧ f.2.length ≤ c ∧ c ≤ maxLen ∧ Ints w 0 w.heap.size A f.2 ∧ ∀ n ∈ f.2, (Lit.int .i64 n).wf = true := by
  obtain ⟨v0, v1, y0, y1, n, rfl, _, _, h0, h1⟩ := Go.Joins.open_agg2 Try.underlying79 (by kernel_rfl) (by kernel_rfl) hv h
  obtain ⟨z, hz, _, _⟩ := DataW.trod_int Try.underlying3 h0
  injection hz with hz
  obtain ⟨A, c, xs, hv1, hl, hm, hi, hw⟩ := open_numsW (v := v1) Try.underlying22 Try.underlying3 (by kernel_rfl) h1
  subst hz hv1
  exact ⟨(z, xs), A, c, rfl, hl, hm, hi, hw⟩
set_option maxRecDepth 100000 in
theorem open_atomW {r : Reach} {base : Nat} {v : Value} {d : DataW H} {p : List MemPlace} (hv : Value.okWide Try.prog w r base 100 v) (h : DataW.Trod enc Try.prog w 0 (fun _ => true) true 100 v d p) :
    ∃ (f : Int × List Int) (A : Option Addr) (c : Nat), v = .agg #[.int .i64 f.1, .slice A f.2.length c] ∧ f.2.length ≤ c ∧ c ≤ maxLen ∧ Ints w 0 w.heap.size A f.2 ∧ ∀ n ∈ f.2, (Lit.int .i64 n).wf = true := by
  obtain ⟨v0, v1, y0, y1, n, rfl, _, _, h0, h1⟩ := Go.Joins.open_agg2 Try.underlying100 (by kernel_rfl) (by kernel_rfl) hv h
  obtain ⟨z, hz, _, _⟩ := DataW.trod_int Try.underlying3 h0
  injection hz with hz
  obtain ⟨A, c, xs, hv1, hl, hm, hi, hw⟩ := open_numsW (v := v1) Try.underlying22 Try.underlying3 (by kernel_rfl) h1
  subst hz hv1
  exact ⟨(z, xs), A, c, rfl, hl, hm, hi, hw⟩
end

/-- A binding of the call's own: two rows, each in a block of its own, from lo to below hi. -/
def BR (w : World) (lo hi : Nat) (X : Option Addr) (c : Nat) (Y : Option Addr) (d : Nat) (p : PL) : Prop :=
  ∃ q1 q2, OwnV w q1 (q1 + 1) (.slice X p.1.length c) q1 p.1 ∧ OwnV w q2 (q2 + 1) (.slice Y p.2.length d) q2 p.2 ∧ lo ≤ q1 ∧ q1 < hi ∧ lo ≤ q2 ∧ q2 < hi ∧ q1 ≠ q2 ∧ hi ≤ w.heap.size
theorem ownV_block {w w' : World} {q : Nat} {v : Value} {xs : List Int} (h : OwnV w q (q + 1) v q xs) (hk : w'.heap[q]? = w.heap[q]?) : OwnV w' q (q + 1) v q xs := by
  obtain ⟨A, c, e, hc, hm, hx⟩ := h
  refine ⟨A, c, e, hc, hm, fun hp => ?_⟩
  obtain ⟨h1, h2, h3, m, F, h4, h5, h6⟩ := hx hp
  exact ⟨h1, h2, h3, m, F, h4, h5.of_block hk, h6⟩
theorem BR.keep {w w' : World} {lo hi c d : Nat} {X Y : Option Addr} {p : PL} (h : BR w lo hi X c Y d p) (hk : ∀ b, lo ≤ b → b < hi → w'.heap[b]? = w.heap[b]?) (hs : w.heap.size ≤ w'.heap.size) : BR w' lo hi X c Y d p := by
  obtain ⟨q1, q2, h1, h2, h3, h4, h5, h6, h7, h8⟩ := h
  exact ⟨q1, q2, ownV_block h1 (hk q1 h3 h4), ownV_block h2 (hk q2 h5 h6), h3, h4, h5, h6, h7, Nat.le_trans h8 hs⟩
theorem BR.step {w w' : World} {lo hi c d : Nat} {X Y : Option Addr} {p : PL} (h : BR w lo hi X c Y d p) (b : Below w.heap.size w w') : BR w' lo hi X c Y d p := by
  have h8 : hi ≤ w.heap.size := by obtain ⟨_, _, _, _, _, _, _, _, _, h8⟩ := h; exact h8
  exact h.keep (fun k _ hk => b.block k (by omega)) b.size
theorem BR.ri {w : World} {lo hi c d : Nat} {X Y : Option Addr} {p : PL} (h : BR w lo hi X c Y d p) : RI w X p.1 := by
  obtain ⟨q1, q2, h1, h2, h3, h4, h5, h6, h7, h8⟩ := h
  exact (OwnV.ints h1).2.2.2.mono (Nat.zero_le _) (by omega)
theorem BR.rv {w : World} {lo hi c d : Nat} {X Y : Option Addr} {p : PL} (h : BR w lo hi X c Y d p) : RI w Y p.2 := by
  obtain ⟨q1, q2, h1, h2, h3, h4, h5, h6, h7, h8⟩ := h
  exact (OwnV.ints h2).2.2.2.mono (Nat.zero_le _) (by omega)
theorem ownV_row {w : World} {g : Nat} {xs : List Int} (hl : xs.length ≤ 1048576) (h : Row w g xs) : OwnV w g (g + 1) (.slice (some ⟨g, 0, none⟩) xs.length xs.length) g xs :=
  ⟨some ⟨g, 0, none⟩, xs.length, rfl, Nat.le_refl _, by unfold maxLen; omega, fun _ => ⟨rfl, Nat.le_refl _, Nat.lt_succ_self _, xs.length, _, Nat.le_refl _, h, fun i _ => rfl⟩⟩
theorem BX.br {w : World} {g : Nat} {hs l : List Int} (h1 : hs.length ≤ 1048576) (h2 : l.length ≤ 1048576) (h : BX w g hs l) : BR w g (g + 2) (some ⟨g, 0, none⟩) hs.length (some ⟨g + 1, 0, none⟩) l.length (hs, l) :=
  ⟨g, g + 1, ownV_row h1 h.1, ownV_row h2 h.2, Nat.le_refl _, by omega, by omega, by omega, by omega, by have := World.rowIs.lt h.2; omega⟩

/-- An own row lies in a block of its own, or has no numbers and then may lie anywhere. -/
theorem ownV_of_rowV {w : World} {base : Nat} {v : Value} {xs : List Int} (h : RowV w base v xs) (q0 : Nat) : ∃ q, OwnV w q (q + 1) v q xs ∧ ((v.ownBlock = some q ∧ base ≤ q ∧ q < w.heap.size) ∨ q = q0) := by
  rcases h.2 with ⟨hv, h0⟩ | ⟨k, cap, cur, hv, hbk, hk, hnc, hcm, hcs, htk⟩
  · have hx : xs = [] := List.eq_nil_of_length_eq_zero h0
    subst hx hv
    exact ⟨q0, ⟨none, 0, rfl, Nat.le_refl _, by unfold maxLen; omega, fun h => absurd h (by simp)⟩, .inr rfl⟩
  · obtain ⟨q, hq⟩ := ownV_of_row (show w.ownsRow base 3 1 v xs.length (xs.map (Value.int .i64)) from h)
    by_cases hp : 0 < xs.length
    · obtain ⟨A, c, e, hc, hm, hx⟩ := hq
      obtain ⟨h1, h2, h3, m, F, h4, h5, h6⟩ := hx hp
      refine ⟨q, ⟨A, c, e, hc, hm, fun _ => ⟨h1, Nat.le_refl _, Nat.lt_succ_self _, m, F, h4, h5, h6⟩⟩, .inl ⟨?_, h2, h3⟩⟩
      rw [e, h1]
      rfl
    · have hx : xs = [] := List.eq_nil_of_length_eq_zero (by omega)
      subst hx
      exact ⟨q0, ⟨some ⟨k, 0, none⟩, cap, hv, hnc, hcm, fun h => absurd h (by simp)⟩, .inr rfl⟩
theorem BR.of_rows {w : World} {lo : Nat} {X Y : Option Addr} {c d : Nat} {p : PL} (h1 : RowV w lo (.slice X p.1.length c) p.1) (h2 : RowV w lo (.slice Y p.2.length d) p.2) (ha : Apart (.slice X p.1.length c) (.slice Y p.2.length d)) (hs : lo + 4 ≤ w.heap.size) :
    BR w lo w.heap.size X c Y d p := by
  obtain ⟨a1, ha1, hb1⟩ := ownV_of_rowV h1 lo
  have key : ∀ q0, ∃ q, OwnV w q (q + 1) (.slice Y p.2.length d) q p.2 ∧ (((Value.slice Y p.2.length d).ownBlock = some q ∧ lo ≤ q ∧ q < w.heap.size) ∨ q = q0) := fun q0 => ownV_of_rowV h2 q0
  have hlo : lo ≤ a1 ∧ a1 < w.heap.size := by rcases hb1 with ⟨_, x, y⟩ | rfl <;> omega
  rcases hb1 with ⟨e1, x1, y1⟩ | e1
  · obtain ⟨a2, ha2, hb2⟩ := key (if a1 = lo then lo + 1 else lo)
    rcases hb2 with ⟨e2, x2, y2⟩ | e2
    · refine ⟨a1, a2, ha1, ha2, x1, y1, x2, y2, ?_, Nat.le_refl _⟩
      rintro rfl
      rcases ha with h | h
      · rw [e1] at h; cases h
      · exact h (e1.trans e2.symm)
    · have : a2 ≠ a1 ∧ lo ≤ a2 ∧ a2 < w.heap.size := by subst e2; split <;> omega
      exact ⟨a1, a2, ha1, ha2, x1, y1, this.2.1, this.2.2, this.1.symm, Nat.le_refl _⟩
  · obtain ⟨a2, ha2, hb2⟩ := key (lo + 1)
    rcases hb2 with ⟨e2, x2, y2⟩ | e2
    · obtain ⟨a3, ha3, hb3⟩ := ownV_of_rowV h1 (if a2 = lo then lo + 1 else lo)
      rcases hb3 with ⟨e3, x3, y3⟩ | e3
      · refine ⟨a3, a2, ha3, ha2, x3, y3, x2, y2, ?_, Nat.le_refl _⟩
        rintro rfl
        rcases ha with h | h
        · rw [e3] at h; cases h
        · exact h (e3.trans e2.symm)
      · have : a3 ≠ a2 ∧ lo ≤ a3 ∧ a3 < w.heap.size := by subst e3; split <;> omega
        exact ⟨a3, a2, ha3, ha2, this.2.1, this.2.2, x2, y2, this.1, Nat.le_refl _⟩
    · subst e1 e2
      exact ⟨a1, a1 + 1, ha1, ha2, Nat.le_refl _, by omega, by omega, by omega, by omega, Nat.le_refl _⟩

/-- Marks in it. -/
def BM (w : World) (lo hi : Nat) (X Y : Option Addr) (k : Int) (p : PL) : Prop :=
  ∃ q1 q2, Ints w q1 (q1 + 1) X (marks k p.1.length) ∧ Ints w q2 (q2 + 1) Y (marks (k + p.1.length) p.2.length) ∧ lo ≤ q1 ∧ q1 < hi ∧ lo ≤ q2 ∧ q2 < hi ∧ hi ≤ w.heap.size
theorem BM.step {w w' : World} {lo hi : Nat} {X Y : Option Addr} {k : Int} {p : PL} (h : BM w lo hi X Y k p) (b : Below w.heap.size w w') : BM w' lo hi X Y k p := by
  obtain ⟨q1, q2, h1, h2, h3, h4, h5, h6, h7⟩ := h
  exact ⟨q1, q2, h1.below b (by omega), h2.below b (by omega), h3, h4, h5, h6, Nat.le_trans h7 b.size⟩

/-- Only blocks from lo to below hi have turned. -/
structure TurnB (lo hi : Nat) (w w' : World) : Prop where
  below : Below lo w w'
  size : w.heap.size ≤ w'.heap.size
  block : ∀ b, (b < lo ∨ hi ≤ b) → b < w.heap.size → w'.heap[b]? = w.heap[b]?

theorem markIntS_ov (q : Nat) (A : Option Addr) (c : Nat) (k : Int) (xs : List Int) (hl : xs.length ≤ 1048576) (h0 : 0 ≤ k) (h1 : k ≤ 4194304) (w : World) (h : OwnV w q (q + 1) (.slice A xs.length c) q xs) :
    Calls Try.prog 27 #[.slice A xs.length c, .int .i64 k] w fun e w' => e = .returned (.int .i64 (k + xs.length)) ∧ Within q (q + 1) w w' ∧ Ints w' q (q + 1) A (marks k xs.length) := by
  obtain ⟨A', c', he, _, _, hx⟩ := h
  injection he with e1 e2 e3
  subst e1 e3
  by_cases hp : 0 < xs.length
  · obtain ⟨rfl, a, b, m, F, hm, hr, _⟩ := hx hp
    refine (markIntS_any _ q c xs.length m k w hl h0 (by omega) F (fun _ => rfl) hm (fun _ => hr)).mono ?_
    rintro e w' ⟨rfl, hw, hr'⟩
    refine ⟨rfl, hw, fun _ => ⟨q, 0, rfl, a, b, fun j hj => ?_⟩⟩
    rw [marks_length] at hj
    rw [Nat.zero_add, World.rowIs.cell (hr' hp) (show j < m by omega), marks_getD _ _ _ hj, if_pos hj]
  · refine (markIntS_any _ q c xs.length xs.length k w hl h0 (by omega) (fun _ => undef) (fun h => absurd h hp) (Nat.le_refl _) (fun h => absurd h hp)).mono ?_
    rintro e w' ⟨rfl, hw, _⟩
    refine ⟨rfl, hw, fun hx => ?_⟩
    have : xs.length = 0 := by omega
    rw [this] at hx
    exact absurd rfl hx

set_option maxRecDepth 100000 in
set_option maxHeartbeats 400000 in
theorem markBinding_o (lo hi c d : Nat) (X Y : Option Addr) (p : PL) (k : Int) (h1 : p.1.length ≤ 1048576) (h2 : p.2.length ≤ 1048576) (h0 : 0 ≤ k) (hk : k ≤ 2097152) (w : World) (h : BR w lo hi X c Y d p) :
    Calls Try.prog 19 #[.agg #[.slice X p.1.length c, .slice Y p.2.length d], .int .i64 k] w fun e w' => e = .returned (.int .i64 (k + p.1.length + p.2.length)) ∧ TurnB lo hi w w' ∧ BM w' lo hi X Y k p := by
  obtain ⟨q1, q2, a1, a2, a3, a4, a5, a6, a7, a8⟩ := h
  have hb := below_alloc w (.cells #[.slice X p.1.length c, .slice Y p.2.length d] 29)
  have B1 := Lib.hid (Box.new w #[.slice X p.1.length c, .slice Y p.2.length d] 29)
  have O1 := Lib.hid (ownV_block a1 (hb.block q1 (by omega)))
  have O2 := Lib.hid (ownV_block a2 (hb.block q2 (by omega)))
  have AA := Lib.hid (And.intro a3 (And.intro a4 (And.intro a5 (And.intro a6 (And.intro a7 a8)))))
  have HB := Lib.hid hb
  clear a1 a2 hb
  go_enter Try.func19, Try.ntmps19
  go_wp2_with fail
  refine (markIntS_ov q1 X c k p.1 h1 h0 (by omega) _ O1.out).mono ?_
  rintro e w2 ⟨rfl, W2, M2⟩
  have B2 := Lib.hid ((W2.block w.heap.size (.inr (by omega))).trans B1.out)
  have y1 := (show Box w2 w.heap.size #[.slice X p.1.length c, .slice Y p.2.length d] 29 from B2.out).cell 1
  simp only [List.getElem?_toArray, List.getElem?_cons_zero, List.getElem?_cons_succ] at y1
  have O3 := Lib.hid (ownV_block O2.out (W2.block q2 (by omega)))
  have HM2 := Lib.hid M2
  have HW2 := Lib.hid W2
  clear M2 W2
  have hk2 : 0 ≤ k + (p.1.length : Int) := by omega
  go_wp2_with fail
  refine (markIntS_ov q2 Y d (k + p.1.length) p.2 h2 hk2 (by omega) _ O3.out).mono ?_
  rintro e w3 ⟨rfl, W3, M3⟩
  have HM3 := Lib.hid M3
  have HW3 := Lib.hid W3
  clear M3 W3
  go_wp2
  go_ret
  obtain ⟨b3, b4, b5, b6, b7, b8⟩ := AA.out
  have s1 : w2.heap.size = w.heap.size + 1 := by rw [HW2.out.size, al_size]
  have s2 : w3.heap.size = w2.heap.size := HW3.out.size
  refine ⟨rfl, ⟨⟨?_, ?_, ?_, ?_, ?_⟩, by omega, ?_⟩, q1, q2, HM2.out.keep (fun b x y => HW3.out.block b (by omega)), HM3.out, b3, b4, b5, b6, by omega⟩
  · rw [HW3.out.os, HW2.out.os]; rfl
  · rw [HW3.out.tape, HW2.out.tape]; rfl
  · rw [HW3.out.output, HW2.out.output]; rfl
  · omega
  · intro b hb
    exact ((HW3.out.block b (by omega)).trans (HW2.out.block b (by omega))).trans (HB.out.block b (by omega))
  · intro b hb hlt
    exact ((HW3.out.block b (by omega)).trans (HW2.out.block b (by omega))).trans (HB.out.block b (by omega))

set_option maxRecDepth 100000 in
set_option maxHeartbeats 400000 in
theorem heldBinding_o (lo hi c d : Nat) (X Y : Option Addr) (p : PL) (k : Int) (h1 : p.1.length ≤ 1048576) (h2 : p.2.length ≤ 1048576) (h0 : 0 ≤ k) (hk : k ≤ 2097152) (w : World) (h : BM w lo hi X Y k p) :
    Calls Try.prog 21 #[.agg #[.slice X p.1.length c, .slice Y p.2.length d], .int .i64 k] w fun e w' => e = .returned (.int .i64 (k + p.1.length + p.2.length)) ∧ Below w.heap.size w w' := by
  have H1 := Lib.hid (h.step (below_alloc w (.cells #[.slice X p.1.length c, .slice Y p.2.length d] 29)))
  clear h
  obtain ⟨q1, q2, a1, a2, a3, a4, a5, a6, a7⟩ := H1.out
  have I1 := Lib.hid a1
  have I2 := Lib.hid a2
  clear a1 a2 a3 a4 a5 a6 a7
  have hk2 : 0 ≤ k + (p.1.length : Int) := by omega
  have hk3 : 0 ≤ k + (p.1.length : Int) + (p.2.length : Int) := by omega
  have hk2' : ¬ k + (p.1.length : Int) < 0 := by omega
  have hk3' : ¬ k + (p.1.length : Int) + (p.2.length : Int) < 0 := by omega
  go_enter Try.func21, Try.ntmps21
  go_wp2_with fail
  refine (heldIntS_any _ _ X c p.1.length k _ h1 h0 (by omega) I1.out).mono ?_
  rintro e w2 ⟨rfl, rfl⟩
  go_wp2_with fail
  refine (heldIntS_any _ _ Y d p.2.length (k + p.1.length) _ h2 hk2 (by omega) I2.out).mono ?_
  rintro e w3 ⟨rfl, rfl⟩
  go_wp2
  go_ret
  exact ⟨rfl, below_alloc _ _⟩

/-- What both answer, as a pair of lists, and whether they match. -/
def mres (o : Option PL) : PL := o.getD ([], [])
/-- A binding that lies somewhere. -/
def BI (w : World) (X Y : Option Addr) (p : PL) : Prop := RI w X p.1 ∧ RI w Y p.2
theorem BI.step {w w' : World} {X Y : Option Addr} {p : PL} (h : BI w X Y p) (b : Below w.heap.size w w') : BI w' X Y p := ⟨h.1.step b, h.2.step b⟩
theorem spec_MatU (A B T V : Option Addr) (c d tc vc : Nat) (r r' : Int) (us bs ts vs : List Int) (hl : us.length + ts.length ≤ 1048576) (hlb : bs.length ≤ 1048576) (hlv : vs.length ≤ 1048576)
    (w : World) (hA : RI w A us) (hB : RI w B bs) (hT : RI w T ts) (hV : RI w V vs) :
    Calls Try.prog 112 #[.agg #[.slice A us.length c, .slice B bs.length d], .agg #[.int .i64 r, .slice T ts.length tc], .agg #[.int .i64 r', .slice V vs.length vc]] w fun e w' =>
      ∃ X c Y d, e = .returned (.tuple #[.agg #[.slice X (mres (matB (us, bs) r ts r' vs)).1.length c, .slice Y (mres (matB (us, bs) r ts r' vs)).2.length d], .bool (matB (us, bs) r ts r' vs).isSome]) ∧ BI w' X Y (mres (matB (us, bs) r ts r' vs)) ∧ Below w.heap.size w w' := by
  refine (spec_MatchAtom A B T V c d tc vc r r' us bs ts vs hl hlb hlv w hA hB hT hV).mono ?_
  rintro e w' ⟨h | h, hb⟩
  · obtain ⟨h1, rfl⟩ := h
    rw [h1]
    exact ⟨none, 0, none, 0, rfl, ⟨fun h => absurd rfl h, fun h => absurd rfl h⟩, hb⟩
  · obtain ⟨q, X, c, Y, d, h1, rfl, h2, h3⟩ := h
    rw [h1]
    exact ⟨X, c, Y, d, rfl, ⟨h2.ri, h3.ri⟩, hb⟩
theorem mres_len {p : PL} {r r' : Int} {ts vs : List Int} : (mres (matB p r ts r' vs)).1.length ≤ p.1.length + ts.length ∧ (mres (matB p r ts r' vs)).2.length ≤ p.1.length + ts.length := by
  cases h : matB p r ts r' vs with
  | none => exact ⟨Nat.zero_le _, Nat.zero_le _⟩
  | some q =>
    unfold matB at h
    split at h
    · rename_i hc
      have := mgo_len _ _ _ _ h hc.2.2
      show q.1.length ≤ _ ∧ q.2.length ≤ _
      omega
    · cases h
end Go.Proofs.Ytpdmkdhnidgjoaa

namespace Go.Proofs.Ytpdmkdhnidgjoaa
open Go.ChangeShapes Go.WideShapes Go.ChangeAt Go.RowKit Go.Sort
set_option linter.unusedVariables false
set_option linter.unusedSimpArgs false

/-- The numbers from 0 to below n that are not used, in order. -/
def frV (used : List Int) : Nat → List Int
  | 0 => []
  | n + 1 => if (n : Int) ∈ used then frV used n else frV used n ++ [(n : Int)]
theorem frV_used {used : List Int} {n : Nat} (h : decide ((n : Int) ∈ used) = true) : frV used (n + 1) = frV used n := by simp only [frV]; rw [if_pos (by simpa using h)]
theorem frV_free {used : List Int} {n : Nat} (h : decide ((n : Int) ∈ used) = false) : frV used (n + 1) = frV used n ++ [(n : Int)] := by simp only [frV]; rw [if_neg (by simpa using h)]
theorem frV_len (used : List Int) : ∀ n : Nat, (frV used n).length ≤ n
  | 0 => by simp [frV]
  | n + 1 => by
    have := frV_len used n
    simp only [frV]
    split <;> simp <;> omega
theorem frV_more (used : List Int) (n : Nat) : ∀ m, ∃ r, frV used (n + m) = frV used n ++ r
  | 0 => ⟨[], by simp⟩
  | m + 1 => by
    obtain ⟨r, hr⟩ := frV_more used n m
    rw [show n + (m + 1) = (n + m) + 1 by omega]
    simp only [frV]
    split
    · exact ⟨r, hr⟩
    · exact ⟨r ++ [((n + m : Nat) : Int)], by rw [hr, List.append_assoc]⟩
theorem frV_take (used : List Int) {n : Nat} (hn : n ≤ 10) {m : Nat} (h : (frV used n).length = m) : (frV used 10).take m = frV used n := by
  obtain ⟨r, hr⟩ := frV_more used n (10 - n)
  rw [show n + (10 - n) = 10 by omega] at hr
  rw [hr, ← h, List.take_left]
/-- The facts of the atoms. -/
def frzF (us vs : List Int) (l : FL) : FL := l.foldl (fun F a => addF F a.1 (tupV us vs a.2)) []
theorem frzF_take (us vs : List Int) (l : FL) {k : Nat} (hk : k < l.length) {r : Int} {xs : List Int} (hf : l.getD k (0, []) = (r, xs)) : frzF us vs (l.take (k + 1)) = addF (frzF us vs (l.take k)) r (tupV us vs xs) := by
  unfold frzF
  rw [List.take_succ_eq_append_getElem hk, List.foldl_append]
  have : l[k] = l.getD k (0, []) := by simp [List.getD_eq_getElem?_getD, hk]
  rw [this, hf]
  rfl
theorem szF_frz (us vs : List Int) (l : FL) : ∀ k, k ≤ l.length → szF (frzF us vs (l.take k)) ≤ szF (l.take k)
  | 0, _ => by simp [frzF, szF, sumN]
  | k + 1, hk => by
    have ih := szF_frz us vs l k (by omega)
    generalize hf : l.getD k (0, []) = f
    obtain ⟨r, xs⟩ := f
    rw [frzF_take us vs l (by omega) hf]
    have h1 := szF_addF (frzF us vs (l.take k)) r (tupV us vs xs)
    rw [tupV_len] at h1
    have h2 := sumN_take l k (by omega)
    rw [hf] at h2
    have h3 : (l.take (k + 1)).length = k + 1 := by rw [List.length_take]; omega
    have h4 : (l.take k).length = k := by rw [List.length_take]; omega
    unfold szF at ih ⊢ h1
    rw [h3, h2]
    rw [h4] at ih
    push_cast
    omega
theorem szF_frzA (us vs : List Int) (l : FL) (k : Nat) (hk : k ≤ l.length) (hz : szF l ≤ 1048576) : szF (frzF us vs (l.take k)) ≤ 1048576 := by
  have h1 := szF_frz us vs l k hk
  have h2 := szF_take l k
  omega
/-- What freezing gives: facts, values, whether there are enough values. -/
def frzO (used vars : List Int) : Bool := decide (vars.length ≤ (frV used 10).length)
def frzL (used vars : List Int) : List Int := if frzO used vars = true then vars else []
def frzV (used vars : List Int) : List Int := if frzO used vars = true then (frV used 10).take vars.length else []
def frzR (used vars : List Int) (l : FL) : FL := if frzO used vars = true then frzF vars ((frV used 10).take vars.length) l else []
theorem frz_no {used vars : List Int} (l : FL) (h : (frV used 10).length < vars.length) : frzO used vars = false ∧ frzL used vars = [] ∧ frzV used vars = [] ∧ frzR used vars l = [] := by
  have h1 : frzO used vars = false := by simp [frzO]; omega
  exact ⟨h1, by simp [frzL, h1], by simp [frzV, h1], by simp [frzR, h1]⟩
theorem frz_yes {used vars : List Int} (l : FL) (h : ¬ (frV used 10).length < vars.length) : frzO used vars = true ∧ frzL used vars = vars ∧ frzV used vars = (frV used 10).take vars.length ∧ frzR used vars l = frzF vars ((frV used 10).take vars.length) l := by
  have h1 : frzO used vars = true := by simp [frzO]; omega
  exact ⟨h1, by simp [frzL, h1], by simp [frzV, h1], by simp [frzR, h1]⟩
/-- The values taken so far. -/
theorem tak_used {used : List Int} {n m : Nat} (h : decide ((n : Int) ∈ used) = true) : (frV used (n + 1)).take m = (frV used n).take m := by rw [frV_used h]
theorem tak_full {used : List Int} {n m : Nat} (h : ¬ ((frV used n).take m).length < m) : (frV used (n + 1)).take m = (frV used n).take m := by
  rw [List.length_take] at h
  obtain ⟨r, hr⟩ := frV_more used n 1
  rw [hr, List.take_append_of_le_length (by omega)]
theorem tak_more {used : List Int} {n m : Nat} (h : ((frV used n).take m).length < m) (h2 : decide ((n : Int) ∈ used) = false) : (frV used (n + 1)).take m = (frV used n).take m ++ [(n : Int)] := by
  rw [List.length_take] at h
  rw [frV_free h2, List.take_of_length_le (by simp; omega), List.take_of_length_le (by omega)]
theorem tak_len {used : List Int} {n m : Nat} : ((frV used n).take m).length ≤ n := by
  have := frV_len used n
  rw [List.length_take]
  omega

/-- Facts of the call's own, or none. -/
def POf (w : World) (lo hi : Nat) (A : Option Addr) (c : Nat) (fs : FL) : Prop := hi ≤ w.heap.size ∧ (fs = [] ∨ ∃ g, A = some ⟨g, 0, none⟩ ∧ PX w lo hi g (c * 2) fs)
theorem POf.keep {w w' : World} {lo hi c : Nat} {A : Option Addr} {fs : FL} (h : POf w lo hi A c fs) (hk : ∀ b, lo ≤ b → b < hi → w'.heap[b]? = w.heap[b]?) (hs : w.heap.size ≤ w'.heap.size) : POf w' lo hi A c fs := by
  obtain ⟨h1, h2⟩ := h
  refine ⟨Nat.le_trans h1 hs, ?_⟩
  rcases h2 with h2 | ⟨g, e, h2⟩
  · exact .inl h2
  · exact .inr ⟨g, e, h2.keep hk hs⟩
theorem POf.step {w w' : World} {lo hi c : Nat} {A : Option Addr} {fs : FL} (h : POf w lo hi A c fs) (b : Below w.heap.size w w') : POf w' lo hi A c fs :=
  h.keep (fun q _ hq => b.block q (by have := h.1; omega)) b.size
theorem POf.rf {w : World} {lo hi c : Nat} {A : Option Addr} {fs : FL} (h : POf w lo hi A c fs) : RF w A fs := by
  obtain ⟨h1, h2⟩ := h
  rcases h2 with rfl | ⟨g, rfl, h2⟩
  · exact fun hne => absurd rfl hne
  · exact h2.rf
theorem AddOut.toPOf {w : World} {l : FL} {r : Int} {xs : List Int} {e : Ending} {w' : World} (h : AddOut w (addF l r xs) e w') : ∃ A c, e = .returned (.slice A (addF l r xs).length c) ∧ POf w' w.heap.size w'.heap.size A c (addF l r xs) ∧ Below w.heap.size w w' := by
  obtain ⟨g, cap, he, hp, hb⟩ := h.toP
  exact ⟨_, cap, he, ⟨Nat.le_refl _, .inr ⟨g, rfl, hp⟩⟩, hb⟩
end Go.Proofs.Ytpdmkdhnidgjoaa
