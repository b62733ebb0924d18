/- Facts of the call's own from number k on, going on with the first. Conditions: none beyond each theorem's own. -/
import Derived.Test.YtenondgjipmhnaaRs1
import Derived.Test.YtenondgjipmhnaaRs4
namespace Go.Proofs.Ytenondgjipmhnaa
open Go.ChangeShapes Go.WideShapes Go.ChangeAt Go.RowKit Go.Sort
set_option linter.unusedVariables false
set_option linter.unusedSimpArgs false

theorem rotQ {k j L : Nat} (hk : k < L) (hj : j < L) : (k + j) % L < L ∧ ((j < L - k ∧ (k + j) % L = k + j) ∨ (L - k ≤ j ∧ (k + j) % L + L = k + j)) := by
  refine ⟨Nat.mod_lt _ (by omega), ?_⟩
  by_cases h : j < L - k
  · exact .inl ⟨h, Nat.mod_eq_of_lt (by omega)⟩
  · refine .inr ⟨by omega, ?_⟩
    rw [Nat.mod_eq_sub_mod (by omega), Nat.mod_eq_of_lt (by omega)]
    omega
theorem rot_cells {cs : List Value} {k j L t : Nat} (hl : cs.length = L * 2) (hk : k < L) (hj : j < L) (ht : t < 2) : (cs.drop (k * 2) ++ cs.take (k * 2))[j * 2 + t]? = cs[(k + j) % L * 2 + t]? := by
  obtain ⟨h1, h2⟩ := rotQ hk hj
  generalize (k + j) % L = q at h1 h2 ⊢
  rcases h2 with ⟨a, rfl⟩ | ⟨a, b⟩
  · rw [List.getElem?_append_left (by rw [List.length_drop]; omega), List.getElem?_drop]
    congr 1
    omega
  · rw [List.getElem?_append_right (by rw [List.length_drop]; omega), List.length_drop, List.getElem?_take_of_lt (by omega)]
    congr 1
    omega
theorem Items.rot {w : World} {lo hi : Nat} {M : FL} {cs : List Value} {bs : Nat → Nat} (h : Items w lo hi M cs bs) {k n : Nat} (hk : k < M.length) (hn : n ≤ M.length) :
    Items w lo hi (rotF M k n) ((cs.drop (k * 2) ++ cs.take (k * 2)).take (n * 2)) (fun j => bs ((k + j) % M.length)) := by
  obtain ⟨h1, h2, h3⟩ := h
  have hlen := rotF_len M hk hn
  have hget : ∀ j, j < n → (rotF M k n).getD j (0, []) = M.getD ((k + j) % M.length) (0, []) := fun j hj => by
    rw [List.getD_eq_getElem?_getD, rotF_at M hk hj hn]
    rfl
  refine ⟨by rw [hlen, List.length_take, List.length_append, List.length_drop, List.length_take]; omega, fun j hj => ?_, fun i j hij hj a b => ?_⟩
  · rw [hlen] at hj
    obtain ⟨e0, v1, e1, hv⟩ := h2 ((k + j) % M.length) (rotQ hk (by omega)).1
    have r0 := rot_cells (t := 0) h1 hk (show j < M.length by omega) (by omega)
    have r1 := rot_cells (t := 1) h1 hk (show j < M.length by omega) (by omega)
    simp only [Nat.add_zero] at r0
    rw [hget j hj, List.getElem?_take_of_lt (by omega), List.getElem?_take_of_lt (by omega), r0, r1]
    exact ⟨e0, v1, e1, hv⟩
  · rw [hlen] at hj
    rw [hget i (by omega)] at a
    rw [hget j hj] at b
    show bs ((k + i) % M.length) ≠ bs ((k + j) % M.length)
    obtain ⟨q1, q2⟩ := rotQ hk (show i < M.length by omega)
    obtain ⟨p1, p2⟩ := rotQ hk (show j < M.length by omega)
    generalize (k + i) % M.length = q at q1 q2 a ⊢
    generalize (k + j) % M.length = p at p1 p2 b ⊢
    rcases Nat.lt_trichotomy q p with hlt | heq | hgt
    · exact h3 q p hlt p1 a b
    · omega
    · exact fun e => h3 p q hgt q1 b a e.symm
theorem ownsRow_take {w : World} {base g cap m n : Nat} {e : TypeId} {cs : List Value} (h : w.ownsRow base e 2 (.slice (some ⟨g, 0, none⟩) m cap) m cs) (hn : n ≤ m) : w.ownsRow base e 2 (.slice (some ⟨g, 0, none⟩) n cap) n (cs.take (n * 2)) := by
  obtain ⟨hl, h⟩ := h
  rcases h with ⟨h0, _⟩ | ⟨g', cap', cur, hv, hb0, hb, h1, h2, h3, h4⟩
  · cases h0
  · injection hv with hv hv1 hv2
    injection hv with hv
    injection hv with hv
    subst hv hv2
    refine ⟨by rw [List.length_take]; omega, .inr ⟨g, cap, cur, rfl, hb0, hb, by omega, h2, h3, ?_⟩⟩
    rw [← h4, List.take_take, Nat.min_eq_left (by omega)]
theorem ownsRow_lo {w : World} {base base' : Nat} {e : TypeId} {v : Value} {n : Nat} {cs : List Value} (h : w.ownsRow base e 2 v n cs) (hb : base' ≤ base) : w.ownsRow base' e 2 v n cs := by
  obtain ⟨hl, h⟩ := h
  rcases h with h0 | ⟨g', cap', cur, hv, hb0, r⟩
  · exact ⟨hl, .inl h0⟩
  · exact ⟨hl, .inr ⟨g', cap', cur, hv, Nat.le_trans hb hb0, r⟩⟩
theorem ownsRow_some {w : World} {base : Nat} {e : TypeId} {v : Value} {n : Nat} {cs : List Value} (h : w.ownsRow base e 2 v n cs) (hn : 0 < n) : ∃ g cap, v = .slice (some ⟨g, 0, none⟩) n cap ∧ base ≤ g ∧ g < w.heap.size ∧ n ≤ cap ∧ cap ≤ maxLen := by
  obtain ⟨hl, h⟩ := h
  rcases h with ⟨rfl, h0⟩ | ⟨g', cap', cur, rfl, hb0, hb, h1, h2, _⟩
  · omega
  · exact ⟨g', cap', rfl, hb0, (Array.getElem?_eq_some_iff.1 hb).1, h1, h2⟩
end Go.Proofs.Ytenondgjipmhnaa
