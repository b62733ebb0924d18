/- What the program's chooseFrom answers. Conditions: none beyond each theorem's own. -/
import Derived.Test.YtenondgjipmhnaaRs6
import Derived.Test.YtenondgjipmhnaaRs7
namespace Go.Proofs.Ytenondgjipmhnaa
open Go.ChangeShapes Go.WideShapes Go.ChangeAt Go.RowKit Go.Sort
set_option linter.unusedVariables false
set_option linter.unusedSimpArgs false

theorem cells_new2 (w : World) (v1 v2 : Value) (t : TypeId) : (w.alloc (.cells #[v1, v2] t)).cell? ⟨w.heap.size, 0, none⟩ = some v1 ∧ (w.alloc (.cells #[v1, v2] t)).cell? ⟨w.heap.size, 1, none⟩ = some v2 := by
  rw [cell_new, cell_new]
  exact ⟨rfl, rfl⟩
theorem cells_new2d (w : World) (v1 v2 : Value) (t : TypeId) : (w.alloc (.cells #[v1, v2] t)).drew.cell? ⟨w.heap.size, 0, none⟩ = some v1 ∧ (w.alloc (.cells #[v1, v2] t)).drew.cell? ⟨w.heap.size, 1, none⟩ = some v2 := cells_new2 w v1 v2 t
theorem begF_tmod (M : FL) (ch : Int) (hM : 0 < M.length) : begF M ch < M.length ∧ (max ch 0).tmod (M.length : Int) = (begF M ch : Int) := by
  unfold begF
  refine ⟨Nat.mod_lt _ hM, ?_⟩
  obtain ⟨c', hc'⟩ := Int.eq_ofNat_of_zero_le (show 0 ≤ max ch 0 by omega)
  rw [hc', Int.toNat_natCast, Int.tmod_eq_emod_of_nonneg (by omega)]
  first | exact (Int.natCast_mod c' M.length).symm | exact (Int.natCast_emod c' M.length).symm | exact (Int.ofNat_emod c' M.length).symm | simp
theorem concat_at (b c lo k0 : Nat) (M : FL) (cs : List Value) (bs : Nat → Nat) (hk : k0 < M.length) (hl : M.length ≤ 1048576) (w : World) (h : OwnC w lo w.heap.size (.slice (some ⟨b, 0, none⟩) M.length c) M cs bs) (hone : ∀ u ∈ cs, u.oneCell' = true) (nb : b < w.heap.size) (r0 : Int) (x0 : w.cell? ⟨b, 0, none⟩ = some (.int .i64 r0))
    (W : World) (hW : Below w.heap.size w W) (B c1 c2 : Nat) (C0 : W.cell? ⟨B, 0, none⟩ = some (.slice (some ⟨b, k0 * 2, none⟩) (M.length - k0) c1)) (C1 : W.cell? ⟨B, 1, none⟩ = some (.slice (some ⟨b, 0, none⟩) k0 c2)) :
    Calls Try.prog 125 #[.slice (some ⟨B, 0, none⟩) 2 2] W fun e w' => ∃ g cap, e = .returned (.slice (some ⟨g, 0, none⟩) M.length cap) ∧ w'.ownsRow w.heap.size 98 2 (.slice (some ⟨g, 0, none⟩) M.length cap) M.length (cs.drop (k0 * 2) ++ cs.take (k0 * 2)) ∧ Below w.heap.size w w' ∧ w.heap.size ≤ g ∧ g < w'.heap.size ∧ M.length ≤ cap ∧ cap ≤ maxLen ∧ w'.cell? ⟨b, 0, none⟩ = some (.int .i64 r0) := by
  have hcl : cs.length = M.length * 2 := h.2.1
  have hat : ∀ j, j < M.length * 2 → W.cell? ⟨b, j, none⟩ = cs[j]? := fun j hj => by
    have e := h.1.cellAt j hj
    have e2 : cs[j]? = some cs[j] := List.getElem?_eq_getElem (by omega)
    rw [e2] at e ⊢
    exact (hW.cell (p := ⟨b, j, none⟩) nb).trans e
  refine (concat_two B b (k0 * 2) 0 (M.length - k0) k0 c1 c2 (cs.drop (k0 * 2)) (cs.take (k0 * 2)) (by rw [List.length_drop]; omega) (by rw [List.length_take]; omega) (by omega) (by omega)
    (fun u hu => hone u (List.mem_of_mem_drop hu)) (fun u hu => hone u (List.mem_of_mem_take hu)) W (Nat.lt_of_lt_of_le nb hW.size) C0 C1 (fun j u hj => ?_) (fun j u hj => ?_)).mono ?_
  · have hlt := (List.getElem?_eq_some_iff.1 hj).1
    rw [List.length_drop] at hlt
    rw [List.getElem?_drop] at hj
    rw [hat _ (by omega)]
    exact hj
  · have hlt := (List.getElem?_eq_some_iff.1 hj).1
    rw [List.length_take] at hlt
    rw [List.getElem?_take_of_lt (by omega)] at hj
    rw [Nat.zero_add, hat _ (by omega)]
    exact hj
  · rintro e w' ⟨v, rfl, ho, hb⟩
    rw [show M.length - k0 + k0 = M.length by omega] at ho
    obtain ⟨g, cap, rfl, h1, h2, h3, h4⟩ := ownsRow_some ho (by omega)
    have hbw := step hW hb
    exact ⟨g, cap, rfl, ownsRow_lo ho hW.size, hbw, Nat.le_trans hW.size h1, h2, h3, h4, (hbw.cell (p := ⟨b, 0, none⟩) nb).trans x0⟩
theorem Items.one' {w : World} {lo hi : Nat} {M : FL} {cs : List Value} {bs : Nat → Nat} (h : Items w lo hi M cs bs) : ∀ u ∈ cs, u.oneCell' = true := fun u hu => by
  obtain ⟨j, hj, rfl⟩ := List.mem_iff_getElem.1 hu
  have h1 := h.1
  obtain ⟨e0, v1, e1, A, c, ev, _⟩ := h.2.1 (j / 2) (by omega)
  have ej : cs[j]? = some cs[j] := List.getElem?_eq_getElem hj
  rcases Nat.mod_two_eq_zero_or_one j with hm | hm
  · rw [show j / 2 * 2 = j by omega, ej] at e0
    injection e0 with e0
    rw [e0]
    rfl
  · rw [show j / 2 * 2 + 1 = j by omega, ej] at e1
    injection e1 with e1
    rw [e1, ev]
    rfl

set_option maxHeartbeats 1000000 in
set_option maxRecDepth 100000 in
theorem chooseFrom_any (b c lo : Nat) (M : FL) (cs : List Value) (bs : Nat → Nat) (n : Nat) (ch : Int) (hc1 : -9223372036854775808 ≤ ch) (hc2 : ch ≤ 9223372036854775807) (hnd : M.Nodup) (hl : M.length ≤ 1048576) (h0 : 0 < n) (hn : n ≤ M.length) (hz : szF M ≤ 1048576)
    (w : World) (hlo : lo ≤ w.heap.size) (h : OwnC w lo w.heap.size (.slice (some ⟨b, 0, none⟩) M.length c) M cs bs) (nb : b < w.heap.size) (hcap : M.length ≤ c) (hcm : c ≤ maxLen) :
    Calls Try.prog 82 #[.slice (some ⟨b, 0, none⟩) M.length c, .int .i64 (n : Int), .int .i64 ch] w fun e w' => ∃ A c' cs' bs', e = .returned (.slice A (addAll (rotF M (begF M ch) n) []).length c') ∧
      OwnC w' lo w'.heap.size (.slice A (addAll (rotF M (begF M ch) n) []).length c') (addAll (rotF M (begF M ch) n) []) cs' bs' ∧ Below w.heap.size w w' := by
  have hl' : (M.length : Int) ≤ 1048576 := by omega
  have hn' : (n : Int) ≤ (M.length : Int) := by omega
  have h0' : (0 : Int) < (n : Int) := by omega
  have d0 : ((n : Int) == 0) = false := by rw [beq_eq_false_iff_ne]; omega
  have dz : ¬ (M.length : Int) = 0 := by omega
  obtain ⟨hkM, EB⟩ := begF_tmod M ch (by omega)
  generalize begF M ch = k0 at hkM EB ⊢
  have hkM' : (k0 : Int) < (M.length : Int) := by omega
  have hk00 : (0 : Int) ≤ (k0 : Int) := by omega
  have hk1 : (k0 : Int) ≤ (c : Int) := by omega
  have hk2 : k0 ≤ M.length := by omega
  have hck : ¬ c = k0 := by omega
  have hcc : (M.length : Int) ≤ (c : Int) := by omega
  have hcm' : (c : Int) ≤ 9223372036854775807 := by unfold maxLen at hcm; omega
  obtain ⟨r0, x0⟩ : ∃ r0, w.cell? ⟨b, 0, none⟩ = some (.int .i64 r0) := ⟨_, (h.1.cellAt 0 (by omega)).trans (h.2.2.1 0 (by omega)).1⟩
  have XC := Lib.hid (concat_at b c lo k0 M cs bs hkM hl w h h.2.one' nb r0 x0)
  have XR := Lib.hid (h.2.rot hkM hn)
  have HN := Lib.hid ((rotF_nodup hnd k0 n))
  have HL := Lib.hid (rotF_len M hkM hn)
  have HZ := Lib.hid (fun i (hi : i < (rotF M k0 n).length) => (show ((rotF M k0 n).getD i (0, [])).2.length ≤ 1048576 by
    rw [List.getD_eq_getElem?_getD, rotF_at M hkM (by rw [rotF_len M hkM hn] at hi; exact hi) hn]
    exact szF_elem hz (Nat.mod_lt _ (by omega))))
  clear h hnd
  go_enter Try.func82, Try.ntmps82
  go_wp2
  go_region_held3 (fun w' => w'.cell? ⟨b, 0, none⟩ = some (.int .i64 r0))
    (first
      | go_keep)
    (first
      | (go_at_call 125; refine (XC.out _ (by first | exact below_alloc _ _ | exact step (below_drew _) (below_alloc _ _) | exact step (below_alloc _ _) (below_drew _)) _ _ _ (by first | exact (cells_new2d _ _ _ _).1 | exact (cells_new2 _ _ _ _).1) (by first | exact (cells_new2d _ _ _ _).2 | exact (cells_new2 _ _ _ _).2)).mono ?_; rintro e u2 ⟨g, cap, rfl, ho, hb, hg1, hg2, hg3, hg4, y0⟩; have hgn : (n : Int) ≤ (cap : Int) := by omega))
  have HB := Lib.hid hb
  have XS := Lib.hid (sortFacts_any u2 g cap lo w.heap.size lo (rotF M k0 n) _ _ HN.out (by rw [HL.out]; omega) HZ.out (by have := ownsRow_lo (ownsRow_take ho hn) hlo; rw [← HL.out] at this; rw [HL.out] at this ⊢; exact this) (XR.out.keep fun q _ hq _ => hb.block q hq) hg1 hb.size)
  rw [HL.out] at XS
  clear ho hb x0 y0
  go_wp2_with fail
  refine XS.out.mono ?_
  rintro e u3 ⟨rfl, ⟨cs3, bs3, ho3, hI3, hl3⟩, hg5⟩
  have d3 := (Below.refl w.heap.size u2).grown hg5 HB.out.size (fun q hq => by injection hq with hq; omega)
  have HB3 := Lib.hid (HB.out.trans d3)
  have HO3 := Lib.hid ho3
  have HI3 := Lib.hid hI3
  have HL3 := Lib.hid hl3
  clear ho3 hI3 hl3 hg5 d3
  go_wp2
  go_ret
  have e3 := HL3.out
  exact ⟨some ⟨g, 0, none⟩, cap, cs3, bs3, by rw [e3]; rfl, ⟨by rw [e3]; exact HO3.out, HI3.out.mono (Nat.le_refl _) HB3.out.size⟩, HB3.out⟩

theorem chooseFrom_zero (v : Value) (ch : Int) (w : World) :
    Calls Try.prog 82 #[v, .int .i64 0, .int .i64 ch] w fun e w' => e = .returned (.slice none 0 0) ∧ w' = w := by
  go_enter Try.func82, Try.ntmps82
  go_wp2
  go_ret
  exact ⟨rfl, rfl⟩
end Go.Proofs.Ytenondgjipmhnaa
