/- An atom struck out of a row. Conditions: none beyond each theorem's own. -/
import Derived.Test.YtpdmkdhnidgjoaaCpQ
namespace Go.Proofs.Ytpdmkdhnidgjoaa
open Go.ChangeShapes Go.WideShapes Go.ChangeAt Go.RowKit Go.Sort
set_option linter.unusedVariables false
set_option linter.unusedSimpArgs false

/-! slices.Delete of one atom. -/
theorem heap_setCells (b : Nat) : ∀ (vs : List Value) (o : Nat) (w : World) (k : Nat), k ≠ b → (w.setCells b o vs).heap[k]? = w.heap[k]?
  | [], _, _, _, _ => rfl
  | v :: r, o, w, k, h => (heap_setCells b r (o + 1) _ k h).trans (Below.heap_setCell w ⟨b, o, none⟩ v k h)
theorem within_setCells {a : World} (b : Nat) : ∀ (vs : List Value) (o : Nat) (w : World), Within b (b + 1) a w → Within b (b + 1) a (w.setCells b o vs)
  | [], _, _, h => h
  | v :: r, o, w, h => within_setCells b r (o + 1) _ (h.set (p := ⟨b, o, none⟩) (Nat.le_refl _) (Nat.lt_succ_self _) v)
theorem getD_erase (l : FL) (i j : Nat) : (l.eraseIdx i).getD j (0, []) = if j < i then l.getD j (0, []) else l.getD (j + 1) (0, []) := by
  simp only [List.getD_eq_getElem?_getD, List.getElem?_eraseIdx]
  split <;> rfl
/-- The elements behind number i moved down by one. -/
def shF (F : Nat → Value) (i n : Nat) : Nat → Value := fun j => if i * 2 ≤ j ∧ j < (n - 1) * 2 then F (j + 2) else F j
theorem OwnP.erase {w' : World} {lo hi g m n : Nat} {l : FL} {F G : Nat → Value} {bs : Nat → Nat} (i : Nat) (hn : l.length = n) (hi' : i < n) (h1 : lo ≤ g) (h2 : g < hi)
    (hr : w'.rowIs g 68 m G) (hG : ∀ j, j < (n - 1) * 2 → G j = shF F i n j)
    (he : ∀ j, j < n → F (j * 2) = .int .i64 (l.getD j (0, [])).1 ∧ OwnV w' lo hi (F (j * 2 + 1)) (bs j) (l.getD j (0, [])).2)
    (hd : ∀ i j, i < j → j < n → 0 < (l.getD i (0, [])).2.length → 0 < (l.getD j (0, [])).2.length → bs i ≠ bs j) : atom.OwnP w' lo hi g m (n - 1) (l.eraseIdx i) := by
  refine ⟨h1, h2, G, fun j => if j < i then bs j else bs (j + 1), hr, fun j hj => ?_, fun a b hab hb ha0 hb0 => ?_⟩
  · rw [hG (j * 2) (by omega), hG (j * 2 + 1) (by omega), getD_erase]
    unfold shF
    by_cases hji : j < i
    · have e1 : ¬ (i * 2 ≤ j * 2 ∧ j * 2 < (n - 1) * 2) := by omega
      have e2 : ¬ (i * 2 ≤ j * 2 + 1 ∧ j * 2 + 1 < (n - 1) * 2) := by omega
      simp only [if_neg e1, if_neg e2, if_pos hji]
      exact he j (by omega)
    · have e1 : i * 2 ≤ j * 2 ∧ j * 2 < (n - 1) * 2 := by omega
      have e2 : i * 2 ≤ j * 2 + 1 ∧ j * 2 + 1 < (n - 1) * 2 := by omega
      simp only [if_pos e1, if_pos e2, if_neg hji]
      have := he (j + 1) (by omega)
      rw [show (j + 1) * 2 = j * 2 + 2 by omega] at this
      rw [show j * 2 + 1 + 2 = j * 2 + 2 + 1 by omega]
      exact this
  · rw [getD_erase] at ha0 hb0
    by_cases h3 : a < i
    · rw [if_pos h3] at ha0
      by_cases h4 : b < i
      · rw [if_pos h4] at hb0
        simp only [if_pos h3, if_pos h4]
        exact hd a b hab (by omega) ha0 hb0
      · rw [if_neg h4] at hb0
        simp only [if_pos h3, if_neg h4]
        exact hd a (b + 1) (by omega) (by omega) ha0 hb0
    · have h4 : ¬ b < i := by omega
      rw [if_neg h3] at ha0
      rw [if_neg h4] at hb0
      simp only [if_neg h3, if_neg h4]
      exact hd (a + 1) (b + 1) (by omega) (by omega) ha0 hb0

/-- clear of one element of two cells. -/
theorem run_clear_two {P : Program} (w : World) (t e ty : TypeId) (z z1 z2 : Value) (ht : P.underlying t = some (.slice e)) (hv : ∀ w, (zeroValue e).run P w = .ok z w) (hz : z.cells = #[z1, z2]) (h1 : z1.oneCell' = true) (h2 : z2.oneCell' = true) (b o c : Nat)
    (hc : ∀ j, j < 2 → (w.cell? ⟨b, o + j, none⟩).isSome = true) (hf : ∀ j, j < 2 → w.frozen? ⟨b, o + j, none⟩ = false) :
    (Builtin.clear_ #[t] ty #[.slice (some ⟨b, o, none⟩) 1 c]).run P w = .ok (.tuple #[]) (w.setCells b o [z1, z2]) := by
  have hzc : (Builtin.zeroCells z.cells 1).toList = [z1, z2] := by
    rw [hz]
    apply List.ext_getElem
    · simp [Builtin.zeroCells]
    · intro i a1 a2
      have : i = 0 ∨ i = 1 := by simp at a2; omega
      rcases this with rfl | rfl <;> simp [Builtin.zeroCells]
  have hst := run_storeCells_cells (P := P) b o [z1, z2] 0 w (by simpa using hc) (by simpa using hf) (by intro v hv'; simp at hv'; rcases hv' with rfl | rfl <;> assumption)
  simp only [Nat.add_zero] at hst
  simp [Builtin.clear_, run_underlying ht, hv, hzc, hst]

set_option maxRecDepth 100000 in
theorem zeroM2 (w : World) : (zeroValue 68).run Try.prog w = .ok (.agg #[.int .i64 0, .slice none 0 0]) w := by
  obtain ⟨i0, hi0, hz0, hz1, hz2⟩ := info_parts atom.fact_info
  simp [zeroValue, typeInfo, hi0, hz0]

def DelO (w : World) (lo hi g n : Nat) (l : FL) (e : Ending) (w' : World) : Prop :=
  e = .returned (.slice (some ⟨g, 0, none⟩) (n - 1) n) ∧ atom.OwnP w' lo hi g (n * 2) (n - 1) l ∧ Within g (g + 1) w w'

theorem del_done {w w5 : World} {lo hi g k i : Nat} {l : FL} {F : Nat → Value} {bs : Nat → Nat} {NW : List Value} (hn : l.length = k + 1) (hin : i < k + 1)
    (he : lo ≤ g ∧ g < hi ∧ (∀ j, j < k + 1 → F (j * 2) = .int .i64 (l.getD j (0, [])).1 ∧ OwnV w lo hi (F (j * 2 + 1)) (bs j) (l.getD j (0, [])).2) ∧ ∀ i j, i < j → j < k + 1 → 0 < (l.getD i (0, [])).2.length → 0 < (l.getD j (0, [])).2.length → bs i ≠ bs j)
    (hNl : NW.length = (k - i) * 2) (hNg : ∀ j, j < NW.length → NW[j]?.getD default = F ((i + 1) * 2 + j)) (hW : Within g (g + 1) w w5)
    (hR : w5.rowIs g 68 ((k + 1) * 2) (fun j => if i * 2 ≤ j ∧ j < i * 2 + NW.length then NW[j - i * 2]?.getD default else F j)) (hR0 : w.rowIs g 68 ((k + 1) * 2) F) :
    DelO w lo hi g (k + 1) (l.eraseIdx i) (.returned (.slice (some ⟨g, 0, none⟩) k (k + 1))) (w5.setCells g (k * 2) [.int .i64 0, .slice none 0 0]) := by
  have hW2 := within_setCells g [.int .i64 0, .slice none 0 0] (k * 2) w5 hW
  refine ⟨rfl, OwnP.erase (F := F) (bs := bs) i hn hin he.1 he.2.1 (rowIs_setCells _ _ _ _ hR) (fun j hj => ?_) (fun j hj => ?_) he.2.2.2, hW2⟩
  · have hj' : j < k * 2 := by omega
    have c1 : ¬ (k * 2 ≤ j ∧ j < k * 2 + ([.int .i64 0, .slice none 0 0] : List Value).length) := by omega
    simp only [if_neg c1]
    unfold shF
    by_cases c2 : i * 2 ≤ j
    · rw [if_pos ⟨c2, by omega⟩, if_pos ⟨c2, by omega⟩, hNg _ (by omega)]
      congr 1
      omega
    · rw [if_neg (fun h => c2 h.1), if_neg (fun h => c2 h.1)]
  · obtain ⟨a, b⟩ := he.2.2.1 j hj
    refine ⟨a, b.keep fun _ _ hc => hW2.block _ ?_⟩
    have hne : bs j ≠ g := fun e => by
      obtain ⟨c, hc⟩ := hc
      obtain ⟨c2, hc2, _⟩ := hR0
      rw [e, hc2] at hc
      injection hc with hc
      injection hc with _ ht
      exact absurd ht (by decide)
    omega

set_option maxRecDepth 100000 in
set_option maxHeartbeats 8000000 in
theorem delete_any (lo hi g k i : Nat) (l : FL) (hn : l.length = k + 1) (hin : i < k + 1) (hnm : k < 1048576) (w : World) (h : atom.OwnP w lo hi g ((k + 1) * 2) (k + 1) l) :
    Calls Try.prog 77 #[.slice (some ⟨g, 0, none⟩) (k + 1) (k + 1), .int .i64 (i : Int), .int .i64 ((i : Int) + 1)] w (DelO w lo hi g (k + 1) (l.eraseIdx i)) := by
  obtain ⟨i0, hi0, hz0, hz1, hz2⟩ := info_parts atom.fact_info
  obtain ⟨h1, h2, F, bs, hr, he, hd⟩ := h
  have hcell : ∀ j, j < (k + 1) * 2 → w.cell? ⟨g, j, none⟩ = some (F j) := fun j hj => hr.cell hj
  have hone : ∀ j, j < (k + 1) * 2 → (F j).oneCell' = true := fun j hj => by
    obtain ⟨e0, A, c, e1, _⟩ := he (j / 2) (by omega)
    by_cases hp : j % 2 = 0
    · rw [show j = j / 2 * 2 by omega, e0]; rfl
    · rw [show j = j / 2 * 2 + 1 by omega, e1]; rfl
  obtain ⟨NW, hNW⟩ : ∃ L : List Value, L = (List.range ((k - i) * 2)).map fun j => F ((i + 1) * 2 + j) := ⟨_, rfl⟩
  have hNl : NW.length = (k - i) * 2 := by rw [hNW]; simp
  have hNc : ∀ j u, NW[j]? = some u → w.cell? ⟨g, (i + 1) * 2 + j, none⟩ = some u := fun j u hj => by
    have hlt : j < (k - i) * 2 := by have := (List.getElem?_eq_some_iff.1 hj).1; omega
    rw [hNW, List.getElem?_map, List.getElem?_range hlt] at hj
    injection hj with hj
    rw [hcell _ (by omega)]
    exact congrArg some hj
  have hNo : ∀ u ∈ NW, u.oneCell' = true := fun u hu => by
    rw [hNW] at hu
    simp only [List.mem_map, List.mem_range] at hu
    obtain ⟨j, hj, rfl⟩ := hu
    exact hone _ (by omega)
  have hNg : ∀ j, j < NW.length → NW[j]?.getD default = F ((i + 1) * 2 + j) := fun j hj => by
    rw [hNW, List.getElem?_map, List.getElem?_range (by omega)]
    rfl
  have HR := Lib.hid hr
  have HE := Lib.hid (And.intro h1 (And.intro h2 (And.intro he hd)))
  have HC := Lib.hid hcell
  have HN := Lib.hid (And.intro hNl (And.intro hNc (And.intro hNo hNg)))
  have HLL := Lib.hid hn
  have hn' : (k : Int) < 1048576 := by omega
  have hi1 : (i : Int) < (k : Int) + 1 := by omega
  have hi8 : (i : Int) ≤ (k : Int) := by omega
  have hi2 : (0 : Int) ≤ (i : Int) := by omega
  have hi3 : (i : Int) + 1 ≤ (k : Int) + 1 := by omega
  have hi4 : ((i : Int) == (i : Int) + 1) = false := by simp; omega
  have hi5 : (0 : Int) ≤ (i : Int) + 1 := by omega
  have hi6 : (i : Int) ≤ (i : Int) + 1 := by omega
  have hi7 : (i : Int) ≤ (k : Int) + 1 := by omega
  have hi9 : (k : Int) ≤ (k : Int) + 1 := by omega
  have hi10 : (0 : Int) ≤ (k : Int) + 1 := by omega
  have hi11 : (0 : Int) ≤ (k : Int) := by omega
  clear hr he hd hcell hone hNW hNl hNc hNo hNg h1 h2 hn
  have e5 : i + (k - i) = k := by omega
  have e6 : 0 + i * 2 = i * 2 := Nat.zero_add _
  by_cases hl : k = i
  · have d0 : (k = i) = True := eq_true hl
    have HL := Lib.hid hl
    clear hl
    go_enter Try.func77, Try.ntmps77
    go_wp2
    go_region_law (refine step_append_room rfl _ _ _ rfl 68 i0 2 Try.underlying32 hi0 hz1 g 0 i (k + 1) rfl ⟨g, 0, none⟩ (k - i) _ NW rfl HN.out.1 (fun j u hj => absurd ((List.getElem?_eq_some_iff.1 hj).1) (by have := HN.out.1; have := HL.out; omega)) HN.out.2.2.1 (by omega) (fun j hj => by
        have hlt : i * 2 + j < (k + 1) * 2 := by have := HN.out.1; omega
        rw [e6]
        exact ⟨Option.isSome_iff_exists.2 ⟨_, HC.out _ hlt⟩, HR.out.frozen _⟩) ?_
                   rw [e5, e6])
    have HW := Lib.hid (show Within g (g + 1) w ((World.drew w).setCells g (i * 2) NW) from within_setCells g NW (i * 2) _ ⟨rfl, rfl, rfl, rfl, fun _ _ => rfl⟩)
    have HR5 := Lib.hid (rowIs_setCells NW (i * 2) (World.drew w) F HR.out)
    obtain ⟨w5, hw5⟩ : ∃ W, W = (World.drew w).setCells g (i * 2) NW := ⟨_, rfl⟩
    rw [← hw5] at HW HR5 ⊢
    have hcl : ∀ ty c, (Builtin.clear_ #[32] ty #[.slice (some ⟨g, k * 2, none⟩) 1 c]).run Try.prog w5 = .ok (.tuple #[]) (w5.setCells g (k * 2) [.int .i64 0, .slice none 0 0]) := fun ty c =>
      run_clear_two w5 32 68 ty (.agg #[.int .i64 0, .slice none 0 0]) (.int .i64 0) (.slice none 0 0) Try.underlying32 zeroM2 rfl rfl rfl g (k * 2) c (fun j hj => by rw [HR5.out.cell (show k * 2 + j < (k + 1) * 2 by omega)]; rfl) (fun j _ => HR5.out.frozen _)
    clear hw5
    go_wp2
    go_ret
    exact del_done HLL.out (by omega) HE.out HN.out.1 HN.out.2.2.2 HW.out HR5.out HR.out
  · have d0 : (k = i) = False := eq_false hl
    have HL := Lib.hid hl
    clear hl
    go_enter Try.func77, Try.ntmps77
    go_wp2
    go_region_law (refine step_append_room rfl _ _ _ rfl 68 i0 2 Try.underlying32 hi0 hz1 g 0 i (k + 1) rfl ⟨g, (i + 1) * 2, none⟩ (k - i) _ NW rfl HN.out.1 (fun j u hj => by rw [add_eq]; exact HN.out.2.1 j u hj) HN.out.2.2.1 (by omega) (fun j hj => by
        have hlt : i * 2 + j < (k + 1) * 2 := by have := HN.out.1; omega
        rw [e6]
        exact ⟨Option.isSome_iff_exists.2 ⟨_, HC.out _ hlt⟩, HR.out.frozen _⟩) ?_
                   rw [e5, e6])
    have HW := Lib.hid (show Within g (g + 1) w ((World.drew w).setCells g (i * 2) NW) from within_setCells g NW (i * 2) _ ⟨rfl, rfl, rfl, rfl, fun _ _ => rfl⟩)
    have HR5 := Lib.hid (rowIs_setCells NW (i * 2) (World.drew w) F HR.out)
    obtain ⟨w5, hw5⟩ : ∃ W, W = (World.drew w).setCells g (i * 2) NW := ⟨_, rfl⟩
    rw [← hw5] at HW HR5 ⊢
    have hcl : ∀ ty c, (Builtin.clear_ #[32] ty #[.slice (some ⟨g, k * 2, none⟩) 1 c]).run Try.prog w5 = .ok (.tuple #[]) (w5.setCells g (k * 2) [.int .i64 0, .slice none 0 0]) := fun ty c =>
      run_clear_two w5 32 68 ty (.agg #[.int .i64 0, .slice none 0 0]) (.int .i64 0) (.slice none 0 0) Try.underlying32 zeroM2 rfl rfl rfl g (k * 2) c (fun j hj => by rw [HR5.out.cell (show k * 2 + j < (k + 1) * 2 by omega)]; rfl) (fun j _ => HR5.out.frozen _)
    clear hw5
    go_wp2
    go_ret
    exact del_done HLL.out (by omega) HE.out HN.out.1 HN.out.2.2.2 HW.out HR5.out HR.out
end Go.Proofs.Ytpdmkdhnidgjoaa
