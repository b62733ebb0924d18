/- What the model's l2Cut, l2Num and l2Rel answer. Conditions: none beyond each theorem's own. -/
import Derived.Test.YtenondgjipmhnaaDoorPf
import Derived.Lib.QuietBelow
namespace Go.Proofs.YtenondgjipmhnaaDoor
open Go.ChangeShapes Go.WideShapes Go.ChangeAt Go.RowKit Go.Sort
set_option linter.unusedVariables false
set_option linter.unusedSimpArgs false

/-- The words before byte i, and the one that is under way. -/
def cutS (s : ByteArray) : Nat → List ByteArray × ByteArray
  | 0 => ([], ⟨#[]⟩)
  | i + 1 => if bn s i = 44 then ((cutS s i).1 ++ [(cutS s i).2], ⟨#[]⟩) else ((cutS s i).1, (cutS s i).2 ++ s.extract i (i + 1))
def cutW (s : ByteArray) : List ByteArray := (cutS s s.size).1 ++ [(cutS s s.size).2]
theorem cutS_hit {s : ByteArray} {i : Nat} (h : bn s i = 44) : cutS s (i + 1) = ((cutS s i).1 ++ [(cutS s i).2], ⟨#[]⟩) := if_pos h
theorem cutS_miss {s : ByteArray} {i : Nat} (h : ¬ bn s i = 44) : cutS s (i + 1) = ((cutS s i).1, (cutS s i).2 ++ s.extract i (i + 1)) := if_neg h
theorem ba_size_app (a b : ByteArray) : (a ++ b).size = a.size + b.size := ByteArray.size_append
theorem cutS_le (s : ByteArray) : ∀ i, (cutS s i).1.length ≤ i ∧ (cutS s i).2.size ≤ i ∧ ∀ x ∈ (cutS s i).1, x.size ≤ i
  | 0 => ⟨Nat.le_refl _, Nat.le_refl _, fun x h => by simp [cutS] at h⟩
  | i + 1 => by
    obtain ⟨h1, h2, h3⟩ := cutS_le s i
    by_cases e : bn s i = 44
    · rw [cutS_hit e]
      refine ⟨by simp; omega, by show (0 : Nat) ≤ _; omega, fun x h => ?_⟩
      rcases List.mem_append.1 h with h | h
      · have := h3 x h; omega
      · simp at h; subst h; omega
    · rw [cutS_miss e]
      refine ⟨by show (cutS s i).1.length ≤ _; omega, ?_, fun x h => by have := h3 x h; omega⟩
      show ((cutS s i).2 ++ s.extract i (i + 1)).size ≤ _
      rw [ba_size_app, ByteArray.size_extract]; omega
theorem cutW_len (s : ByteArray) : (cutW s).length ≤ s.size + 1 := by
  have := (cutS_le s s.size).1
  unfold cutW
  simp; omega
theorem cutW_size {s x : ByteArray} (h : x ∈ cutW s) : x.size ≤ s.size := by
  obtain ⟨h1, h2, h3⟩ := cutS_le s s.size
  rcases List.mem_append.1 h with h | h
  · exact h3 x h
  · simp at h; subst h; exact h2

/-- Texts behind a slice's address. -/
def StrsAt (w : World) (A : Option Addr) (ws : List ByteArray) : Prop :=
  ws ≠ [] → ∃ g, A = some ⟨g, 0, none⟩ ∧ g < w.heap.size ∧ ∀ k, k < ws.length → w.cell? ⟨g, k, none⟩ = some (.string (ws.getD k ⟨#[]⟩))
theorem StrsAt.step {w w' : World} {A : Option Addr} {ws : List ByteArray} (h : StrsAt w A ws) {N : Nat} (hN : w.heap.size ≤ N) (d : Below N w w') : StrsAt w' A ws := fun hx => by
  obtain ⟨g, hA, hg, hc⟩ := h hx
  exact ⟨g, hA, by have := d.size; omega, fun k hk => (d.cell (p := ⟨g, k, none⟩) (show g < N by omega)).trans (hc k hk)⟩
theorem strs_of_row {w : World} {base n c : Nat} {e : TypeId} {A : Option Addr} {ws : List ByteArray} (h : w.ownsRow base e 1 (.slice A n c) n (ws.map Value.string)) : n = ws.length ∧ StrsAt w A ws := by
  have hl : n = ws.length := by have := h.1; simp at this; omega
  refine ⟨hl, fun hx => ?_⟩
  have hp := List.length_pos_iff.2 hx
  rcases h.2 with ⟨_, h0⟩ | ⟨g, cap, cur, hv, hb, hg, hnc, hcm, hcs, htk⟩
  · omega
  · injection hv with e1 e2 e3
    subst e1
    have hlt : g < w.heap.size := by
      rcases Nat.lt_or_ge g w.heap.size with hlt | hge
      · exact hlt
      · rw [Array.getElem?_eq_none hge] at hg; cases hg
    refine ⟨g, rfl, hlt, fun k hk => ?_⟩
    rw [cell_of_row w g k _ _ (0, 0) hg]
    have h1 : (cur.toList.take (n * 1))[k]? = (ws.map Value.string)[k]? := by rw [htk]
    rw [Nat.mul_one, List.getElem?_take_of_lt (by omega), List.getElem?_map, List.getElem?_eq_getElem hk, Array.getElem?_toList] at h1
    rw [h1]
    simp [List.getD_eq_getElem?_getD, hk]

set_option maxRecDepth 100000 in
set_option maxHeartbeats 1000000 in
theorem l2Cut_any (s : ByteArray) (hs : s.size ≤ 1048576) (w : World) :
    Calls Tryd.prog 28 #[.string s, .int .u8 44] w fun e w' => ∃ A c, e = .returned (.slice A (cutW s).length c) ∧ StrsAt w' A (cutW s) ∧ Below w.heap.size w w' := by
  obtain ⟨i0, hi, hz0, hz1, hz2⟩ := info_parts string_info
  have hs' : (s.size : Int) ≤ 1048576 := by omega
  go_enter Tryd.func28, Tryd.ntmps28
  go_wp2
  go_loopw [5, 6, 7] (fun v cur i wr => ∃ (k : Nat) (A : Option Addr) (c : Nat), k ≤ s.size ∧ i = .int .i64 k ∧ v = .slice A (cutS s k).1.length c ∧ cur = .string (cutS s k).2 ∧ wr.ownsRow w.heap.size 9 1 (.slice A (cutS s k).1.length c) (cutS s k).1.length ((cutS s k).1.map Value.string) ∧ Below w.heap.size w wr) (fun _ _ i _ => s.size - (intOf i).toNat)
  case atStart => exact ⟨0, _, _, by omega, rfl, rfl, rfl, World.ownsRow_lit _ #[] 0 (Nat.le_refl _) (by unfold maxLen; omega) rfl, below_alloc _ _⟩
  case round =>
    obtain ⟨k, A, c, hk, rfl, rfl, rfl, hown, hb⟩ := hrel
    obtain ⟨n1, n2, _⟩ := cutS_le s k
    have hbs := hb.size
    by_cases hlt : k < s.size
    · have hbn := bn_le s k
      have hg := get_bn s k hlt
      by_cases h44 : bn s k = 44
      · have P := Lib.hid (cutS_hit h44)
        generalize cutS s k = p at hown n1 n2 P ⊢
        obtain ⟨ws, cur⟩ := p
        simp only at hown n1 n2 P
        have h44' : ((bn s k : Nat) : Int) = 44 := by omega
        rw [h44] at hg
        clear h44
        go_wp2_with (at_builtin; refine wpList_push rfl _ _ _ 9 rfl i0 Tryd.underlying45 hi (.string ⟨#[]⟩) 16 hz0 hz1 hz2 rfl (by omega) rfl rfl rfl hown hb hbs (by omega) ?_; intro v' w' hown' hb' hsz'; obtain ⟨A', c', rfl⟩ := ownsRow_form hown')
        go_roundw
        case rel =>
          refine ⟨k + 1, A', c', by omega, by go_num, ?_, ?_, ?_, hb'⟩
          · rw [P.out, List.length_append]; rfl
          · rw [P.out]
          · rw [P.out, List.length_append, List.map_append]; exact hown'
        case measure => simp [intOf]; omega
      · have P := Lib.hid (cutS_miss h44)
        generalize cutS s k = p at hown n1 n2 P ⊢
        obtain ⟨ws, cur⟩ := p
        simp only at hown n1 n2 P
        have h44' : ¬ ((bn s k : Nat) : Int) = 44 := by omega
        have esz : (s.extract k (k + 1)).size ≤ 1 := by rw [ByteArray.size_extract]; omega
        clear h44
        go_wp2
        go_roundw
        case rel =>
          refine ⟨k + 1, A, c, by omega, by go_num, ?_, ?_, ?_, hb⟩
          · rw [P.out]
          · rw [P.out]
          · rw [P.out]; exact hown
        case measure => simp [intOf]; omega
    · obtain rfl : k = s.size := by omega
      have hw : cutW s = (cutS s s.size).1 ++ [(cutS s s.size).2] := rfl
      have HW := Lib.hid hw
      clear hw
      generalize cutS s s.size = p at hown n1 n2 HW ⊢
      obtain ⟨ws, cur⟩ := p
      simp only at hown n1 n2 HW
      go_wp2_with (at_builtin; refine wpList_push rfl _ _ _ 9 rfl i0 Tryd.underlying45 hi (.string ⟨#[]⟩) 16 hz0 hz1 hz2 rfl (by omega) rfl rfl rfl hown hb hbs (by omega) ?_; intro v' w' hown' hb' hsz'; obtain ⟨A', c', rfl⟩ := ownsRow_form hown')
      go_ret
      rw [HW.out]
      have hown2 : w'.ownsRow w.heap.size 9 1 (.slice A' (ws.length + 1) c') (ws.length + 1) ((ws ++ [cur]).map Value.string) := by rw [List.map_append]; exact hown'
      exact ⟨A', c', by rw [List.length_append]; rfl, (strs_of_row hown2).2, hb'⟩

/-- What l2Num answers. -/
noncomputable def numS (x : ByteArray) : Int := if parB x = true then parN x else -100000
set_option maxRecDepth 100000 in
set_option maxHeartbeats 400000 in
theorem l2Num_any (x : ByteArray) (hx : x.size ≤ 1048576) (w : World) :
    Calls Tryd.prog 30 #[.string x] w fun e w' => e = .returned (.int .i64 (numS x)) ∧ Below w.heap.size w w' := by
  have XI := Lib.hid (spec_ParseInt x hx w)
  cases hp : parB x
  · have E := Lib.hid (show numS x = -100000 by unfold numS; rw [hp]; rfl)
    rw [hp] at XI
    generalize parN x = n at XI
    rw [E.out]
    go_enter Tryd.func30, Tryd.ntmps30
    go_wp2_with (go_at_call 48; refine XI.out.mono ?_; rintro e u ⟨rfl, d⟩)
    go_ret
    exact ⟨rfl, d⟩
  · have E := Lib.hid (show numS x = parN x by unfold numS; rw [hp]; rfl)
    rw [hp] at XI
    generalize parN x = n at XI E
    rw [E.out]
    go_enter Tryd.func30, Tryd.ntmps30
    go_wp2_with (go_at_call 48; refine XI.out.mono ?_; rintro e u ⟨rfl, d⟩)
    go_ret
    exact ⟨rfl, d⟩
/-- What l2Rel answers. -/
noncomputable def relS (h : ByteArray) : Int := if 2 ≤ h.size ∧ bn h 0 = 114 then numS (h.extract 1 h.size) else -1
set_option maxRecDepth 100000 in
set_option maxHeartbeats 400000 in
theorem l2Rel_any (h : ByteArray) (hx : h.size ≤ 1048576) (w : World) :
    Calls Tryd.prog 29 #[.string h] w fun e w' => e = .returned (.int .i64 (relS h)) ∧ Below w.heap.size w w' := by
  have hs' : (h.size : Int) ≤ 1048576 := by omega
  by_cases h2 : 2 ≤ h.size
  · have hb := bn_le h 0
    have hg := get_bn h 0 (by omega)
    have hsz : (h.extract 1 h.size).size ≤ 1048576 := by rw [ByteArray.size_extract]; omega
    by_cases h0 : bn h 0 = 114
    · have E := Lib.hid (show relS h = numS (h.extract 1 h.size) from if_pos ⟨h2, h0⟩)
      rw [E.out]
      have h0' : ((bn h 0 : Nat) : Int) = 114 := by omega
      rw [h0] at hg
      have XN := Lib.hid (l2Num_any (h.extract 1 h.size) hsz)
      clear h0
      go_enter Tryd.func29, Tryd.ntmps29
      go_wp2_with (go_at_call 30; refine (XN.out _).mono ?_; rintro e u ⟨rfl, d⟩)
      go_ret
      exact ⟨rfl, d⟩
    · have E := Lib.hid (show relS h = -1 from if_neg fun e => h0 e.2)
      rw [E.out]
      have h0' : ¬ ((bn h 0 : Nat) : Int) = 114 := by omega
      have h0'' : (((bn h 0 : Nat) : Int) != 114) = true := by simp; omega
      go_enter Tryd.func29, Tryd.ntmps29
      go_wp2
      go_ret
      exact ⟨rfl, Below.refl _ _⟩
  · have E := Lib.hid (show relS h = -1 from if_neg fun e => h2 e.1)
    rw [E.out]
    go_enter Tryd.func29, Tryd.ntmps29
    go_wp2
    go_ret
    exact ⟨rfl, Below.refl _ _⟩
end Go.Proofs.YtenondgjipmhnaaDoor
