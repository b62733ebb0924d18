/- What the model's l2Cut answers at a space. Conditions: none beyond each theorem's own. -/
import Derived.Test.YtenondgjipmhnaaDoorJoin
namespace Go.Proofs.YtenondgjipmhnaaDoor
open Go.ChangeShapes Go.WideShapes Go.ChangeAt Go.RowKit Go.Sort
set_option linter.unusedVariables false
set_option linter.unusedSimpArgs false

/-- The words before byte i, and the one that is under way. -/
def cutP (s : ByteArray) : Nat → List ByteArray × ByteArray
  | 0 => ([], ⟨#[]⟩)
  | i + 1 => if bn s i = 32 then ((cutP s i).1 ++ [(cutP s i).2], ⟨#[]⟩) else ((cutP s i).1, (cutP s i).2 ++ s.extract i (i + 1))
def cutQ (s : ByteArray) : List ByteArray := (cutP s s.size).1 ++ [(cutP s s.size).2]
theorem cutP_hit {s : ByteArray} {i : Nat} (h : bn s i = 32) : cutP s (i + 1) = ((cutP s i).1 ++ [(cutP s i).2], ⟨#[]⟩) := if_pos h
theorem cutP_miss {s : ByteArray} {i : Nat} (h : ¬ bn s i = 32) : cutP s (i + 1) = ((cutP s i).1, (cutP s i).2 ++ s.extract i (i + 1)) := if_neg h
theorem cutP_le (s : ByteArray) : ∀ i, (cutP s i).1.length ≤ i ∧ (cutP s i).2.size ≤ i ∧ ∀ x ∈ (cutP s i).1, x.size ≤ i
  | 0 => ⟨Nat.le_refl _, Nat.le_refl _, fun x h => by simp [cutP] at h⟩
  | i + 1 => by
    obtain ⟨h1, h2, h3⟩ := cutP_le s i
    by_cases e : bn s i = 32
    · rw [cutP_hit e]
      refine ⟨by simp; omega, by show (0 : Nat) ≤ _; omega, fun x h => ?_⟩
      rcases List.mem_append.1 h with h | h
      · have := h3 x h; omega
      · simp at h; subst h; omega
    · rw [cutP_miss e]
      refine ⟨by show (cutP s i).1.length ≤ _; omega, ?_, fun x h => by have := h3 x h; omega⟩
      show ((cutP s i).2 ++ s.extract i (i + 1)).size ≤ _
      rw [ba_size_app, ByteArray.size_extract]; omega
theorem cutQ_len (s : ByteArray) : (cutQ s).length ≤ s.size + 1 := by
  have := (cutP_le s s.size).1
  unfold cutQ
  simp; omega
theorem cutQ_size {s x : ByteArray} (h : x ∈ cutQ s) : x.size ≤ s.size := by
  obtain ⟨h1, h2, h3⟩ := cutP_le s s.size
  rcases List.mem_append.1 h with h | h
  · exact h3 x h
  · simp at h; subst h; exact h2

set_option maxRecDepth 100000 in
set_option maxHeartbeats 1000000 in
theorem l2CutQ_any (s : ByteArray) (hs : s.size ≤ 1048576) (w : World) :
    Calls Tryd.prog 28 #[.string s, .int .u8 32] w fun e w' => ∃ A c, e = .returned (.slice A (cutQ s).length c) ∧ StrsAt w' A (cutQ s) ∧ Below w.heap.size w w' := by
  obtain ⟨i0, hi, hz0, hz1, hz2⟩ := info_parts string_info
  have hs' : (s.size : Int) ≤ 1048576 := by omega
  go_enter Tryd.func28, Tryd.ntmps28
  go_wp2
  go_loopw [5, 6, 7] (fun v cur i wr => ∃ (k : Nat) (A : Option Addr) (c : Nat), k ≤ s.size ∧ i = .int .i64 k ∧ v = .slice A (cutP s k).1.length c ∧ cur = .string (cutP s k).2 ∧ wr.ownsRow w.heap.size 9 1 (.slice A (cutP s k).1.length c) (cutP s k).1.length ((cutP s k).1.map Value.string) ∧ Below w.heap.size w wr) (fun _ _ i _ => s.size - (intOf i).toNat)
  case atStart => exact ⟨0, _, _, by omega, rfl, rfl, rfl, World.ownsRow_lit _ #[] 0 (Nat.le_refl _) (by unfold maxLen; omega) rfl, below_alloc _ _⟩
  case round =>
    obtain ⟨k, A, c, hk, rfl, rfl, rfl, hown, hb⟩ := hrel
    obtain ⟨n1, n2, _⟩ := cutP_le s k
    have hbs := hb.size
    by_cases hlt : k < s.size
    · have hbn := bn_le s k
      have hg := get_bn s k hlt
      by_cases h32 : bn s k = 32
      · have P := Lib.hid (cutP_hit h32)
        generalize cutP s k = p at hown n1 n2 P ⊢
        obtain ⟨ws, cur⟩ := p
        simp only at hown n1 n2 P
        have h32' : ((bn s k : Nat) : Int) = 32 := by omega
        rw [h32] at hg
        clear h32
        go_wp2_with (at_builtin; refine wpList_push rfl _ _ _ 9 rfl i0 Tryd.underlying45 hi (.string ⟨#[]⟩) 16 hz0 hz1 hz2 rfl (by omega) rfl rfl rfl hown hb hbs (by omega) ?_; intro v' w' hown' hb' hsz'; obtain ⟨A', c', rfl⟩ := ownsRow_form hown')
        go_roundw
        case rel =>
          refine ⟨k + 1, A', c', by omega, by go_num, ?_, ?_, ?_, hb'⟩
          · rw [P.out, List.length_append]; rfl
          · rw [P.out]
          · rw [P.out, List.length_append, List.map_append]; exact hown'
        case measure => simp [intOf]; omega
      · have P := Lib.hid (cutP_miss h32)
        generalize cutP s k = p at hown n1 n2 P ⊢
        obtain ⟨ws, cur⟩ := p
        simp only at hown n1 n2 P
        have h32' : ¬ ((bn s k : Nat) : Int) = 32 := by omega
        have esz : (s.extract k (k + 1)).size ≤ 1 := by rw [ByteArray.size_extract]; omega
        clear h32
        go_wp2
        go_roundw
        case rel =>
          refine ⟨k + 1, A, c, by omega, by go_num, ?_, ?_, ?_, hb⟩
          · rw [P.out]
          · rw [P.out]
          · rw [P.out]; exact hown
        case measure => simp [intOf]; omega
    · obtain rfl : k = s.size := by omega
      have hw : cutQ s = (cutP s s.size).1 ++ [(cutP s s.size).2] := rfl
      have HW := Lib.hid hw
      clear hw
      generalize cutP s s.size = p at hown n1 n2 HW ⊢
      obtain ⟨ws, cur⟩ := p
      simp only at hown n1 n2 HW
      go_wp2_with (at_builtin; refine wpList_push rfl _ _ _ 9 rfl i0 Tryd.underlying45 hi (.string ⟨#[]⟩) 16 hz0 hz1 hz2 rfl (by omega) rfl rfl rfl hown hb hbs (by omega) ?_; intro v' w' hown' hb' hsz'; obtain ⟨A', c', rfl⟩ := ownsRow_form hown')
      go_ret
      rw [HW.out]
      have hown2 : w'.ownsRow w.heap.size 9 1 (.slice A' (ws.length + 1) c') (ws.length + 1) ((ws ++ [cur]).map Value.string) := by rw [List.map_append]; exact hown'
      exact ⟨A', c', by rw [List.length_append]; rfl, (strs_of_row hown2).2, hb'⟩


theorem cutP_fold (L : List UInt8) : ∀ i, i ≤ L.length → cutP ⟨L.toArray⟩ i = (L.take i).foldl (stepB 32) ([], ⟨#[]⟩)
  | 0, _ => rfl
  | i + 1, h => by
    have ih := cutP_fold L i (by omega)
    have hb : bn ⟨L.toArray⟩ i = (L[i]'(by omega)).toNat := by rw [bn_mk, List.getElem?_eq_getElem (by omega)]; rfl
    rw [List.take_succ_eq_append_getElem (by omega), List.foldl_append, ← ih]
    show _ = stepB 32 _ _
    by_cases e : L[i]'(by omega) = 32
    · rw [cutP_hit (by rw [hb, e]; rfl)]
      unfold stepB
      rw [if_pos e]
    · rw [cutP_miss (by rw [hb]; intro h; exact e (UInt8.toNat_inj.1 h))]
      unfold stepB
      rw [if_neg e, extract_list]
      have : (L.drop i).take (i + 1 - i) = [L[i]'(by omega)] := by
        rw [show i + 1 - i = 1 by omega, List.drop_eq_getElem_cons (by omega)]
        rfl
      rw [this]
theorem cutQ_join {ws : List (List UInt8)} (h : ws ≠ []) (h2 : ∀ w ∈ ws, (32 : UInt8) ∉ w) : cutQ (mkB (Lib.join ws [32])) = ws.map mkB := by
  have e := fold_join 32 ws [] h h2
  unfold cutQ
  rw [mkB_size]
  show (cutP ⟨(Lib.join ws [32]).toArray⟩ _).1 ++ [(cutP ⟨(Lib.join ws [32]).toArray⟩ _).2] = _
  rw [cutP_fold _ _ (Nat.le_refl _), List.take_length]
  exact e
theorem szB_snoc (l : List ByteArray) (x : ByteArray) : szB (l ++ [x]) = szB l + (x.size + 1) := by simp [szB]
theorem szB_cutP (s : ByteArray) : ∀ i, szB (cutP s i).1 + (cutP s i).2.size ≤ i
  | 0 => Nat.le_refl 0
  | i + 1 => by
    have ih := szB_cutP s i
    by_cases e : bn s i = 32
    · rw [cutP_hit e]
      show szB ((cutP s i).1 ++ [(cutP s i).2]) + (⟨#[]⟩ : ByteArray).size ≤ _
      rw [szB_snoc]
      show _ + 0 ≤ _
      omega
    · rw [cutP_miss e]
      show szB (cutP s i).1 + ((cutP s i).2 ++ s.extract i (i + 1)).size ≤ _
      rw [ba_size_app, ByteArray.size_extract]; omega
theorem szB_cutQ (s : ByteArray) : szB (cutQ s) ≤ s.size + 1 := by
  have := szB_cutP s s.size
  unfold cutQ
  rw [szB_snoc]
  omega
theorem cutQ_ne (s : ByteArray) : cutQ s ≠ [] := by unfold cutQ; simp
end Go.Proofs.YtenondgjipmhnaaDoor
