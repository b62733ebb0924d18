/- Texts that are joined out of words, and taken apart again: plain facts. Conditions: none beyond each theorem's own. -/
import Derived.Test.YtenondgjipmhnaaDoorHit
namespace Go.Proofs.YtenondgjipmhnaaDoor
open Go.ChangeShapes Go.WideShapes Go.ChangeAt Go.RowKit Go.Sort
set_option linter.unusedVariables false
set_option linter.unusedSimpArgs false

def mkB (l : List UInt8) : ByteArray := ⟨l.toArray⟩
theorem mkB_list (l : List UInt8) : (mkB l).data.toList = l := by simp [mkB]
theorem mkB_of (s : ByteArray) : mkB s.data.toList = s := ba_ext (by simp [mkB])
theorem mkB_size (l : List UInt8) : (mkB l).size = l.length := size_mk l

theorem occ_not {s t : List UInt8} {b : UInt8} {j : Nat} (h : s[j]? ≠ some b) : Lib.occAt s (b :: t) j = false := by
  unfold Lib.occAt
  cases hd : s.drop j with
  | nil => rfl
  | cons c r =>
    have hc : s[j]? = some c := by rw [← List.head?_drop, hd]; rfl
    rw [hc] at h
    have hne : ¬ b = c := fun e => h (by rw [e])
    simp [List.isPrefixOf, hne]
theorem getElem_not {p : List UInt8} {b : UInt8} (h : b ∉ p) (j : Nat) : p[j]? ≠ some b := fun e => h (List.mem_of_getElem? e)
theorem index_word {p r t : List UInt8} {b : UInt8} (h : b ∉ p) : Lib.index (p ++ ((b :: t) ++ r)) (b :: t) = (p.length : Int) := by
  refine Lib.index_first (by simp) ?_ fun j hj => occ_not ?_
  · unfold Lib.occAt
    rw [List.drop_left]
    exact List.isPrefixOf_iff_prefix.2 (List.prefix_append _ _)
  · rw [List.getElem?_append_left hj]
    exact getElem_not h j
theorem index_nope {p t : List UInt8} {b : UInt8} (h : b ∉ p) : Lib.index p (b :: t) = -1 :=
  Lib.index_none fun j _ => occ_not (getElem_not h j)
theorem join_two (w v : List UInt8) (r : List (List UInt8)) (sep : List UInt8) : Lib.join (w :: v :: r) sep = w ++ (sep ++ Lib.join (v :: r) sep) := by
  rw [Lib.join_cons, Lib.join_cons]
  simp [Lib.joinTail]
/-- A joined text falls into its words. -/
theorem split_join (b : UInt8) (t : List UInt8) : ∀ ws : List (List UInt8), ws ≠ [] → (∀ w ∈ ws, b ∉ w) →
    Lib.splitB (mkB (b :: t)) 0 (Lib.countB (mkB (Lib.join ws (b :: t))) (mkB (b :: t))) (mkB (Lib.join ws (b :: t))) = ws.map mkB
  | [], h, _ => absurd rfl h
  | [w], _, h => by
    have hi : Lib.indexB (mkB (Lib.join [w] (b :: t))) (mkB (b :: t)) = -1 := by
      show Lib.index (mkB (Lib.join [w] (b :: t))).data.toList (mkB (b :: t)).data.toList = -1
      rw [mkB_list, mkB_list, Lib.join_one]
      exact index_nope (h w (by simp))
    rw [Lib.splitB_miss _ _ _ _ hi, Lib.join_one]
    rfl
  | w :: v :: r, _, h => by
    have ih := split_join b t (v :: r) (by simp) fun x hx => h x (List.mem_cons_of_mem _ hx)
    have hi : Lib.indexB (mkB (Lib.join (w :: v :: r) (b :: t))) (mkB (b :: t)) = ((w.length : Nat) : Int) := by
      show Lib.index (mkB (Lib.join (w :: v :: r) (b :: t))).data.toList (mkB (b :: t)).data.toList = _
      rw [mkB_list, mkB_list, join_two]
      exact index_word (h w (by simp))
    have hs : (mkB (Lib.join (w :: v :: r) (b :: t))).extract (w.length + (mkB (b :: t)).size) (mkB (Lib.join (w :: v :: r) (b :: t))).size = mkB (Lib.join (v :: r) (b :: t)) := by
      rw [mkB_size, mkB_size, join_two]
      show (⟨(w ++ ((b :: t) ++ Lib.join (v :: r) (b :: t))).toArray⟩ : ByteArray).extract _ _ = _
      rw [extract_list, List.take_of_length_le (by simp; omega), List.drop_append, List.drop_eq_nil_of_le (by omega), Nat.add_sub_cancel_left, List.drop_left]
      rfl
    have h0 : (mkB (Lib.join (w :: v :: r) (b :: t))).extract 0 (w.length + 0) = mkB w := by
      rw [join_two]
      show (⟨(w ++ ((b :: t) ++ Lib.join (v :: r) (b :: t))).toArray⟩ : ByteArray).extract _ _ = _
      rw [extract_list, List.drop_zero, Nat.add_zero, Nat.sub_zero, List.take_left]
      rfl
    rw [Lib.countB_hit _ _ w.length (by rw [mkB_size]; simp) hi, hs, Nat.add_comm, Lib.splitB_hit _ _ _ _ w.length hi, hs, h0, ih]
    rfl
/-- The sizes of the words. -/
def szB (ws : List ByteArray) : Nat := (ws.map fun x => x.size + 1).sum
theorem szB_split (sep : ByteArray) (h1 : 1 ≤ sep.size) : ∀ (k : Nat) (s : ByteArray), szB (Lib.splitB sep 0 k s) ≤ s.size + 1
  | 0, s => by rw [Lib.splitB_zero]; simp [szB]
  | k + 1, s => by
    rcases Lib.indexB_cases s sep with h | ⟨i, h, hr⟩
    · rw [Lib.splitB_miss _ _ _ _ h]; simp [szB]
    · rw [Lib.splitB_hit _ _ _ _ i h]
      have ih := szB_split sep h1 k (s.extract (i + sep.size) s.size)
      rw [ByteArray.size_extract] at ih
      unfold szB at ih ⊢
      rw [List.map_cons, List.sum_cons, ByteArray.size_extract]
      omega

/-- One byte more; c parts the words. -/
def stepB (c : UInt8) (p : List ByteArray × ByteArray) (b : UInt8) : List ByteArray × ByteArray := if b = c then (p.1 ++ [p.2], ⟨#[]⟩) else (p.1, p.2 ++ ⟨#[b]⟩)
theorem ba_nil (s : ByteArray) : s ++ mkB [] = s := ba_ext (by simp [mkB])
theorem ba_assoc (s : ByteArray) (b : UInt8) (l : List UInt8) : (s ++ ⟨#[b]⟩) ++ mkB l = s ++ mkB (b :: l) := ba_ext (by simp [mkB])
theorem fold_word (c : UInt8) : ∀ (w : List UInt8) (p : List ByteArray × ByteArray), c ∉ w → w.foldl (stepB c) p = (p.1, p.2 ++ mkB w)
  | [], p, _ => by rw [ba_nil]; rfl
  | b :: w, p, h => by
    have hb : ¬ b = c := fun e => h (by rw [e]; simp)
    rw [List.foldl_cons, fold_word c w _ fun hm => h (List.mem_cons_of_mem _ hm)]
    unfold stepB
    rw [if_neg hb, ba_assoc]
theorem ba_nil' (s : ByteArray) : (⟨#[]⟩ : ByteArray) ++ s = s := ba_ext (by simp)
theorem fold_join (c : UInt8) : ∀ (ws : List (List UInt8)) (acc : List ByteArray), ws ≠ [] → (∀ w ∈ ws, c ∉ w) →
    ((Lib.join ws [c]).foldl (stepB c) (acc, ⟨#[]⟩)).1 ++ [((Lib.join ws [c]).foldl (stepB c) (acc, ⟨#[]⟩)).2] = acc ++ ws.map mkB
  | [], _, h, _ => absurd rfl h
  | [w], acc, _, h => by
    rw [Lib.join_one, fold_word c w _ (h w (by simp)), ba_nil']
    rfl
  | w :: v :: r, acc, _, h => by
    have ih := fold_join c (v :: r) (acc ++ [mkB w]) (by simp) fun x hx => h x (List.mem_cons_of_mem _ hx)
    have e : (Lib.join (w :: v :: r) [c]).foldl (stepB c) (acc, ⟨#[]⟩) = (Lib.join (v :: r) [c]).foldl (stepB c) (acc ++ [mkB w], ⟨#[]⟩) := by
      rw [join_two, List.foldl_append, List.foldl_append, fold_word c w _ (h w (by simp)), ba_nil']
      show List.foldl (stepB c) (stepB c (acc, mkB w) c) _ = _
      unfold stepB
      rw [if_pos rfl]
    rw [e, ih]
    simp
theorem cutW_join {ws : List (List UInt8)} (h : ws ≠ []) (h2 : ∀ w ∈ ws, (44 : UInt8) ∉ w) : cutW (mkB (Lib.join ws [44])) = ws.map mkB := by
  have e := fold_join 44 ws [] h h2
  unfold cutW
  rw [mkB_size]
  show (cutS ⟨(Lib.join ws [44]).toArray⟩ _).1 ++ [(cutS ⟨(Lib.join ws [44]).toArray⟩ _).2] = _
  rw [cutS_fold _ _ (Nat.le_refl _), List.take_length]
  exact e
theorem wordsI_join {ws : List (List UInt8)} (h : ws ≠ []) (h2 : ∀ w ∈ ws, (44 : UInt8) ∉ w) : wordsI (mkB (Lib.join ws [44])) = ws.map mkB := split_join 44 [] ws h h2
end Go.Proofs.YtenondgjipmhnaaDoor
