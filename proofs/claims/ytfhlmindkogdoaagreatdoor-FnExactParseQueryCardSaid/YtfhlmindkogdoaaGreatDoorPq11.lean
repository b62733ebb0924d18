/- Texts that are joined out of words, and taken apart again: plain facts. Conditions: none beyond each theorem's own. What the model's l2Cut answers at a space. Conditions: none beyond each theorem's own. What the two functions IsQuery answer. Conditions: none beyond each theorem's own. The texts of queries, parsed both ways: plain facts. Conditions: none beyond each theorem's own. -/
import Derived.Test.YtfhlmindkogdoaaGreatDoorPq5
import Derived.Test.YtfhlmindkogdoaaGreatDoorPq10

namespace Go.Proofs.YtfhlmindkogdoaaGreatDoor
open Go.ChangeShapes Go.WideShapes Go.ChangeAt Go.RowKit Go.Sort
set_option linter.unusedVariables false
set_option linter.unusedSimpArgs false

def mkB (l : List UInt8) : ByteArray := ⟨l.toArray⟩
theorem mkB_list (l : List UInt8) : (mkB l).data.toList = l := by simp [mkB]
theorem mkB_of (s : ByteArray) : mkB s.data.toList = s := ba_ext (by simp [mkB])
theorem mkB_size (l : List UInt8) : (mkB l).size = l.length := size_mk l

theorem occ_not {s t : List UInt8} {b : UInt8} {j : Nat} (h : s[j]? ≠ some b) : Lib.occAt s (b :: t) j = false := by
  unfold Lib.occAt
  cases hd : s.drop j with
  | nil => rfl
  | cons c r =>
    have hc : s[j]? = some c := by rw [← List.head?_drop, hd]; rfl
    rw [hc] at h
    have hne : ¬ b = c := fun e => h (by rw [e])
    simp [List.isPrefixOf, hne]
theorem getElem_not {p : List UInt8} {b : UInt8} (h : b ∉ p) (j : Nat) : p[j]? ≠ some b := fun e => h (List.mem_of_getElem? e)
theorem index_word {p r t : List UInt8} {b : UInt8} (h : b ∉ p) : Lib.index (p ++ ((b :: t) ++ r)) (b :: t) = (p.length : Int) := by
  refine Lib.index_first (by simp) ?_ fun j hj => occ_not ?_
  · unfold Lib.occAt
    rw [List.drop_left]
    exact List.isPrefixOf_iff_prefix.2 (List.prefix_append _ _)
  · rw [List.getElem?_append_left hj]
    exact getElem_not h j
theorem index_nope {p t : List UInt8} {b : UInt8} (h : b ∉ p) : Lib.index p (b :: t) = -1 :=
  Lib.index_none fun j _ => occ_not (getElem_not h j)
theorem join_two (w v : List UInt8) (r : List (List UInt8)) (sep : List UInt8) : Lib.join (w :: v :: r) sep = w ++ (sep ++ Lib.join (v :: r) sep) := by
  rw [Lib.join_cons, Lib.join_cons]
  simp [Lib.joinTail]
/-- A joined text falls into its words. -/
theorem split_join (b : UInt8) (t : List UInt8) : ∀ ws : List (List UInt8), ws ≠ [] → (∀ w ∈ ws, b ∉ w) →
    Lib.splitB (mkB (b :: t)) 0 (Lib.countB (mkB (Lib.join ws (b :: t))) (mkB (b :: t))) (mkB (Lib.join ws (b :: t))) = ws.map mkB
  | [], h, _ => absurd rfl h
  | [w], _, h => by
    have hi : Lib.indexB (mkB (Lib.join [w] (b :: t))) (mkB (b :: t)) = -1 := by
      show Lib.index (mkB (Lib.join [w] (b :: t))).data.toList (mkB (b :: t)).data.toList = -1
      rw [mkB_list, mkB_list, Lib.join_one]
      exact index_nope (h w (by simp))
    rw [Lib.splitB_miss _ _ _ _ hi, Lib.join_one]
    rfl
  | w :: v :: r, _, h => by
    have ih := split_join b t (v :: r) (by simp) fun x hx => h x (List.mem_cons_of_mem _ hx)
    have hi : Lib.indexB (mkB (Lib.join (w :: v :: r) (b :: t))) (mkB (b :: t)) = ((w.length : Nat) : Int) := by
      show Lib.index (mkB (Lib.join (w :: v :: r) (b :: t))).data.toList (mkB (b :: t)).data.toList = _
      rw [mkB_list, mkB_list, join_two]
      exact index_word (h w (by simp))
    have hs : (mkB (Lib.join (w :: v :: r) (b :: t))).extract (w.length + (mkB (b :: t)).size) (mkB (Lib.join (w :: v :: r) (b :: t))).size = mkB (Lib.join (v :: r) (b :: t)) := by
      rw [mkB_size, mkB_size, join_two]
      show (⟨(w ++ ((b :: t) ++ Lib.join (v :: r) (b :: t))).toArray⟩ : ByteArray).extract _ _ = _
      rw [extract_list, List.take_of_length_le (by simp; omega), List.drop_append, List.drop_eq_nil_of_le (by omega), Nat.add_sub_cancel_left, List.drop_left]
      rfl
    have h0 : (mkB (Lib.join (w :: v :: r) (b :: t))).extract 0 (w.length + 0) = mkB w := by
      rw [join_two]
      show (⟨(w ++ ((b :: t) ++ Lib.join (v :: r) (b :: t))).toArray⟩ : ByteArray).extract _ _ = _
      rw [extract_list, List.drop_zero, Nat.add_zero, Nat.sub_zero, List.take_left]
      rfl
    rw [Lib.countB_hit _ _ w.length (by rw [mkB_size]; simp) hi, hs, Nat.add_comm, Lib.splitB_hit _ _ _ _ w.length hi, hs, h0, ih]
    rfl
/-- The sizes of the words. -/
def szB (ws : List ByteArray) : Nat := (ws.map fun x => x.size + 1).sum
theorem szB_split (sep : ByteArray) (h1 : 1 ≤ sep.size) : ∀ (k : Nat) (s : ByteArray), szB (Lib.splitB sep 0 k s) ≤ s.size + 1
  | 0, s => by rw [Lib.splitB_zero]; simp [szB]
  | k + 1, s => by
    rcases Lib.indexB_cases s sep with h | ⟨i, h, hr⟩
    · rw [Lib.splitB_miss _ _ _ _ h]; simp [szB]
    · rw [Lib.splitB_hit _ _ _ _ i h]
      have ih := szB_split sep h1 k (s.extract (i + sep.size) s.size)
      rw [ByteArray.size_extract] at ih
      unfold szB at ih ⊢
      rw [List.map_cons, List.sum_cons, ByteArray.size_extract]
      omega

/-- One byte more; c parts the words. -/
def stepB (c : UInt8) (p : List ByteArray × ByteArray) (b : UInt8) : List ByteArray × ByteArray := if b = c then (p.1 ++ [p.2], ⟨#[]⟩) else (p.1, p.2 ++ ⟨#[b]⟩)
theorem ba_nil (s : ByteArray) : s ++ mkB [] = s := ba_ext (by simp [mkB])
theorem ba_assoc (s : ByteArray) (b : UInt8) (l : List UInt8) : (s ++ ⟨#[b]⟩) ++ mkB l = s ++ mkB (b :: l) := ba_ext (by simp [mkB])
theorem fold_word (c : UInt8) : ∀ (w : List UInt8) (p : List ByteArray × ByteArray), c ∉ w → w.foldl (stepB c) p = (p.1, p.2 ++ mkB w)
  | [], p, _ => by rw [ba_nil]; rfl
  | b :: w, p, h => by
    have hb : ¬ b = c := fun e => h (by rw [e]; simp)
    rw [List.foldl_cons, fold_word c w _ fun hm => h (List.mem_cons_of_mem _ hm)]
    unfold stepB
    rw [if_neg hb, ba_assoc]
theorem ba_nil' (s : ByteArray) : (⟨#[]⟩ : ByteArray) ++ s = s := ba_ext (by simp)
theorem fold_join (c : UInt8) : ∀ (ws : List (List UInt8)) (acc : List ByteArray), ws ≠ [] → (∀ w ∈ ws, c ∉ w) →
    ((Lib.join ws [c]).foldl (stepB c) (acc, ⟨#[]⟩)).1 ++ [((Lib.join ws [c]).foldl (stepB c) (acc, ⟨#[]⟩)).2] = acc ++ ws.map mkB
  | [], _, h, _ => absurd rfl h
  | [w], acc, _, h => by
    rw [Lib.join_one, fold_word c w _ (h w (by simp)), ba_nil']
    rfl
  | w :: v :: r, acc, _, h => by
    have ih := fold_join c (v :: r) (acc ++ [mkB w]) (by simp) fun x hx => h x (List.mem_cons_of_mem _ hx)
    have e : (Lib.join (w :: v :: r) [c]).foldl (stepB c) (acc, ⟨#[]⟩) = (Lib.join (v :: r) [c]).foldl (stepB c) (acc ++ [mkB w], ⟨#[]⟩) := by
      rw [join_two, List.foldl_append, List.foldl_append, fold_word c w _ (h w (by simp)), ba_nil']
      show List.foldl (stepB c) (stepB c (acc, mkB w) c) _ = _
      unfold stepB
      rw [if_pos rfl]
    rw [e, ih]
    simp
theorem cutW_join {ws : List (List UInt8)} (h : ws ≠ []) (h2 : ∀ w ∈ ws, (44 : UInt8) ∉ w) : cutW (mkB (Lib.join ws [44])) = ws.map mkB := by
  have e := fold_join 44 ws [] h h2
  unfold cutW
  rw [mkB_size]
  show (cutS ⟨(Lib.join ws [44]).toArray⟩ _).1 ++ [(cutS ⟨(Lib.join ws [44]).toArray⟩ _).2] = _
  rw [cutS_fold _ _ (Nat.le_refl _), List.take_length]
  exact e
theorem wordsI_join {ws : List (List UInt8)} (h : ws ≠ []) (h2 : ∀ w ∈ ws, (44 : UInt8) ∉ w) : wordsI (mkB (Lib.join ws [44])) = ws.map mkB := split_join 44 [] ws h h2
end Go.Proofs.YtfhlmindkogdoaaGreatDoor

namespace Go.Proofs.YtfhlmindkogdoaaGreatDoor
open Go.ChangeShapes Go.WideShapes Go.ChangeAt Go.RowKit Go.Sort
set_option linter.unusedVariables false
set_option linter.unusedSimpArgs false

/-- The words before byte i, and the one that is under way. -/
def cutP (s : ByteArray) : Nat → List ByteArray × ByteArray
  | 0 => ([], ⟨#[]⟩)
  | i + 1 => if bn s i = 32 then ((cutP s i).1 ++ [(cutP s i).2], ⟨#[]⟩) else ((cutP s i).1, (cutP s i).2 ++ s.extract i (i + 1))
def cutQ (s : ByteArray) : List ByteArray := (cutP s s.size).1 ++ [(cutP s s.size).2]
theorem cutP_hit {s : ByteArray} {i : Nat} (h : bn s i = 32) : cutP s (i + 1) = ((cutP s i).1 ++ [(cutP s i).2], ⟨#[]⟩) := if_pos h
theorem cutP_miss {s : ByteArray} {i : Nat} (h : ¬ bn s i = 32) : cutP s (i + 1) = ((cutP s i).1, (cutP s i).2 ++ s.extract i (i + 1)) := if_neg h
theorem cutP_le (s : ByteArray) : ∀ i, (cutP s i).1.length ≤ i ∧ (cutP s i).2.size ≤ i ∧ ∀ x ∈ (cutP s i).1, x.size ≤ i
  | 0 => ⟨Nat.le_refl _, Nat.le_refl _, fun x h => by simp [cutP] at h⟩
  | i + 1 => by
    obtain ⟨h1, h2, h3⟩ := cutP_le s i
    by_cases e : bn s i = 32
    · rw [cutP_hit e]
      refine ⟨by simp; omega, by show (0 : Nat) ≤ _; omega, fun x h => ?_⟩
      rcases List.mem_append.1 h with h | h
      · have := h3 x h; omega
      · simp at h; subst h; omega
    · rw [cutP_miss e]
      refine ⟨by show (cutP s i).1.length ≤ _; omega, ?_, fun x h => by have := h3 x h; omega⟩
      show ((cutP s i).2 ++ s.extract i (i + 1)).size ≤ _
      rw [ba_size_app, ByteArray.size_extract]; omega
theorem cutQ_len (s : ByteArray) : (cutQ s).length ≤ s.size + 1 := by
  have := (cutP_le s s.size).1
  unfold cutQ
  simp; omega
theorem cutQ_size {s x : ByteArray} (h : x ∈ cutQ s) : x.size ≤ s.size := by
  obtain ⟨h1, h2, h3⟩ := cutP_le s s.size
  rcases List.mem_append.1 h with h | h
  · exact h3 x h
  · simp at h; subst h; exact h2

set_option maxRecDepth 100000 in
set_option maxHeartbeats 1000000 in
theorem l2CutQ_any (s : ByteArray) (hs : s.size ≤ 1048576) (w : World) :
    Calls Tryz.prog 58 #[.string s, .int .u8 32] w fun e w' => ∃ A c, e = .returned (.slice A (cutQ s).length c) ∧ StrsAt w' A (cutQ s) ∧ Below w.heap.size w w' := by
  obtain ⟨i0, hi, hz0, hz1, hz2⟩ := info_parts string_info
  have hs' : (s.size : Int) ≤ 1048576 := by omega
  go_enter Tryz.func58, Tryz.ntmps58
  go_wp2
  go_loopw [5, 6, 7] (fun v cur i wr => ∃ (k : Nat) (A : Option Addr) (c : Nat), k ≤ s.size ∧ i = .int .i64 k ∧ v = .slice A (cutP s k).1.length c ∧ cur = .string (cutP s k).2 ∧ wr.ownsRow w.heap.size 9 1 (.slice A (cutP s k).1.length c) (cutP s k).1.length ((cutP s k).1.map Value.string) ∧ Below w.heap.size w wr) (fun _ _ i _ => s.size - (intOf i).toNat)
  case atStart => exact ⟨0, _, _, by omega, rfl, rfl, rfl, World.ownsRow_lit _ #[] 0 (Nat.le_refl _) (by unfold maxLen; omega) rfl, below_alloc _ _⟩
  case round =>
    obtain ⟨k, A, c, hk, rfl, rfl, rfl, hown, hb⟩ := hrel
    obtain ⟨n1, n2, _⟩ := cutP_le s k
    have hbs := hb.size
    by_cases hlt : k < s.size
    · have hbn := bn_le s k
      have hg := get_bn s k hlt
      by_cases h32 : bn s k = 32
      · have P := Lib.hid (cutP_hit h32)
        generalize cutP s k = p at hown n1 n2 P ⊢
        obtain ⟨ws, cur⟩ := p
        simp only at hown n1 n2 P
        have h32' : ((bn s k : Nat) : Int) = 32 := by omega
        rw [h32] at hg
        clear h32
        go_wp2_with (at_builtin; refine wpList_push rfl _ _ _ 9 rfl i0 Tryz.underlying57 hi (.string ⟨#[]⟩) 16 hz0 hz1 hz2 rfl (by omega) rfl rfl rfl hown hb hbs (by omega) ?_; intro v' w' hown' hb' hsz'; obtain ⟨A', c', rfl⟩ := ownsRow_form hown')
        go_roundw
        case rel =>
          refine ⟨k + 1, A', c', by omega, by go_num, ?_, ?_, ?_, hb'⟩
          · rw [P.out, List.length_append]; rfl
          · rw [P.out]
          · rw [P.out, List.length_append, List.map_append]; exact hown'
        case measure => simp [intOf]; omega
      · have P := Lib.hid (cutP_miss h32)
        generalize cutP s k = p at hown n1 n2 P ⊢
        obtain ⟨ws, cur⟩ := p
        simp only at hown n1 n2 P
        have h32' : ¬ ((bn s k : Nat) : Int) = 32 := by omega
        have esz : (s.extract k (k + 1)).size ≤ 1 := by rw [ByteArray.size_extract]; omega
        clear h32
        go_wp2
        go_roundw
        case rel =>
          refine ⟨k + 1, A, c, by omega, by go_num, ?_, ?_, ?_, hb⟩
          · rw [P.out]
          · rw [P.out]
          · rw [P.out]; exact hown
        case measure => simp [intOf]; omega
    · obtain rfl : k = s.size := by omega
      have hw : cutQ s = (cutP s s.size).1 ++ [(cutP s s.size).2] := rfl
      have HW := Lib.hid hw
      clear hw
      generalize cutP s s.size = p at hown n1 n2 HW ⊢
      obtain ⟨ws, cur⟩ := p
      simp only at hown n1 n2 HW
      go_wp2_with (at_builtin; refine wpList_push rfl _ _ _ 9 rfl i0 Tryz.underlying57 hi (.string ⟨#[]⟩) 16 hz0 hz1 hz2 rfl (by omega) rfl rfl rfl hown hb hbs (by omega) ?_; intro v' w' hown' hb' hsz'; obtain ⟨A', c', rfl⟩ := ownsRow_form hown')
      go_ret
      rw [HW.out]
      have hown2 : w'.ownsRow w.heap.size 9 1 (.slice A' (ws.length + 1) c') (ws.length + 1) ((ws ++ [cur]).map Value.string) := by rw [List.map_append]; exact hown'
      exact ⟨A', c', by rw [List.length_append]; rfl, (strs_of_row hown2).2, hb'⟩


theorem cutP_fold (L : List UInt8) : ∀ i, i ≤ L.length → cutP ⟨L.toArray⟩ i = (L.take i).foldl (stepB 32) ([], ⟨#[]⟩)
  | 0, _ => rfl
  | i + 1, h => by
    have ih := cutP_fold L i (by omega)
    have hb : bn ⟨L.toArray⟩ i = (L[i]'(by omega)).toNat := by rw [bn_mk, List.getElem?_eq_getElem (by omega)]; rfl
    rw [List.take_succ_eq_append_getElem (by omega), List.foldl_append, ← ih]
    show _ = stepB 32 _ _
    by_cases e : L[i]'(by omega) = 32
    · rw [cutP_hit (by rw [hb, e]; rfl)]
      unfold stepB
      rw [if_pos e]
    · rw [cutP_miss (by rw [hb]; intro h; exact e (UInt8.toNat_inj.1 h))]
      unfold stepB
      rw [if_neg e, extract_list]
      have : (L.drop i).take (i + 1 - i) = [L[i]'(by omega)] := by
        rw [show i + 1 - i = 1 by omega, List.drop_eq_getElem_cons (by omega)]
        rfl
      rw [this]
theorem cutQ_join {ws : List (List UInt8)} (h : ws ≠ []) (h2 : ∀ w ∈ ws, (32 : UInt8) ∉ w) : cutQ (mkB (Lib.join ws [32])) = ws.map mkB := by
  have e := fold_join 32 ws [] h h2
  unfold cutQ
  rw [mkB_size]
  show (cutP ⟨(Lib.join ws [32]).toArray⟩ _).1 ++ [(cutP ⟨(Lib.join ws [32]).toArray⟩ _).2] = _
  rw [cutP_fold _ _ (Nat.le_refl _), List.take_length]
  exact e
theorem szB_snoc (l : List ByteArray) (x : ByteArray) : szB (l ++ [x]) = szB l + (x.size + 1) := by simp [szB]
theorem szB_cutP (s : ByteArray) : ∀ i, szB (cutP s i).1 + (cutP s i).2.size ≤ i
  | 0 => Nat.le_refl 0
  | i + 1 => by
    have ih := szB_cutP s i
    by_cases e : bn s i = 32
    · rw [cutP_hit e]
      show szB ((cutP s i).1 ++ [(cutP s i).2]) + (⟨#[]⟩ : ByteArray).size ≤ _
      rw [szB_snoc]
      show _ + 0 ≤ _
      omega
    · rw [cutP_miss e]
      show szB (cutP s i).1 + ((cutP s i).2 ++ s.extract i (i + 1)).size ≤ _
      rw [ba_size_app, ByteArray.size_extract]; omega
theorem szB_cutQ (s : ByteArray) : szB (cutQ s) ≤ s.size + 1 := by
  have := szB_cutP s s.size
  unfold cutQ
  rw [szB_snoc]
  omega
theorem cutQ_ne (s : ByteArray) : cutQ s ≠ [] := by unfold cutQ; simp
end Go.Proofs.YtfhlmindkogdoaaGreatDoor

namespace Go.Proofs.YtfhlmindkogdoaaGreatDoor
open Go.ChangeShapes Go.WideShapes Go.ChangeAt Go.RowKit Go.Sort
open Go.Proofs.YtfhlmindkogdoaaGreatDoor.atom
set_option linter.unusedVariables false
set_option linter.unusedSimpArgs false

/-- Are all of l atoms of the schema s? -/
def atomsB (s : List Int) (l : FL) : Bool := l.all fun f => atom.factB s f.1 f.2
theorem atomsB_take (s : List Int) (l : FL) (k : Nat) (hk : k < l.length) {r : Int} {xs : List Int} (hf : l.getD k (0, []) = (r, xs)) : atomsB s (l.take (k + 1)) = (atomsB s (l.take k) && atom.factB s r xs) := by
  unfold atomsB
  rw [List.take_succ_eq_append_getElem hk, List.all_append]
  have : l[k] = l.getD k (0, []) := by simp [List.getD_eq_getElem?_getD, hk]
  rw [this, hf]
  simp
theorem atomsB_not (s : List Int) (l : FL) (k : Nat) (hk : k < l.length) {r : Int} {xs : List Int} (hf : l.getD k (0, []) = (r, xs)) (h : atom.factB s r xs = false) : atomsB s l = false := by
  unfold atomsB
  rw [List.all_eq_false]
  refine ⟨l[k], List.getElem_mem _, ?_⟩
  have : l.getD k (0, []) = l[k] := by simp [List.getD_eq_getElem?_getD, hk]
  rw [← this, hf]
  simp [h]
/-- Is (hs, l) a query of the schema s? -/
def queryB (s hs : List Int) (l : FL) : Bool := atomsB s l && inAll (wl 10 17 (terms l)) hs && schB s && inB (l.length : Int) 1 4 && decide (hs.length ≤ 3)
theorem atomsB_sch {s : List Int} {l : FL} (h : atomsB s l = true) (hl : 0 < l.length) : schB s = true := by
  unfold atomsB at h
  rw [List.all_eq_true] at h
  have := h l[0] (List.getElem_mem _)
  unfold atom.factB at this
  simp only [Bool.and_eq_true] at this
  exact this.1.1.1
theorem queryB_i (s hs : List Int) (l : FL) : queryB s hs l = (inB (l.length : Int) 1 4 && headB hs l && atomsB s l) := by
  unfold queryB headB
  by_cases h1 : inB (l.length : Int) 1 4 = true
  · by_cases h2 : atomsB s l = true
    · have h3 : 1 ≤ (l.length : Int) ∧ (l.length : Int) ≤ 4 := by simpa [inB] using h1
      rw [h1, h2, atomsB_sch h2 (by omega)]
      simp [Bool.and_comm]
    · have h2' : atomsB s l = false := by simpa using h2
      simp [h2']
  · have h1' : inB (l.length : Int) 1 4 = false := by simpa using h1
    simp [h1']

set_option maxRecDepth 100000 in
set_option maxHeartbeats 1000000 in
theorem impl_IsQuery (S H A : Option Addr) (cs ch c : Nat) (s hs : List Int) (l : FL) (hls : s.length ≤ 1048576) (hh : hs.length ≤ 1048577) (hz : szF l ≤ 1048576) (w : World) (hS : RI w S s) (h : RI w H hs) (h' : RF w A l) :
    Calls Tryz.prog 12 #[.slice S s.length cs, .agg #[.slice H hs.length ch, .slice A l.length c]] w fun e w' => e = .returned (.bool (queryB s hs l)) ∧ Below w.heap.size w w' := by
  have hl := szF_len hz
  have hl' : (l.length : Int) ≤ 1048576 := by omega
  have B0 := Lib.hid (below_alloc w (.cells #[.slice H hs.length ch, .slice A l.length c] 27))
  have X0 := Lib.hid (Box.new w #[.slice H hs.length ch, .slice A l.length c] 27)
  have XH := Lib.hid (isHead_any H A ch c hs l hh hz _ (h.step B0.out) (h'.step B0.out))
  have HS := Lib.hid hS
  have HF := Lib.hid h'
  clear hS h h'
  rw [queryB_i]
  by_cases c1 : inB (l.length : Int) 1 4 = true
  · have C1 := Lib.hid c1
    by_cases c2 : headB hs l = true
    · have C2 := Lib.hid c2
      have E := Lib.hid (show (inB (l.length : Int) 1 4 && headB hs l && atomsB s l) = atomsB s l by rw [c1, c2]; simp)
      rw [E.out]
      clear c1 c2 E
      go_enter Tryz.func12, Tryz.ntmps12
      go_wp2_with fail
      refine (isBetween_any (l.length : Int) 1 4 _).mono ?_
      rintro e w1 ⟨he, rfl⟩
      rw [C1.out] at he
      subst he
      go_wp2_with fail
      refine XH.out.mono ?_
      rintro e w1 ⟨he, d⟩
      rw [C2.out] at he
      subst he
      have X1 := X0.out.step d
      have x1 := X1.cell 1
      simp only [List.getElem?_toArray, List.getElem?_cons_zero, List.getElem?_cons_succ] at x1
      have B1 := Lib.hid (step B0.out d)
      clear d X1
      go_wp2
      go_loopw [6, 20] (fun _ i wr => ∃ k : Nat, k ≤ l.length ∧ i = .int .i64 k ∧ Hid (atomsB s (l.take k) = true) ∧ Hid (Below w.heap.size w wr)) (fun _ i _ => l.length - (intOf i).toNat)
      case atStart => exact ⟨0, by omega, rfl, Lib.hid rfl, B1⟩
      case round =>
        obtain ⟨k, hk, rfl, ha, hB⟩ := hrel
        have hk0 : (0 : Int) ≤ (k : Int) := by omega
        by_cases hlt : k < l.length
        · generalize hf : l.getD k (0, []) = f
          obtain ⟨r, xs⟩ := f
          have hxl : xs.length ≤ 1048576 := by have := szF_elem hz hlt; rw [hf] at this; exact this
          have HT := Lib.hid (atomsB_take s l k hlt hf)
          have HN := Lib.hid fun (h : atom.factB s r xs = false) => atomsB_not s l k hlt hf h
          have hk1 : (k : Int) < (l.length : Int) := by omega
          obtain ⟨b, off, B, c3, rfl, hb, e0, e1, _, hcm, hJ⟩ := HF.out.at_ hlt hf
          have q0 := (hB.out.cell (p := ⟨b, off + k * 2, none⟩) hb).trans e0
          have q1 := (hB.out.cell (p := ⟨b, off + k * 2 + 1, none⟩) hb).trans e1
          have BA := below_alloc wr (.cells #[.int .i64 r, .slice B xs.length c3] 38)
          have B2 := step hB.out BA
          have XA := Lib.hid (impl_IsAtom_r S cs s r xs B c3 (by omega) (by omega) _ (HS.out.step B2) (hJ.step B2))
          have HB2 := Lib.hid B2
          clear hf e0 e1 hJ BA B2
          by_cases c3 : atom.factB s r xs = true
          · have C3 := Lib.hid c3
            clear c3
            go_wp2_with fail
            refine XA.out.mono ?_
            rintro e w2 ⟨he, d⟩
            rw [C3.out] at he
            subst he
            have HB3 := Lib.hid (step HB2.out d)
            clear d
            go_wp2
            go_roundw
            case rel => exact ⟨k + 1, by omega, by go_num, Lib.hid (by rw [HT.out, ha.out, C3.out]; rfl), HB3⟩
            case measure => simp [intOf]; omega
          · have C3 := Lib.hid (show atom.factB s r xs = false by simpa using c3)
            clear c3
            go_wp2_with fail
            refine XA.out.mono ?_
            rintro e w2 ⟨he, d⟩
            rw [C3.out] at he
            subst he
            have HB3 := Lib.hid (step HB2.out d)
            clear d
            go_wp2
            go_ret
            exact ⟨ret_bool (HN.out C3.out).symm, HB3.out⟩
        · obtain rfl : k = l.length := by omega
          go_wp2
          go_ret
          exact ⟨ret_bool (by have := ha.out; rw [take_all] at this; rw [this]), hB.out⟩
    · have C2 := Lib.hid (show headB hs l = false by simpa using c2)
      have E := Lib.hid (show (inB (l.length : Int) 1 4 && headB hs l && atomsB s l) = false by rw [C2.out]; simp)
      rw [E.out]
      clear c1 c2 E
      go_enter Tryz.func12, Tryz.ntmps12
      go_wp2_with fail
      refine (isBetween_any (l.length : Int) 1 4 _).mono ?_
      rintro e w1 ⟨he, rfl⟩
      rw [C1.out] at he
      subst he
      go_wp2_with fail
      refine XH.out.mono ?_
      rintro e w1 ⟨he, d⟩
      rw [C2.out] at he
      subst he
      have B1 := Lib.hid (step B0.out d)
      clear d
      go_wp2
      go_ret
      exact ⟨rfl, B1.out⟩
  · have C1 := Lib.hid (show inB (l.length : Int) 1 4 = false by simpa using c1)
    have E := Lib.hid (show (inB (l.length : Int) 1 4 && headB hs l && atomsB s l) = false by rw [C1.out]; simp)
    rw [E.out]
    clear c1 E
    go_enter Tryz.func12, Tryz.ntmps12
    go_wp2_with fail
    refine (isBetween_any (l.length : Int) 1 4 _).mono ?_
    rintro e w1 ⟨he, rfl⟩
    rw [C1.out] at he
    subst he
    go_wp2
    go_ret
    exact ⟨rfl, B0.out⟩

set_option maxRecDepth 100000 in
set_option maxHeartbeats 1000000 in
theorem spec_IsQuery (S H A : Option Addr) (cs ch c : Nat) (s hs : List Int) (l : FL) (hls : s.length ≤ 1048576) (hh : hs.length ≤ 1048577) (hz : szF l ≤ 1048576) (w : World) (hS : RI w S s) (h : RI w H hs) (h' : RF w A l) :
    Calls Tryz.prog 10 #[.slice S s.length cs, .agg #[.slice H hs.length ch, .slice A l.length c]] w fun e w' => e = .returned (.bool (queryB s hs l)) ∧ Below w.heap.size w w' := by
  have hl := szF_len hz
  have hl' : (l.length : Int) ≤ 1048576 := by omega
  have hh' : (hs.length : Int) ≤ 1048577 := by omega
  have B0 := Lib.hid (below_alloc w (.cells #[.slice H hs.length ch, .slice A l.length c] 27))
  have X0 := Lib.hid (Box.new w #[.slice H hs.length ch, .slice A l.length c] 27)
  have HS := Lib.hid hS
  have HH := Lib.hid h
  have HF := Lib.hid h'
  have HV := Lib.hid (wl_len 10 17 (terms l))
  have CV := Lib.hid fun (W : World) (hW : RF W A l) => (spec_VarsOf H A ch c hs l hz W hW).mono fun _ _ h => h.toV
  clear hS h h'
  go_enter Tryz.func10, Tryz.ntmps10
  go_wp2
  go_loopw [5] (fun i wr => ∃ k : Nat, k ≤ l.length ∧ i = .int .i64 k ∧ Hid (atomsB s (l.take k) = true) ∧ Hid (Below w.heap.size w wr) ∧ Hid (Box wr w.heap.size #[.slice H hs.length ch, .slice A l.length c] 27)) (fun i _ => l.length - (intOf i).toNat)
  case atStart => exact ⟨0, by omega, rfl, Lib.hid rfl, B0, X0⟩
  case round =>
    obtain ⟨k, hk, rfl, ha, hB, hX⟩ := hrel
    have hk0 : (0 : Int) ≤ (k : Int) := by omega
    have g0 := hX.out.cell 0
    have g1 := hX.out.cell 1
    simp only [List.getElem?_toArray, List.getElem?_cons_zero, List.getElem?_cons_succ] at g0 g1
    by_cases hlt : k < l.length
    · generalize hf : l.getD k (0, []) = f
      obtain ⟨r, xs⟩ := f
      have hxl : xs.length ≤ 1048576 := by have := szF_elem hz hlt; rw [hf] at this; exact this
      have HT := Lib.hid (atomsB_take s l k hlt hf)
      have HN := Lib.hid fun (h : atom.factB s r xs = false) => atomsB_not s l k hlt hf h
      have hk1 : (k : Int) < (l.length : Int) := by omega
      obtain ⟨b, off, B, c3, rfl, hb, e0, e1, _, hcm, hJ⟩ := HF.out.at_ hlt hf
      have q0 := (hB.out.cell (p := ⟨b, off + k * 2, none⟩) hb).trans e0
      have q1 := (hB.out.cell (p := ⟨b, off + k * 2 + 1, none⟩) hb).trans e1
      have XA := Lib.hid (spec_IsAtom_r S cs s r xs B c3 (by omega) (by omega) _ (HS.out.step hB.out) (hJ.step hB.out))
      clear hf e0 e1 hJ g0
      by_cases c3 : atom.factB s r xs = true
      · have C3 := Lib.hid c3
        clear c3
        go_wp2_with fail
        refine XA.out.mono ?_
        rintro e w2 ⟨he, d⟩
        rw [C3.out] at he
        subst he
        have HB3 := Lib.hid (step hB.out d)
        have HX3 := Lib.hid (hX.out.step d)
        clear d g1 q0 q1
        go_wp2
        go_roundw
        case rel => exact ⟨k + 1, by omega, by go_num, Lib.hid (by rw [HT.out, ha.out, C3.out]; rfl), HB3, HX3⟩
        case measure => simp [intOf]; omega
      · have C3 := Lib.hid (show atom.factB s r xs = false by simpa using c3)
        clear c3
        go_wp2_with fail
        refine XA.out.mono ?_
        rintro e w2 ⟨he, d⟩
        rw [C3.out] at he
        subst he
        have HB3 := Lib.hid (step hB.out d)
        clear d g1 q0 q1
        go_wp2
        go_ret
        exact ⟨ret_bool (by unfold queryB; rw [HN.out C3.out]; rfl), HB3.out⟩
    · obtain rfl : k = l.length := by omega
      have HA := Lib.hid (show atomsB s l = true by have := ha.out; rwa [take_all] at this)
      have hv : (wl 10 17 (terms l)).length ≤ 1048576 := by have := HV.out; omega
      have EQ := Lib.hid (show queryB s hs l = (inAll (wl 10 17 (terms l)) hs && schB s && inB (l.length : Int) 1 4 && decide (hs.length ≤ 3)) by unfold queryB; rw [HA.out]; simp)
      generalize wl 10 17 (terms l) = vs at CV hv EQ
      clear ha HV
      go_wp2_with fail
      refine (CV.out _ (HF.out.step hB.out)).mono ?_
      rintro e w2 ⟨A2, c2, rfl, hi2, d⟩
      have HV2 := Lib.hid hi2.ri
      have HB2 := Lib.hid (step hB.out d)
      have HX2 := Lib.hid (hX.out.step d)
      have HH2 := Lib.hid (HH.out.step (step hB.out d))
      clear g0 g1
      have g0 := HX2.out.cell 0
      have g1 := HX2.out.cell 1
      simp only [List.getElem?_toArray, List.getElem?_cons_zero, List.getElem?_cons_succ] at g0 g1
      clear hi2 d
      go_wp2
      go_loop [7] (fun i => ∃ j : Nat, j ≤ hs.length ∧ i = .int .i64 j ∧ Hid (inAll vs (hs.take j) = true)) (fun i => hs.length - (intOf i).toNat)
      case atStart => exact ⟨0, by omega, rfl, Lib.hid rfl⟩
      case round =>
        obtain ⟨j, hj, rfl, ha⟩ := hrel
        have hj0 : (0 : Int) ≤ (j : Int) := by omega
        by_cases hlt : j < hs.length
        · obtain ⟨b, off, rfl, _, hc⟩ := HH2.out.at_ hlt
          have hj1 : (j : Int) < (hs.length : Int) := by omega
          generalize hx : hs.getD j 0 = x at hc
          have HX := Lib.hid hx
          have XC := Lib.hid (l2Has_any 0 _ A2 c2 vs x hv w2 HV2.out)
          clear hx
          by_cases hm : decide (x ∈ vs) = true
          · have HM := Lib.hid hm
            clear hm
            go_wp2_with fail
            refine XC.out.mono ?_
            rintro e w3 ⟨he, rfl⟩
            rw [HM.out] at he
            subst he
            go_wp2
            go_round
            case rel => exact ⟨j + 1, by omega, by go_num, Lib.hid (by rw [inAll_take _ _ _ hlt, ha.out, HX.out, HM.out]; rfl)⟩
            case measure => simp [intOf]; omega
          · have HM := Lib.hid (show decide (x ∈ vs) = false by simpa using hm)
            clear hm
            go_wp2_with fail
            refine XC.out.mono ?_
            rintro e w3 ⟨he, rfl⟩
            rw [HM.out] at he
            subst he
            go_wp2
            go_ret
            exact ⟨ret_bool (by rw [EQ.out, inAll_not _ _ j hlt (by rw [HX.out]; exact HM.out)]; rfl), HB2.out⟩
        · obtain rfl : j = hs.length := by omega
          have HI := Lib.hid (show inAll vs hs = true by have := ha.out; rwa [take_all] at this)
          have XS := Lib.hid (spec_IsSchema 0 _ S cs s (by omega) w2 (show Ints w2 0 _ S s from HS.out.step HB2.out))
          clear ha
          by_cases c1 : schB s = true
          · have C1 := Lib.hid c1
            by_cases c2 : inB (l.length : Int) 1 4 = true
            · have C2 := Lib.hid c2
              by_cases c3 : hs.length ≤ 3
              · have c3' : (hs.length : Int) ≤ 3 := by omega
                have E := Lib.hid (show queryB s hs l = true by rw [EQ.out, HI.out]; rw [c1, c2]; simp [c3])
                clear c1 c2
                go_wp2_with fail
                refine XS.out.mono ?_
                rintro e w3 ⟨he, rfl⟩
                rw [C1.out] at he
                subst he
                go_wp2_with fail
                refine (l1In_any (l.length : Int) 1 4 _).mono ?_
                rintro e w3 ⟨he, rfl⟩
                rw [C2.out] at he
                subst he
                go_wp2
                go_ret
                exact ⟨ret_bool E.out.symm, HB2.out⟩
              · have c3' : ¬ (hs.length : Int) ≤ 3 := by omega
                have E := Lib.hid (show queryB s hs l = false by rw [EQ.out, HI.out]; rw [c1, c2]; simp [c3])
                clear c1 c2
                go_wp2_with fail
                refine XS.out.mono ?_
                rintro e w3 ⟨he, rfl⟩
                rw [C1.out] at he
                subst he
                go_wp2_with fail
                refine (l1In_any (l.length : Int) 1 4 _).mono ?_
                rintro e w3 ⟨he, rfl⟩
                rw [C2.out] at he
                subst he
                go_wp2
                go_ret
                exact ⟨ret_bool ((decide_eq_false (show ¬ (hs.length : Int) ≤ 3 by omega)).trans E.out.symm), HB2.out⟩
            · have C2 := Lib.hid (show inB (l.length : Int) 1 4 = false by simpa using c2)
              have E := Lib.hid (show queryB s hs l = false by rw [EQ.out, HI.out]; rw [C2.out]; simp)
              clear c1 c2
              go_wp2_with fail
              refine XS.out.mono ?_
              rintro e w3 ⟨he, rfl⟩
              rw [C1.out] at he
              subst he
              go_wp2_with fail
              refine (l1In_any (l.length : Int) 1 4 _).mono ?_
              rintro e w3 ⟨he, rfl⟩
              rw [C2.out] at he
              subst he
              go_wp2
              go_ret
              exact ⟨ret_bool E.out.symm, HB2.out⟩
          · have C1 := Lib.hid (show schB s = false by simpa using c1)
            have E := Lib.hid (show queryB s hs l = false by rw [EQ.out, HI.out]; rw [C1.out]; simp)
            clear c1
            go_wp2_with fail
            refine XS.out.mono ?_
            rintro e w3 ⟨he, rfl⟩
            rw [C1.out] at he
            subst he
            go_wp2
            go_ret
            exact ⟨ret_bool E.out.symm, HB2.out⟩
end Go.Proofs.YtfhlmindkogdoaaGreatDoor

namespace Go.Proofs.YtfhlmindkogdoaaGreatDoor
open Go.ChangeShapes Go.WideShapes Go.ChangeAt Go.RowKit Go.Sort
open Go.Proofs.YtfhlmindkogdoaaGreatDoor.atom
set_option linter.unusedVariables false
set_option linter.unusedSimpArgs false

/-- A term's word, the program's way. -/
def tpI (s : ByteArray) : ByteArray := ⟨(Lib.trimPrefix s.data.toList [120]).toArray⟩
def tvI (s : ByteArray) : Bool := Lib.hasPrefix s.data.toList [120]
noncomputable def tB (s : ByteArray) : Bool := parB (tpI s)
noncomputable def tN (s : ByteArray) : Int := if parB (tpI s) = true ∧ tvI s = true then parN (tpI s) + 10 else parN (tpI s)
/-- The model's way. -/
noncomputable def tS (s : ByteArray) : Int :=
  if 1 < s.size ∧ bn s 0 = 120 then (if inB (numS (s.extract 1 s.size)) 0 7 = true then 10 + numS (s.extract 1 s.size) else -1) else (if inB (numS s) 0 9 = true then numS s else -1)
theorem tS_rng (s : ByteArray) : -1 ≤ tS s ∧ tS s ≤ 17 := by
  unfold tS
  split
  · split
    · rename_i h; simp [inB] at h; omega
    · omega
  · split
    · rename_i h; simp [inB] at h; omega
    · omega
theorem tS_allR (ws : List ByteArray) : allR (ws.map tS) := by
  unfold allR allB
  rw [List.all_eq_true]
  intro x hx
  obtain ⟨s, _, rfl⟩ := List.mem_map.1 hx
  have := tS_rng s
  simp [inB]; omega

theorem tw_digit {x : Int} (h0 : 0 ≤ x) (h1 : x ≤ 9) : tw x = [dg x] := by
  rw [tw_no (by simp [inB]; omega), itoa_digit h0 h1]
theorem tw_var {d : Int} (h0 : 0 ≤ d) (h1 : d ≤ 7) : tw (10 + d) = [120, dg d] := by
  rw [tw_yes (by simp [inB]; omega), show (10 : Int) + d - 10 = d by omega]
theorem t_digit {x : Int} (h0 : 0 ≤ x) (h1 : x ≤ 9) : tpI (mkB [dg x]) = ⟨#[dg x]⟩ ∧ tvI (mkB [dg x]) = false ∧ (44 : UInt8) ∉ [dg x] ∧ (32 : UInt8) ∉ [dg x] ∧ (121 : UInt8) ∉ [dg x] := by
  rcases digits10 h0 h1 with rfl | rfl | rfl | rfl | rfl | rfl | rfl | rfl | rfl | rfl <;> exact ⟨rfl, rfl, by decide, by decide, by decide⟩
theorem t_var {x : Int} (h0 : 0 ≤ x) (h1 : x ≤ 9) : tpI (mkB [120, dg x]) = ⟨#[dg x]⟩ ∧ tvI (mkB [120, dg x]) = true ∧ (44 : UInt8) ∉ [120, dg x] ∧ (32 : UInt8) ∉ [120, dg x] ∧ (121 : UInt8) ∉ [120, dg x] := by
  rcases digits10 h0 h1 with rfl | rfl | rfl | rfl | rfl | rfl | rfl | rfl | rfl | rfl <;> exact ⟨rfl, rfl, by decide, by decide, by decide⟩
/-- A term's word, parsed both ways. -/
theorem t_hit {x : Int} (h0 : 0 ≤ x) (h1 : x ≤ 17) : tB (mkB (tw x)) = true ∧ tN (mkB (tw x)) = x ∧ tS (mkB (tw x)) = x ∧ (44 : UInt8) ∉ tw x ∧ (32 : UInt8) ∉ tw x ∧ (121 : UInt8) ∉ tw x := by
  by_cases h : x ≤ 9
  · obtain ⟨a, b, c, d, e⟩ := t_digit h0 h
    obtain ⟨p1, p2⟩ := par_digit h0 h
    rw [tw_digit h0 h]
    refine ⟨by unfold tB; rw [a]; exact p1, ?_, ?_, c, d, e⟩
    · unfold tN
      rw [a, b, if_neg (by simp)]
      exact p2
    · have hs : numS (mkB [dg x]) = x := numS_digit h0 h
      unfold tS
      rw [if_neg (by rw [mkB_size]; simp), hs, if_pos (by simp [inB]; omega)]
  · obtain ⟨d, rfl⟩ : ∃ d, x = 10 + d := ⟨x - 10, by omega⟩
    have g0 : 0 ≤ d := by omega
    have g1 : d ≤ 9 := by omega
    obtain ⟨a, b, c, d', e⟩ := t_var g0 g1
    obtain ⟨p1, p2⟩ := par_digit g0 g1
    rw [tw_var g0 (by omega)]
    refine ⟨by unfold tB; rw [a]; exact p1, ?_, ?_, c, d', e⟩
    · unfold tN
      rw [a, b, if_pos ⟨p1, rfl⟩, p2]; omega
    · have hs : numS ((mkB [120, dg d]).extract 1 (mkB [120, dg d]).size) = d := by
        have : (mkB [120, dg d]).extract 1 (mkB [120, dg d]).size = ⟨#[dg d]⟩ := by
          rw [mkB_size]
          show (⟨[120, dg d].toArray⟩ : ByteArray).extract 1 2 = _
          rw [extract_list]; rfl
        rw [this]
        exact numS_digit g0 g1
      unfold tS
      rw [if_pos ⟨by rw [mkB_size]; simp, rfl⟩, hs, if_pos (by simp [inB]; omega)]
theorem all17 {xs : List Int} (h : allB 0 17 xs = true) : ∀ x ∈ xs, 0 ≤ x ∧ x ≤ 17 := fun x hx => by
  unfold allB at h
  rw [List.all_eq_true] at h
  simpa [inB] using h x hx
def wrdT (xs : List Int) : List ByteArray := xs.map fun x => mkB (tw x)
theorem wrdT_eq (xs : List Int) : (xs.map tw).map mkB = wrdT xs := by simp [wrdT]
theorem words_T {xs : List Int} (hne : xs ≠ []) (h : allB 0 17 xs = true) : wordsI (mkB (commaT xs)) = wrdT xs ∧ cutW (mkB (commaT xs)) = wrdT xs := by
  have h1 : xs.map tw ≠ [] := by simpa using hne
  have h2 : ∀ w ∈ xs.map tw, (44 : UInt8) ∉ w := fun w hw => by
    obtain ⟨x, hx, rfl⟩ := List.mem_map.1 hw
    obtain ⟨a, b⟩ := all17 h x hx
    exact (t_hit a b).2.2.2.1
  rw [← commaT_join, ← wrdT_eq]
  exact ⟨wordsI_join h1 h2, cutW_join h1 h2⟩
theorem wrdT_hit {xs : List Int} (h : allB 0 17 xs = true) : (∀ y ∈ wrdT xs, tB y = true) ∧ (wrdT xs).map tN = xs ∧ (wrdT xs).map tS = xs := by
  have H := all17 h
  clear h
  induction xs with
  | nil => exact ⟨fun y hy => by simp [wrdT] at hy, rfl, rfl⟩
  | cons x xs ih =>
    obtain ⟨i1, i2, i3⟩ := ih fun y hy => H y (List.mem_cons_of_mem _ hy)
    obtain ⟨a, b⟩ := H x (by simp)
    obtain ⟨t1, t2, t3, _⟩ := t_hit a b
    refine ⟨fun y hy => ?_, ?_, ?_⟩
    · rcases List.mem_cons.1 (show y ∈ mkB (tw x) :: wrdT xs from hy) with rfl | hy
      · exact t1
      · exact i1 y hy
    · show tN (mkB (tw x)) :: (wrdT xs).map tN = _
      rw [t2, i2]
    · show tS (mkB (tw x)) :: (wrdT xs).map tS = _
      rw [t3, i3]
theorem not_commaT {c : UInt8} (hc : c ≠ 44) : ∀ xs : List Int, (∀ x ∈ xs, c ∉ tw x) → c ∉ commaT xs
  | [], _ => by simp [commaT]
  | [x], h => by rw [commaT]; exact h x (by simp)
  | x :: y :: r, h => by
    have ih := not_commaT hc (y :: r) fun z hz => h z (List.mem_cons_of_mem _ hz)
    rw [commaT]
    simp only [List.mem_append, List.mem_cons, not_or]
    exact ⟨h x (by simp), hc, ih⟩
theorem commaT_no {xs : List Int} (h : allB 0 17 xs = true) : (32 : UInt8) ∉ commaT xs ∧ (121 : UInt8) ∉ commaT xs :=
  ⟨not_commaT (by decide) xs fun x hx => (t_hit (all17 h x hx).1 (all17 h x hx).2).2.2.2.2.1, not_commaT (by decide) xs fun x hx => (t_hit (all17 h x hx).1 (all17 h x hx).2).2.2.2.2.2⟩

/-- What an atom's text falls into, the program's way. -/
noncomputable def atI (p : ByteArray) : Int × List Int := (parN (numI p), (wordsI (bodyI p)).map tN)
def okI (p : ByteArray) : Prop := parB (numI p) = true ∧ ∀ x ∈ wordsI (bodyI p), tB x = true
theorem okA_parts {r : Int} {xs : List Int} (h : fmtOkA r xs = true) : 0 ≤ r ∧ r ≤ 2 ∧ xs ≠ [] ∧ allB 0 17 xs = true := by
  simp only [fmtOkA, Bool.and_eq_true] at h
  have h1 : 0 ≤ r ∧ r ≤ 2 := by simpa [inB] using h.1.1
  have h3 : 1 ≤ (xs.length : Int) ∧ (xs.length : Int) ≤ 3 := by simpa [inB] using h.1.2
  exact ⟨h1.1, h1.2, fun e => by subst e; simp at h3, h.2⟩
theorem atL_eq (r : Int) (xs : List Int) : atL (r, xs) = 114 :: dg r :: 40 :: (commaT xs ++ [41]) := by simp [atL]
theorem hitA_impl {r : Int} {xs : List Int} (h : fmtOkA r xs = true) : numI (mkB (atL (r, xs))) = ⟨#[dg r]⟩ ∧ bodyI (mkB (atL (r, xs))) = mkB (commaT xs) := by
  obtain ⟨h0, h1, h2, h3⟩ := okA_parts h
  have hne := (dg_ne h0 (show r ≤ 9 by omega)).1
  have ed : (mkB (atL (r, xs))).data.toList = 114 :: dg r :: 40 :: (commaT xs ++ [41]) := by rw [mkB_list, atL_eq]
  have hi : Lib.index (mkB (atL (r, xs))).data.toList [40] = 2 := by
    rw [ed, Lib.index_one]
    simp [Lib.indexByte, hne]
  have hc : Lib.cut (mkB (atL (r, xs))).data.toList [40] = ([114, dg r], commaT xs ++ [41], true) := by
    unfold Lib.cut
    rw [hi, if_pos (by decide), ed]
    rfl
  have e1 : hdI (mkB (atL (r, xs))) = ⟨#[114, dg r]⟩ := by unfold hdI; rw [hc]
  have e2 : tlI (mkB (atL (r, xs))) = ⟨(commaT xs ++ [41]).toArray⟩ := by unfold tlI; rw [hc]
  refine ⟨?_, ?_⟩
  · unfold numI
    rw [e1]
    rfl
  · unfold bodyI
    rw [e2]
    have hs : Lib.hasSuffix (commaT xs ++ [41]) [41] = true := by
      unfold Lib.hasSuffix
      rw [List.isSuffixOf_iff_suffix]
      exact List.suffix_append _ _
    show (⟨(Lib.trimSuffix (commaT xs ++ [41]) [41]).toArray⟩ : ByteArray) = ⟨(commaT xs).toArray⟩
    unfold Lib.trimSuffix
    rw [if_pos hs]
    congr 2
    rw [List.length_append, List.length_singleton, Nat.add_sub_cancel, List.take_left']
    rfl
theorem atI_hit {f : Int × List Int} (h : fmtOkA f.1 f.2 = true) : okI (mkB (atL f)) ∧ atI (mkB (atL f)) = f := by
  obtain ⟨r, xs⟩ := f
  obtain ⟨h0, h1, h2, h3⟩ := okA_parts h
  obtain ⟨e1, e2⟩ := hitA_impl h
  obtain ⟨p1, p2⟩ := par_digit h0 (show r ≤ 9 by omega)
  obtain ⟨w1, _⟩ := words_T h2 h3
  obtain ⟨i1, i2, _⟩ := wrdT_hit h3
  refine ⟨⟨by rw [e1]; exact p1, by rw [e2, w1]; exact i1⟩, ?_⟩
  unfold atI
  rw [e1, e2, w1, p2, i2]
/-- And the model's way. -/
theorem call_ex (s : ByteArray) : ∃ p : ByteArray × List ByteArray, CallIs s p.1 p.2 := by
  by_cases h : ∃ i, isCall s i
  · obtain ⟨i, hi⟩ := h
    have : ∃ j, isCall s j ∧ ∀ k, k < j → ¬ isCall s k := by
      induction i using Nat.strongRecOn with
      | ind i ih =>
        by_cases h2 : ∃ k, k < i ∧ isCall s k
        · obtain ⟨k, hk, hc⟩ := h2
          exact ih k hk hc
        · exact ⟨i, hi, fun k hk hc => h2 ⟨k, hk, hc⟩⟩
    obtain ⟨j, hj, hn⟩ := this
    exact ⟨(s.extract 0 j, cutW (s.extract (j + 1) (s.size - 1))), .inl ⟨j, hj, hn, rfl, rfl⟩⟩
  · exact ⟨(⟨#[]⟩, []), .inr ⟨fun i hi => h ⟨i, hi⟩, rfl, rfl⟩⟩
theorem call_one {s H H' : ByteArray} {ws ws' : List ByteArray} (h : CallIs s H ws) (h' : CallIs s H' ws') : H = H' ∧ ws = ws' := by
  rcases h with ⟨i, a1, a2, rfl, rfl⟩ | ⟨a1, rfl, rfl⟩
  · rcases h' with ⟨j, b1, b2, rfl, rfl⟩ | ⟨b1, rfl, rfl⟩
    · have : i = j := by
        rcases Nat.lt_trichotomy i j with h | h | h
        · exact absurd a1 (b2 i h)
        · exact h
        · exact absurd b1 (a2 j h)
      subst this
      exact ⟨rfl, rfl⟩
    · exact absurd a1 (b1 i)
  · rcases h' with ⟨j, b1, b2, rfl, rfl⟩ | ⟨b1, rfl, rfl⟩
    · exact absurd b1 (a1 j)
    · exact ⟨rfl, rfl⟩
noncomputable def callP (s : ByteArray) : ByteArray × List ByteArray := Classical.choose (call_ex s)
theorem callP_is (s : ByteArray) : CallIs s (callP s).1 (callP s).2 := Classical.choose_spec (call_ex s)
noncomputable def atS (s : ByteArray) : Int × List Int := (relS (callP s).1, (callP s).2.map tS)
theorem atS_of {s H : ByteArray} {ws : List ByteArray} (h : CallIs s H ws) : atS s = (relS H, ws.map tS) := by
  obtain ⟨a, b⟩ := call_one (callP_is s) h
  unfold atS
  rw [a, b]
theorem atS_len (s : ByteArray) : (atS s).2.length ≤ s.size := by
  unfold atS
  rw [List.length_map]
  rcases callP_is s with ⟨i, h1, _, _, h4⟩ | ⟨_, _, h4⟩
  · rw [h4]
    have := cutW_len (s.extract (i + 1) (s.size - 1))
    rw [ByteArray.size_extract] at this
    have := h1.1
    omega
  · rw [h4]; simp
theorem atS_hit {f : Int × List Int} (h : fmtOkA f.1 f.2 = true) : atS (mkB (atL f)) = f := by
  obtain ⟨r, xs⟩ := f
  obtain ⟨h0, h1, h2, h3⟩ := okA_parts h
  have hne := (dg_ne h0 (show r ≤ 9 by omega)).1
  have hc := callP_is (mkB (atL (r, xs)))
  generalize hs : mkB (atL (r, xs)) = s at hc
  have ed : s = ⟨(114 :: dg r :: 40 :: (commaT xs ++ [41])).toArray⟩ := by rw [← hs, ← atL_eq]; rfl
  have hsz : s.size = (commaT xs).length + 4 := by rw [ed, size_mk]; simp
  have b0 : bn s 0 = 114 := by rw [ed, bn_mk]; rfl
  have b1 : bn s 1 ≠ 40 := by
    rw [ed, bn_mk]
    show (dg r).toNat ≠ 40
    intro h
    exact hne (UInt8.toNat_inj.1 h)
  have b2 : bn s 2 = 40 := by rw [ed, bn_mk]; rfl
  have bl : bn s (s.size - 1) = 41 := by
    rw [hsz, ed, bn_mk, show (commaT xs).length + 4 - 1 = (commaT xs).length + 3 by omega]
    simp [List.getElem?_append_right]
  have h2c : isCall s 2 := ⟨by omega, b2, bl⟩
  rcases hc with ⟨i, hi, hno, e1, e2⟩ | ⟨hno, _⟩
  · have hi2 : i = 2 := by
      have a : ¬ 2 < i := fun h => hno 2 h h2c
      have hb := hi.2.1
      rcases (show i = 0 ∨ i = 1 ∨ i = 2 by omega) with rfl | rfl | rfl
      · omega
      · exact absurd hb b1
      · rfl
    subst hi2
    have eH : s.extract 0 2 = ⟨#[114, dg r]⟩ := by rw [ed, extract_list]; rfl
    have eW : s.extract (2 + 1) (s.size - 1) = mkB (commaT xs) := by
      rw [hsz, ed, extract_list]
      show (⟨((commaT xs ++ [41]).take ((commaT xs).length + 4 - 1 - 3)).toArray⟩ : ByteArray) = ⟨(commaT xs).toArray⟩
      rw [show (commaT xs).length + 4 - 1 - 3 = (commaT xs).length by omega, List.take_left']
      rfl
    unfold atS
    rw [e1, e2, eH, eW, (words_T h2 h3).2, (wrdT_hit h3).2.2]
    have : relS ⟨#[114, dg r]⟩ = r := by
      unfold relS
      rw [if_pos ⟨by show 2 ≤ 2; omega, rfl⟩]
      show numS ((⟨[114, dg r].toArray⟩ : ByteArray).extract 1 2) = r
      rw [extract_list]
      exact numS_digit h0 (by omega)
    rw [this]
  · exact absurd h2c (hno 2)
end Go.Proofs.YtfhlmindkogdoaaGreatDoor
