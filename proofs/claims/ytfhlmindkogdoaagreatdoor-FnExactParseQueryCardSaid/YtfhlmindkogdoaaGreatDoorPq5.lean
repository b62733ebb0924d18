/- What the model's l2Call answers. Conditions: none beyond each theorem's own. The texts of facts, parsed both ways: plain facts. Conditions: none beyond each theorem's own. What the functions on the text of a term and of a list of terms answer. Conditions: none beyond each theorem's own. What the two functions FormatAtom answer. Conditions: none beyond each theorem's own. -/
import Derived.Test.YtfhlmindkogdoaaGreatDoorPq4

namespace Go.Proofs.YtfhlmindkogdoaaGreatDoor
open Go.ChangeShapes Go.WideShapes Go.ChangeAt Go.RowKit Go.Sort
set_option linter.unusedVariables false
set_option linter.unusedSimpArgs false

def isCall (s : ByteArray) (i : Nat) : Prop := i < s.size ∧ bn s i = 40 ∧ bn s (s.size - 1) = 41
def CallIs (s H : ByteArray) (ws : List ByteArray) : Prop :=
  (∃ i, isCall s i ∧ (∀ j, j < i → ¬ isCall s j) ∧ H = s.extract 0 i ∧ ws = cutW (s.extract (i + 1) (s.size - 1))) ∨ ((∀ i, ¬ isCall s i) ∧ H = ⟨#[]⟩ ∧ ws = [])
theorem CallIs.le {s H : ByteArray} {ws : List ByteArray} (h : CallIs s H ws) : H.size ≤ s.size ∧ ws.length ≤ s.size + 1 ∧ ∀ x ∈ ws, x.size ≤ s.size := by
  rcases h with ⟨i, h1, h2, rfl, rfl⟩ | ⟨h1, rfl, rfl⟩
  · have e : (s.extract (i + 1) (s.size - 1)).size ≤ s.size := by rw [ByteArray.size_extract]; omega
    refine ⟨by rw [ByteArray.size_extract]; omega, by have := cutW_len (s.extract (i + 1) (s.size - 1)); omega, fun x hx => by have := cutW_size hx; omega⟩
  · exact ⟨by show 0 ≤ _; omega, by simp, fun x h => by simp at h⟩

def CallOut (w : World) (s : ByteArray) (e : Ending) (w' : World) : Prop := ∃ H ws A c, e = .returned (.tuple #[.string H, .slice A ws.length c]) ∧ StrsAt w' A ws ∧ Below w.heap.size w w' ∧ CallIs s H ws

set_option maxRecDepth 100000 in
set_option maxHeartbeats 1000000 in
theorem l2Call_any (s : ByteArray) (hs : s.size ≤ 1048576) (w : World) :
    Calls Tryz.prog 93 #[.string s] w (CallOut w s) := by
  have hs' : (s.size : Int) ≤ 1048576 := by omega
  go_enter Tryz.func93, Tryz.ntmps93
  go_wp2
  go_loop [4] (fun i => ∃ k : Nat, k ≤ s.size ∧ i = .int .i64 k ∧ Hid (∀ j, j < k → ¬ isCall s j)) (fun i => s.size - (intOf i).toNat)
  case atStart => exact ⟨0, by omega, rfl, Lib.hid (fun j hj => by omega)⟩
  case round =>
    obtain ⟨k, hk, rfl, hno⟩ := hrel
    by_cases hlt : k < s.size
    · have hbn := bn_le s k
      have hg := get_bn s k hlt
      by_cases h40 : bn s k = 40
      · have hbn2 := bn_le s (s.size - 1)
        have hg2 := get_bn s (s.size - 1) (by omega)
        by_cases h41 : bn s (s.size - 1) = 41
        · have hks : k + 1 ≤ s.size - 1 := by
            rcases Nat.lt_or_ge k (s.size - 1) with h | h
            · omega
            · have : k = s.size - 1 := by omega
              rw [this] at h40
              omega
          have IC := Lib.hid (show isCall s k from ⟨hlt, h40, h41⟩)
          have HK := Lib.hid hks
          have hks' : (k : Int) + 1 ≤ (s.size : Int) - 1 := by omega
          have CU := Lib.hid (l2Cut_any (s.extract (k + 1) (s.size - 1)) (by rw [ByteArray.size_extract]; omega))
          rw [h40] at hg
          rw [h41] at hg2
          have e0 : (0 : Int) ≤ (k : Int) := by omega
          have e1 : (k : Int) ≤ (s.size : Int) := by omega
          have e2 : IntKind.i64.wrap ((k : Int) + 1) = (k : Int) + 1 := IntWalk.i64_in _ ⟨by omega, by omega⟩
          have e3 : IntKind.i64.wrap ((s.size : Int) - 1) = (s.size : Int) - 1 := IntWalk.i64_in _ ⟨by omega, by omega⟩
          have e4 : (0 : Int) ≤ (k : Int) + 1 := by omega
          have e5 : (s.size : Int) - 1 ≤ (s.size : Int) := by omega
          have e6 : (0 : Int) ≤ (s.size : Int) - 1 := by omega
          have e7 : ((k : Int) + 1).toNat = k + 1 := by omega
          have e8 : ((s.size : Int) - 1).toNat = s.size - 1 := by omega
          clear h40 h41 hks
          go_wp2
          go_region_held3 (fun _ => True)
            (first
              | trivial)
            (first
              | (go_at_call 58
                 refine (CU.out _).mono ?_
                 rintro e u ⟨A, c, rfl, hst, d⟩
                 have d' : Below w.heap.size w u := by first | exact d | exact und d
                 have HST := Lib.hid hst
                 clear hst d))
          go_wp2
          go_ret2
          refine ⟨s.extract 0 k, cutW (s.extract (k + 1) (s.size - 1)), A, c, rfl, HST.out, d', .inl ⟨k, IC.out, hno.out, rfl, rfl⟩⟩
        · have NC := Lib.hid (show ¬ isCall s k from fun h => h41 h.2.2)
          have h41' : ¬ ((bn s (s.size - 1) : Nat) : Int) = 41 := by omega
          rw [h40] at hg
          clear h40 h41
          go_wp2
          go_round
          case rel => exact ⟨k + 1, by omega, by go_num, Lib.hid (fun j hj => by
            by_cases e : j = k
            · rw [e]; exact NC.out
            · exact hno.out j (by omega))⟩
          case measure => simp [intOf]; omega
      · have NC := Lib.hid (show ¬ isCall s k from fun h => h40 h.2.1)
        have h40' : ¬ ((bn s k : Nat) : Int) = 40 := by omega
        clear h40
        go_wp2
        go_round
        case rel => exact ⟨k + 1, by omega, by go_num, Lib.hid (fun j hj => by
          by_cases e : j = k
          · rw [e]; exact NC.out
          · exact hno.out j (by omega))⟩
        case measure => simp [intOf]; omega
    · have NC := Lib.hid (show ∀ i, ¬ isCall s i from fun i h => hno.out i (by have := h.1; omega) h)
      go_wp2
      go_ret2
      exact ⟨⟨#[]⟩, [], _, 0, rfl, fun h => absurd rfl h, below_alloc _ _, .inr ⟨NC.out, rfl, rfl⟩⟩
end Go.Proofs.YtfhlmindkogdoaaGreatDoor

namespace Go.Proofs.YtfhlmindkogdoaaGreatDoor
open Go.ChangeShapes Go.WideShapes Go.ChangeAt Go.RowKit Go.Sort
set_option linter.unusedVariables false
set_option linter.unusedSimpArgs false

theorem digits10 {d : Int} (h0 : 0 ≤ d) (h1 : d ≤ 9) : d = 0 ∨ d = 1 ∨ d = 2 ∨ d = 3 ∨ d = 4 ∨ d = 5 ∨ d = 6 ∨ d = 7 ∨ d = 8 ∨ d = 9 := by omega
theorem dg_ne {d : Int} (h0 : 0 ≤ d) (h1 : d ≤ 9) : dg d ≠ 40 ∧ dg d ≠ 44 := by
  rcases digits10 h0 h1 with rfl | rfl | rfl | rfl | rfl | rfl | rfl | rfl | rfl | rfl <;> decide
theorem pN_digit {d : Int} (h0 : 0 ≤ d) (h1 : d ≤ 9) : pN ⟨#[dg d]⟩ = d ∧ pk ⟨#[dg d]⟩ (min (⟨#[dg d]⟩ : ByteArray).size 11) ≤ 9 := by
  rcases digits10 h0 h1 with rfl | rfl | rfl | rfl | rfl | rfl | rfl | rfl | rfl | rfl <;> decide +kernel
theorem par_digit {d : Int} (h0 : 0 ≤ d) (h1 : d ≤ 9) : parB ⟨#[dg d]⟩ = true ∧ parN ⟨#[dg d]⟩ = d := by
  obtain ⟨e1, e2⟩ := pN_digit h0 h1
  have h := par_yes (s := ⟨#[dg d]⟩) ⟨e2, by show 1 ≤ 10; omega, by rw [e1]; exact fmt_digit h0 h1⟩
  exact ⟨h.1, by rw [h.2, e1]⟩
theorem numS_digit {d : Int} (h0 : 0 ≤ d) (h1 : d ≤ 9) : numS ⟨#[dg d]⟩ = d := by
  obtain ⟨e1, e2⟩ := par_digit h0 h1
  unfold numS
  rw [if_pos e1, e2]

theorem ba_ext {a b : ByteArray} (h : a.data.toList = b.data.toList) : a = b := by
  apply ByteArray.ext; apply Array.toList_inj.1; exact h
theorem extract_list (L : List UInt8) (a b : Nat) : (⟨L.toArray⟩ : ByteArray).extract a b = ⟨((L.drop a).take (b - a)).toArray⟩ := by
  apply ba_ext
  rw [Lib.extract_data]
theorem bn_mk (L : List UInt8) (j : Nat) : bn ⟨L.toArray⟩ j = ((L[j]?).map UInt8.toNat).getD 0 := bn_eq _ _
theorem size_mk (L : List UInt8) : (⟨L.toArray⟩ : ByteArray).size = L.length := by rw [size_eq']

def wrd (xs : List Int) : List ByteArray := xs.map fun x => ⟨#[dg x]⟩
theorem all_cons {x : Int} {xs : List Int} (h : allB 0 9 (x :: xs) = true) : 0 ≤ x ∧ x ≤ 9 ∧ allB 0 9 xs = true := by
  unfold allB at h ⊢
  rw [List.all_cons, Bool.and_eq_true] at h
  have := h.1
  simp [inB] at this
  exact ⟨this.1, this.2, h.2⟩
theorem words_comma : ∀ xs : List Int, xs ≠ [] → allB 0 9 xs = true → wordsI ⟨(commaL xs).toArray⟩ = wrd xs
  | [], h, _ => absurd rfl h
  | [x], _, h => by
    obtain ⟨h0, h1, _⟩ := all_cons h
    have hne := (dg_ne h0 h1).2
    have hi : Lib.indexB ⟨(commaL [x]).toArray⟩ ⟨#[44]⟩ = -1 := by
      show Lib.index [dg x] [44] = -1
      rw [Lib.index_one]
      simp [Lib.indexByte, hne]
    unfold wordsI
    rw [Lib.splitB_miss _ _ _ _ hi]
    rfl
  | x :: y :: r, _, h => by
    obtain ⟨h0, h1, h2⟩ := all_cons h
    have ih := words_comma (y :: r) (by simp) h2
    have hne := (dg_ne h0 h1).2
    have hi : Lib.indexB ⟨(commaL (x :: y :: r)).toArray⟩ ⟨#[44]⟩ = ((1 : Nat) : Int) := by
      show Lib.index (dg x :: 44 :: commaL (y :: r)) [44] = 1
      rw [Lib.index_one]
      simp [Lib.indexByte, hne]
    have hx : (⟨(commaL (x :: y :: r)).toArray⟩ : ByteArray).extract (1 + (⟨#[44]⟩ : ByteArray).size) (⟨(commaL (x :: y :: r)).toArray⟩ : ByteArray).size = ⟨(commaL (y :: r)).toArray⟩ := by
      rw [size_mk, extract_list]
      show (⟨(((dg x :: 44 :: commaL (y :: r)).drop 2).take ((dg x :: 44 :: commaL (y :: r)).length - 2)).toArray⟩ : ByteArray) = _
      rw [List.take_of_length_le (by simp)]
      rfl
    have hx0 : (⟨(commaL (x :: y :: r)).toArray⟩ : ByteArray).extract 0 (1 + 0) = ⟨#[dg x]⟩ := by
      rw [extract_list]; rfl
    unfold wordsI at ih ⊢
    rw [Lib.countB_hit _ _ 1 (by decide) hi, hx, Nat.add_comm, Lib.splitB_hit _ _ _ _ 1 hi, hx, hx0, ih]
    rfl

theorem num_words {xs : List Int} (h : allB 0 9 xs = true) : allN (wrd xs) ∧ nums (wrd xs) = xs ∧ (wrd xs).map numS = xs := by
  induction xs with
  | nil => exact ⟨fun x hx => by simp [wrd] at hx, rfl, rfl⟩
  | cons x xs ih =>
    obtain ⟨h0, h1, h2⟩ := all_cons h
    obtain ⟨i1, i2, i3⟩ := ih h2
    obtain ⟨e1, e2⟩ := par_digit h0 h1
    refine ⟨fun y hy => ?_, ?_, ?_⟩
    · rcases List.mem_cons.1 (show y ∈ (⟨#[dg x]⟩ : ByteArray) :: wrd xs from hy) with rfl | hy
      · exact e1
      · exact i1 y hy
    · show parN ⟨#[dg x]⟩ :: nums (wrd xs) = _
      rw [e2, i2]
    · show numS ⟨#[dg x]⟩ :: (wrd xs).map numS = _
      rw [numS_digit h0 h1, i3]

theorem fmtOk_parts {r : Int} {xs : List Int} (h : fmtOk r xs = true) : 0 ≤ r ∧ r ≤ 2 ∧ xs ≠ [] ∧ allB 0 9 xs = true := by
  unfold fmtOk at h
  rw [Bool.and_eq_true, Bool.and_eq_true] at h
  obtain ⟨⟨h1, h2⟩, h3⟩ := h
  have h1' : 0 ≤ r ∧ r ≤ 2 := by simpa [inB] using h1
  have h2' : 1 ≤ (xs.length : Int) ∧ (xs.length : Int) ≤ 3 := by simpa [inB] using h2
  refine ⟨h1'.1, h1'.2, fun e => ?_, h3⟩
  subst e
  simp at h2'

theorem hit_impl {r : Int} {xs : List Int} {s : ByteArray} (h : fmtOk r xs = true) (e : fmtF r xs = s) : numI s = ⟨#[dg r]⟩ ∧ bodyI s = ⟨(commaL xs).toArray⟩ := by
  obtain ⟨h0, h1, h2, h3⟩ := fmtOk_parts h
  have hne := (dg_ne h0 (show r ≤ 9 by omega)).1
  rw [fmtF_yes h] at e
  have ed : s.data.toList = 114 :: dg r :: 40 :: (commaL xs ++ [41]) := by subst e; simp
  have hi : Lib.index s.data.toList [40] = 2 := by
    rw [ed, Lib.index_one]
    simp [Lib.indexByte, hne]
  have hc : Lib.cut s.data.toList [40] = ([114, dg r], commaL xs ++ [41], true) := by
    unfold Lib.cut
    rw [hi, if_pos (by decide), ed]
    rfl
  have e1 : hdI s = ⟨#[114, dg r]⟩ := by unfold hdI; rw [hc]
  have e2 : tlI s = ⟨(commaL xs ++ [41]).toArray⟩ := by unfold tlI; rw [hc]
  refine ⟨?_, ?_⟩
  · unfold numI
    rw [e1]
    rfl
  · unfold bodyI
    rw [e2]
    have hs : Lib.hasSuffix (commaL xs ++ [41]) [41] = true := by
      unfold Lib.hasSuffix
      rw [List.isSuffixOf_iff_suffix]
      exact List.suffix_append _ _
    show (⟨(Lib.trimSuffix (commaL xs ++ [41]) [41]).toArray⟩ : ByteArray) = _
    unfold Lib.trimSuffix
    rw [if_pos hs]
    congr 2
    rw [List.length_append, List.length_singleton, Nat.add_sub_cancel, List.take_left']
    rfl

/-- One byte more. -/
def stepC (p : List ByteArray × ByteArray) (b : UInt8) : List ByteArray × ByteArray := if b = 44 then (p.1 ++ [p.2], ⟨#[]⟩) else (p.1, p.2 ++ ⟨#[b]⟩)
theorem cutS_fold (L : List UInt8) : ∀ i, i ≤ L.length → cutS ⟨L.toArray⟩ i = (L.take i).foldl stepC ([], ⟨#[]⟩)
  | 0, _ => rfl
  | i + 1, h => by
    have ih := cutS_fold L i (by omega)
    have hb : bn ⟨L.toArray⟩ i = (L[i]'(by omega)).toNat := by rw [bn_mk, List.getElem?_eq_getElem (by omega)]; rfl
    rw [List.take_succ_eq_append_getElem (by omega), List.foldl_append, ← ih]
    show _ = stepC _ _
    by_cases e : L[i]'(by omega) = 44
    · rw [cutS_hit (by rw [hb, e]; rfl)]
      unfold stepC
      rw [if_pos e]
    · rw [cutS_miss (by rw [hb]; intro h; exact e (UInt8.toNat_inj.1 h))]
      unfold stepC
      rw [if_neg e, extract_list]
      have : (L.drop i).take (i + 1 - i) = [L[i]'(by omega)] := by
        rw [show i + 1 - i = 1 by omega, List.drop_eq_getElem_cons (by omega)]
        rfl
      rw [this]
theorem fold_comma : ∀ (xs : List Int) (acc : List ByteArray), xs ≠ [] → allB 0 9 xs = true → ((commaL xs).foldl stepC (acc, ⟨#[]⟩)).1 ++ [((commaL xs).foldl stepC (acc, ⟨#[]⟩)).2] = acc ++ wrd xs
  | [], _, h, _ => absurd rfl h
  | [x], acc, _, h => by
    obtain ⟨h0, h1, _⟩ := all_cons h
    have hne := (dg_ne h0 h1).2
    show (stepC (acc, ⟨#[]⟩) (dg x)).1 ++ [(stepC (acc, ⟨#[]⟩) (dg x)).2] = _
    unfold stepC
    rw [if_neg hne]
    rfl
  | x :: y :: r, acc, _, h => by
    obtain ⟨h0, h1, h2⟩ := all_cons h
    have hne := (dg_ne h0 h1).2
    have ih := fold_comma (y :: r) (acc ++ [⟨#[dg x]⟩]) (by simp) h2
    have e : stepC (stepC (acc, ⟨#[]⟩) (dg x)) 44 = (acc ++ [⟨#[dg x]⟩], ⟨#[]⟩) := by
      unfold stepC
      rw [if_neg hne]
      rfl
    show ((commaL (y :: r)).foldl stepC (stepC (stepC (acc, ⟨#[]⟩) (dg x)) 44)).1 ++ [((commaL (y :: r)).foldl stepC (stepC (stepC (acc, ⟨#[]⟩) (dg x)) 44)).2] = _
    rw [e, ih, List.append_assoc]
    rfl
theorem cutW_comma {xs : List Int} (h : xs ≠ []) (h2 : allB 0 9 xs = true) : cutW ⟨(commaL xs).toArray⟩ = wrd xs := by
  have e := fold_comma xs [] h h2
  unfold cutW
  rw [size_mk, cutS_fold _ _ (Nat.le_refl _), List.take_length, e]
  rfl

theorem hit_spec {r : Int} {xs : List Int} {s H : ByteArray} {ws : List ByteArray} (h : fmtOk r xs = true) (e : fmtF r xs = s) (hc : CallIs s H ws) : relS H = r ∧ ws.map numS = xs := by
  obtain ⟨h0, h1, h2, h3⟩ := fmtOk_parts h
  have hne := (dg_ne h0 (show r ≤ 9 by omega)).1
  rw [fmtF_yes h] at e
  have ed : s = ⟨(114 :: dg r :: 40 :: (commaL xs ++ [41])).toArray⟩ := by rw [← e]; simp
  have hsz : s.size = (commaL xs).length + 4 := by rw [ed, size_mk]; simp
  have b0 : bn s 0 = 114 := by rw [ed, bn_mk]; rfl
  have b1 : bn s 1 ≠ 40 := by
    rw [ed, bn_mk]
    show (dg r).toNat ≠ 40
    intro h
    exact hne (UInt8.toNat_inj.1 h)
  have b2 : bn s 2 = 40 := by rw [ed, bn_mk]; rfl
  have bl : bn s (s.size - 1) = 41 := by
    rw [hsz, ed, bn_mk, show (commaL xs).length + 4 - 1 = (commaL xs).length + 3 by omega]
    simp [List.getElem?_append_right]
  have h2c : isCall s 2 := ⟨by omega, b2, bl⟩
  rcases hc with ⟨i, hi, hno, rfl, rfl⟩ | ⟨hno, _⟩
  · have hi2 : i = 2 := by
      have a : ¬ 2 < i := fun h => hno 2 h h2c
      have hb := hi.2.1
      rcases (show i = 0 ∨ i = 1 ∨ i = 2 by omega) with rfl | rfl | rfl
      · omega
      · exact absurd hb b1
      · rfl
    subst hi2
    have eH : s.extract 0 2 = ⟨#[114, dg r]⟩ := by rw [ed, extract_list]; rfl
    have eW : s.extract (2 + 1) (s.size - 1) = ⟨(commaL xs).toArray⟩ := by
      rw [hsz, ed, extract_list]
      show (⟨((commaL xs ++ [41]).take ((commaL xs).length + 4 - 1 - 3)).toArray⟩ : ByteArray) = _
      rw [show (commaL xs).length + 4 - 1 - 3 = (commaL xs).length by omega, List.take_left']
      rfl
    rw [eH, eW, cutW_comma h2 h3]
    refine ⟨?_, (num_words h3).2.2⟩
    unfold relS
    rw [if_pos ⟨by show 2 ≤ 2; omega, rfl⟩]
    show numS ((⟨[114, dg r].toArray⟩ : ByteArray).extract 1 2) = r
    rw [extract_list]
    exact numS_digit h0 (by omega)
  · exact absurd h2c (hno 2)

theorem prs_of {S : List Int} {r : Int} {xs : List Int} {s : ByteArray} (h : factB S r xs = true) (e : fmtF r xs = s) : prs S s = (r, xs, true) := by
  have hf := (factB_len h).2
  obtain ⟨h0, h1, h2, h3⟩ := fmtOk_parts hf
  obtain ⟨e1, e2⟩ := hit_impl hf e
  obtain ⟨p1, p2⟩ := par_digit h0 (show r ≤ 9 by omega)
  obtain ⟨n1, n2, _⟩ := num_words h3
  have ew : wordsI (bodyI s) = wrd xs := by rw [e2, words_comma xs h2 h3]
  have ok : okPI S s := ⟨by rw [e1]; exact p1, by rw [ew]; exact n1, by rw [e1, p2, ew, n2]; exact h, by rw [e1, p2, ew, n2]; exact e⟩
  rw [prs_yes ok, e1, p2, ew, n2]
theorem prs_not {S : List Int} {s H : ByteArray} {ws : List ByteArray} (hc : CallIs s H ws) (h : ¬ (factB S (relS H) (ws.map numS) = true ∧ fmtF (relS H) (ws.map numS) = s)) : prs S s = (0, [], false) := by
  refine prs_no fun ok => h ?_
  obtain ⟨e1, e2⟩ := hit_spec (factB_len ok.2.2.1).2 ok.2.2.2 hc
  rw [e1, e2]
  exact ⟨ok.2.2.1, ok.2.2.2⟩
end Go.Proofs.YtfhlmindkogdoaaGreatDoor

namespace Go.Proofs.YtfhlmindkogdoaaGreatDoor
open Go.ChangeShapes Go.WideShapes Go.ChangeAt Go.RowKit Go.Sort
set_option linter.unusedVariables false
set_option linter.unusedSimpArgs false

/-- The text of a term. -/
def tw (x : Int) : List UInt8 := if inB x 10 17 = true then [120, dg (x - 10)] else Lib.itoa x
theorem tw_yes {x : Int} (h : inB x 10 17 = true) : tw x = [120, dg (x - 10)] := if_pos h
theorem tw_no {x : Int} (h : inB x 10 17 = false) : tw x = Lib.itoa x := if_neg (by simp [h])
theorem itoa_digit {x : Int} (h0 : 0 ≤ x) (h1 : x ≤ 9) : Lib.itoa x = [dg x] := by
  have h := fmt_digit h0 h1
  unfold fmtI at h
  injection h with h
  have := congrArg Array.toList h
  simpa using this
theorem itoa_len {n : Int} (h0 : -9223372036854775808 ≤ n) (h1 : n ≤ 9223372036854775807) : (Lib.itoa n).length ≤ 20 := by
  by_cases hz : n = 0
  · subst hz
    rw [itoa_digit (by omega) (by omega)]
    simp
  · by_cases hp : 0 ≤ n
    · obtain ⟨u, rfl⟩ := Int.eq_ofNat_of_zero_le hp
      have h := itoa_pos (u := u) (by omega)
      unfold fmtI at h
      injection h with h
      have h2 : Lib.itoa (u : Int) = dd0 u := by simpa using congrArg Array.toList h
      have := dd0_len19 (u := u) (by omega)
      rw [h2]; omega
    · obtain ⟨u, hu⟩ := Int.eq_ofNat_of_zero_le (show 0 ≤ -n by omega)
      obtain rfl : n = -(u : Int) := by omega
      have h := itoa_neg (u := u) (by omega)
      unfold fmtI at h
      injection h with h
      have h2 : Lib.itoa (-(u : Int)) = 45 :: dd0 u := by simpa using congrArg Array.toList h
      have := dd0_len19 (u := u) (by omega)
      rw [h2, List.length_cons]; omega
theorem tw_len {x : Int} (h0 : -9223372036854775808 ≤ x) (h1 : x ≤ 9223372036854775807) : (tw x).length ≤ 20 := by
  unfold tw
  split
  · simp
  · exact itoa_len h0 h1
/-- Are all numbers such as an int holds? -/
abbrev allR (xs : List Int) : Prop := allB (-9223372036854775808) 9223372036854775807 xs = true
theorem allR_of {xs : List Int} (h : allB 0 17 xs = true) : allR xs := by
  unfold allR allB at *
  rw [List.all_eq_true] at h ⊢
  intro x hx
  have := h x hx
  simp [inB] at this ⊢
  omega
theorem allR_len {xs : List Int} (h : allR xs) : ∀ x ∈ xs, (tw x).length ≤ 20 := fun x hx => by
  unfold allR allB at h
  rw [List.all_eq_true] at h
  have := h x hx
  simp [inB] at this
  exact tw_len this.1 this.2
/-- The terms' texts, commas between. -/
def commaT : List Int → List UInt8
  | [] => []
  | [x] => tw x
  | x :: y :: r => tw x ++ 44 :: commaT (y :: r)
theorem commaT_snoc : ∀ (l : List Int) (x : Int), l ≠ [] → commaT (l ++ [x]) = commaT l ++ 44 :: tw x
  | [], x, h => absurd rfl h
  | [y], x, _ => rfl
  | y :: z :: r, x, _ => by
    have ih := commaT_snoc (z :: r) x (by simp)
    simp only [List.cons_append] at ih ⊢
    rw [commaT, commaT, ih]
    simp
theorem commaT_take (l : List Int) (k : Nat) (hk : k < l.length) : commaT (l.take (k + 1)) = if k = 0 then tw (l.getD k 0) else commaT (l.take k) ++ 44 :: tw (l.getD k 0) := by
  have e : l[k] = l.getD k 0 := by simp [List.getD_eq_getElem?_getD, hk]
  rw [List.take_succ_eq_append_getElem hk, e]
  by_cases h0 : k = 0
  · subst h0; simp [commaT]
  · rw [if_neg h0, commaT_snoc]
    intro h
    have := congrArg List.length h
    rw [List.length_take, List.length_nil] at this
    omega
theorem commaT_len : ∀ l : List Int, (∀ x ∈ l, (tw x).length ≤ 20) → (commaT l).length ≤ 21 * l.length
  | [], _ => by simp [commaT]
  | [x], h => by have := h x (by simp); simp [commaT]; omega
  | x :: y :: r, h => by
    have h1 := commaT_len (y :: r) fun z hz => h z (by simp at hz ⊢; exact .inr hz)
    have h2 := h x (by simp)
    simp only [commaT, List.length_cons, List.length_append] at *
    omega
theorem commaT_join : ∀ l : List Int, Lib.join (l.map tw) [44] = commaT l
  | [] => rfl
  | [x] => by simp [Lib.join_one, commaT]
  | x :: y :: r => by
    have ih := commaT_join (y :: r)
    simp only [List.map_cons] at ih ⊢
    rw [Lib.join_cons] at ih ⊢
    rw [commaT, ← ih]
    simp [Lib.joinTail]

theorem formatTerm_any (x : Int) (h0 : -9223372036854775808 ≤ x) (h1 : x ≤ 9223372036854775807) (w : World) (ht : Tab w) :
    Calls Tryz.prog 67 #[.int .i64 x] w fun e w' => e = .returned (.string ⟨(tw x).toArray⟩) ∧ Below w.heap.size w w' := by
  have HT := Lib.hid (Lib.tabBelow_of_tabIs ht)
  clear ht
  by_cases h : inB x 10 17 = true
  · have h2 : 10 ≤ x ∧ x ≤ 17 := by simpa [inB] using h
    have H := Lib.hid h
    have FD := Lib.hid (fmt_digit (d := x - 10) (by omega) (by omega))
    rw [tw_yes h]
    clear h
    go_enter Tryz.func67, Tryz.ntmps67
    go_wp2_with fail
    refine (impl_IsVar x _).mono ?_
    rintro e w1 ⟨he, rfl⟩
    rw [H.out] at he
    subst he
    go_wp2_with fail
    refine (impl_FormatInt (x - 10) (by omega) (by omega) _ (HT.out _ (Below.refl _ _))).mono ?_
    rintro e w1 ⟨he, d⟩
    rw [FD.out] at he
    subst he
    have D := Lib.hid d
    clear d
    go_wp2
    go_ret
    exact ⟨ret_str rfl, D.out⟩
  · have h' : inB x 10 17 = false := by simpa using h
    have H := Lib.hid h'
    rw [tw_no h']
    clear h h'
    go_enter Tryz.func67, Tryz.ntmps67
    go_wp2_with fail
    refine (impl_IsVar x _).mono ?_
    rintro e w1 ⟨he, rfl⟩
    rw [H.out] at he
    subst he
    go_wp2_with fail
    refine (impl_FormatInt x h0 h1 _ (HT.out _ (Below.refl _ _))).mono ?_
    rintro e w1 ⟨rfl, d⟩
    have D := Lib.hid d
    clear d
    go_wp2
    go_ret
    exact ⟨ret_str rfl, D.out⟩

theorem l3Term_any (x : Int) (h0 : -9223372036854775808 ≤ x) (h1 : x ≤ 9223372036854775807) (w : World) :
    Calls Tryz.prog 87 #[.int .i64 x] w fun e w' => e = .returned (.string ⟨(tw x).toArray⟩) ∧ Below w.heap.size w w' := by
  by_cases h : inB x 10 17 = true
  · have h2 : 10 ≤ x ∧ x ≤ 17 := by simpa [inB] using h
    have H := Lib.hid h
    have FD := Lib.hid (fmt_digit (d := x - 10) (by omega) (by omega))
    rw [tw_yes h]
    clear h
    go_enter Tryz.func87, Tryz.ntmps87
    go_wp2_with fail
    refine (spec_IsVar x _).mono ?_
    rintro e w1 ⟨he, rfl⟩
    rw [H.out] at he
    subst he
    go_wp2_with fail
    refine (spec_FormatInt (x - 10) (by omega) (by omega) _).mono ?_
    rintro e w1 ⟨he, d⟩
    rw [FD.out] at he
    subst he
    have D := Lib.hid d
    clear d
    go_wp2
    go_ret
    exact ⟨ret_str rfl, D.out⟩
  · have h' : inB x 10 17 = false := by simpa using h
    have H := Lib.hid h'
    rw [tw_no h']
    clear h h'
    go_enter Tryz.func87, Tryz.ntmps87
    go_wp2_with fail
    refine (spec_IsVar x _).mono ?_
    rintro e w1 ⟨he, rfl⟩
    rw [H.out] at he
    subst he
    go_wp2_with fail
    refine (spec_FormatInt x h0 h1 _).mono ?_
    rintro e w1 ⟨rfl, d⟩
    have D := Lib.hid d
    clear d
    go_wp2
    go_ret
    exact ⟨ret_str rfl, D.out⟩

set_option maxRecDepth 100000 in
set_option maxHeartbeats 400000 in
theorem l3Terms_any (A : Option Addr) (c : Nat) (xs : List Int) (hl : xs.length ≤ 3) (hd : allR xs) (w : World) (h : RI w A xs) :
    Calls Tryz.prog 45 #[.slice A xs.length c] w fun e w' => e = .returned (.string ⟨(commaT xs).toArray⟩) ∧ Below w.heap.size w w' := by
  have HI := Lib.hid h
  have HD := Lib.hid fun (k : Nat) (hk : k < xs.length) => allB_get hd hk
  have hl' : (xs.length : Int) ≤ 3 := by omega
  have HW := Lib.hid (allR_len hd)
  clear h hd
  go_enter Tryz.func45, Tryz.ntmps45
  go_wp2
  go_loopw [3, 4] (fun v i wr => ∃ k : Nat, k ≤ xs.length ∧ i = .int .i64 k ∧ v = .string ⟨(commaT (xs.take k)).toArray⟩ ∧ Below w.heap.size w wr) (fun _ i _ => xs.length - (intOf i).toNat)
  case atStart => exact ⟨0, by omega, rfl, rfl, Below.refl _ _⟩
  case round =>
    obtain ⟨k, hk, rfl, rfl, hb⟩ := hrel
    have hsz := commaT_len (xs.take k) fun x hx => HW.out x (List.mem_of_mem_take hx)
    rw [List.length_take] at hsz
    have hsz2 : (commaT (xs.take k)).length ≤ 63 := by omega
    clear hsz
    by_cases hlt : k < xs.length
    · have HT := Lib.hid (commaT_take xs k hlt)
      obtain ⟨d0, d1⟩ := HD.out k hlt
      obtain ⟨b, off, rfl, _, hc⟩ := (HI.out.step hb).at_ hlt
      generalize hx : xs.getD k 0 = x at hc d0 d1 HT
      clear hx
      have FD := Lib.hid (tw_len d0 d1)
      have XT := Lib.hid (l3Term_any x d0 d1)
      generalize tw x = X at HT FD XT
      have HL0 := Lib.hid (show k = 0 → commaT (xs.take k) = [] by rintro rfl; rfl)
      generalize hL : commaT (xs.take k) = L at hsz2 HT HL0
      clear hL
      by_cases h0 : k = 0
      · have K0 := Lib.hid h0
        have e1 : ¬ ((0 : Int) < (k : Int)) := by omega
        have e2 : ¬ (0 < k) := by omega
        clear h0
        go_wp2_with fail
        have fl := FD.out
        refine (XT.out _).mono ?_
        rintro e u ⟨rfl, d⟩
        have hb2 := step hb d
        clear d
        go_wp2
        go_roundw
        case rel => exact ⟨k + 1, by omega, by go_num, by rw [HT.out, if_pos K0.out]; have := HL0.out K0.out; subst this; rfl, hb2⟩
        case measure => simp [intOf]; omega
      · have e1 : ((0 : Int) < (k : Int)) := by omega
        have e2 : (0 < k) := by omega
        have K0 := Lib.hid h0
        clear h0
        go_wp2_with fail
        have fl := FD.out
        refine (XT.out _).mono ?_
        rintro e u ⟨rfl, d⟩
        have hb2 := step hb d
        clear d
        go_wp2
        go_roundw
        case rel => exact ⟨k + 1, by omega, by go_num, by rw [HT.out, if_neg K0.out, show (⟨#[44]⟩ : ByteArray) = ⟨[44].toArray⟩ from rfl, ba_append, ba_append]; simp, hb2⟩
        case measure => simp [intOf]; omega
    · obtain rfl : k = xs.length := by omega
      go_wp2
      go_ret
      exact ⟨ret_str (by rw [take_all]), hb⟩

set_option maxRecDepth 100000 in
set_option maxHeartbeats 400000 in
theorem formatList_term (A : Option Addr) (c : Nat) (xs : List Int) (hl : xs.length ≤ 3) (hd : allR xs) (w : World) (h : RI w A xs) (ht : Tab w) :
    Calls Tryz.prog 78 #[.slice A xs.length c, .func (.func 67) #[] #[]] w fun e w' => e = .returned (.string ⟨(commaT xs).toArray⟩) ∧ Below w.heap.size w w' := by
  obtain ⟨C, hC, hCs, hmk⟩ := makeStrs xs.length (by omega)
  have HI := Lib.hid h
  have HT := Lib.hid (Lib.tabBelow_of_tabIs ht)
  have HD := Lib.hid fun (k : Nat) (hk : k < xs.length) => allB_get hd hk
  have HC := Lib.hid hC
  have HS := Lib.hid hCs
  have hl' : (xs.length : Int) ≤ 3 := by omega
  have HW := Lib.hid (allR_len hd)
  clear h hd ht hC hCs
  go_enter Tryz.func78, Tryz.ntmps78
  go_wp2
  go_loopw [6, 7, 13] (fun _ _ i wr => ∃ k : Nat, k ≤ xs.length ∧ i = .int .i64 k ∧ (∃ f, wr.rowIs w.heap.size 9 xs.length f ∧ ∀ j, j < k → f j = .string ⟨(tw (xs.getD j 0)).toArray⟩) ∧ Below w.heap.size w wr ∧ w.heap.size < wr.heap.size) (fun _ _ i _ => xs.length - (intOf i).toNat)
  case atStart => exact ⟨0, by omega, rfl, ⟨fun _ => .string ⟨#[]⟩, ⟨C, by rw [heap_alloc_new], HS.out, fun i hi => HC.out i hi⟩, fun j hj => by omega⟩, below_alloc _ _, by simp⟩
  case round =>
    obtain ⟨k, hk, rfl, ⟨f, hr, hf⟩, hb, hsz⟩ := hrel
    have HF := Lib.hid hf
    have HR := Lib.hid hr
    clear hf hr
    by_cases hlt : k < xs.length
    · obtain ⟨d0, d1⟩ := HD.out k hlt
      obtain ⟨b, off, rfl, _, hc⟩ := (HI.out.step hb).at_ hlt
      generalize hx : xs.getD k 0 = x at hc d0 d1
      have HX := Lib.hid hx
      clear hx
      go_wp2_with fail
      refine (formatTerm_any x d0 d1 _ (HT.out _ hb)).mono ?_
      rintro e u ⟨rfl, d⟩
      have hb2 := step hb d
      have HR2 := Lib.hid (World.rowIs.of_block HR.out (d.block _ hsz))
      have hsz2 : w.heap.size < u.heap.size := by have := d.size; omega
      have hz1 := HR2.out.cell hlt
      have hz2 := HR2.out.frozen k
      clear d
      go_wp2
      go_roundw
      case rel =>
        refine ⟨k + 1, by omega, by go_num, ⟨_, HR2.out.set k _, fun j hj => ?_⟩, hb2.setCell (Nat.le_refl _) _, by simpa [World.setCell] using hsz2⟩
        by_cases e : j = k
        · subst e; rw [if_pos rfl, HX.out]
        · rw [if_neg e]; exact HF.out j (by omega)
      case measure => simp [intOf]; omega
    · obtain rfl : k = xs.length := by omega
      have hlen : (xs.map fun x => (⟨(tw x).toArray⟩ : ByteArray)).length = xs.length := by simp
      have hmap : (xs.map fun x => (⟨(tw x).toArray⟩ : ByteArray)).map (·.data.toList) = xs.map tw := by simp
      have hj := Tryz.strings_Join w.heap.size 0 xs.length (xs.map fun x => ⟨(tw x).toArray⟩) ⟨#[44]⟩ wr (fun j x hx => by
        have hj : j < xs.length := by rw [← hlen]; exact (List.getElem?_eq_some_iff.1 hx).1
        rw [Nat.zero_add, HR.out.cell hj, HF.out j hj]
        rw [List.getElem?_map, List.getElem?_eq_getElem hj] at hx
        injection hx with hx
        subst hx
        simp [List.getD_eq_getElem?_getD, hj]) hsz (by rw [hlen]; omega) (by rw [hlen]; exact Nat.le_refl _) (by rw [hmap, commaT_join]; have := commaT_len xs HW.out; omega)
      rw [hmap, hlen, show (⟨#[44]⟩ : ByteArray).data.toList = [44] from rfl, commaT_join] at hj
      have HJ := Lib.hid hj
      clear hj hlen hmap
      go_wp2_with fail
      refine HJ.out.mono ?_
      rintro e u ⟨rfl, d⟩
      go_wp2
      go_ret
      exact ⟨rfl, step hb d⟩
set_option maxRecDepth 100000 in
set_option maxHeartbeats 1000000 in
theorem formatParts_term (r : Int) (xs : List Int) (A : Option Addr) (c : Nat) (h0 : 0 ≤ r) (h9 : r ≤ 9) (hl : xs.length ≤ 3) (hd : allR xs) (w : World) (h : RI w A xs) (ht : Tab w) :
    Calls Tryz.prog 66 #[.int .i64 r, .slice A xs.length c, .func (.func 67) #[] #[]] w fun e w' => e = .returned (.string ⟨([114, dg r, 40] ++ commaT xs ++ [41]).toArray⟩) ∧ Below w.heap.size w w' := by
  have FD := Lib.hid (fmt_digit h0 h9)
  have HI := Lib.hid h
  have HT := Lib.hid (Lib.tabBelow_of_tabIs ht)
  have XL := Lib.hid fun (W : World) (hW : Below w.heap.size w W) => formatList_term A c xs hl hd W (HI.out.step hW) (HT.out _ hW)
  have hsz := commaT_len xs (allR_len hd)
  have hsz2 : (commaT xs).length ≤ 70 := by omega
  have FC := Lib.hid (fmt_cat r (commaT xs))
  generalize commaT xs = L at hsz2 XL FC ⊢
  clear hsz h ht hd
  go_enter Tryz.func66, Tryz.ntmps66
  go_wp2_with fail
  refine (impl_FormatInt r (by omega) (by omega) _ (HT.out _ (Below.refl _ _))).mono ?_
  rintro e w1 ⟨he, d⟩
  rw [FD.out] at he
  subst he
  have D1 := Lib.hid d
  clear d
  go_wp2_with fail
  refine (XL.out _ D1.out).mono ?_
  rintro e w2 ⟨rfl, d⟩
  have D2 := Lib.hid (step D1.out d)
  clear d
  go_wp2
  go_ret
  exact ⟨ret_str FC.out, D2.out⟩

end Go.Proofs.YtfhlmindkogdoaaGreatDoor

namespace Go.Proofs.YtfhlmindkogdoaaGreatDoor
open Go.ChangeShapes Go.WideShapes Go.ChangeAt Go.RowKit Go.Sort
set_option linter.unusedVariables false
set_option linter.unusedSimpArgs false

/-- Has the atom a text? -/
def fmtOkA (r : Int) (xs : List Int) : Bool := inB r 0 2 && inB (xs.length : Int) 1 3 && allB 0 17 xs
/-- The text of an atom. -/
def fmtA (r : Int) (xs : List Int) : ByteArray := if fmtOkA r xs = true then ⟨([114, dg r, 40] ++ commaT xs ++ [41]).toArray⟩ else ⟨#[]⟩
theorem fmtA_yes {r : Int} {xs : List Int} (h : fmtOkA r xs = true) : fmtA r xs = ⟨([114, dg r, 40] ++ commaT xs ++ [41]).toArray⟩ := if_pos h
theorem fmtA_no {r : Int} {xs : List Int} (h : fmtOkA r xs = false) : fmtA r xs = ⟨#[]⟩ := if_neg (by simp [h])

set_option maxRecDepth 100000 in
set_option maxHeartbeats 1000000 in
theorem impl_FormatAtom (r : Int) (xs : List Int) (A : Option Addr) (c : Nat) (hl : xs.length ≤ 1048576) (w : World) (h : RI w A xs) (ht : Tab w) :
    Calls Tryz.prog 26 #[.agg #[.int .i64 r, .slice A xs.length c]] w fun e w' => e = .returned (.string (fmtA r xs)) ∧ Below w.heap.size w w' := by
  have hx' : (xs.length : Int) ≤ 1048576 := by omega
  have B0 := Lib.hid (below_alloc w (.cells #[.int .i64 r, .slice A xs.length c] 38))
  have HI := Lib.hid (h.step B0.out)
  have HT := Lib.hid (Lib.tabBelow_of_tabIs ht)
  have g0 := cell_new w #[.int .i64 r, .slice A xs.length c] 38 0
  have g1 := cell_new w #[.int .i64 r, .slice A xs.length c] 38 1
  simp only [List.getElem?_toArray, List.getElem?_cons_zero, List.getElem?_cons_succ] at g0 g1
  have k0 := cell_regrown g0
  have k1 := cell_regrown g1
  clear g0 g1
  by_cases c1 : inB r 0 2 = true
  · have C1 := Lib.hid c1
    have hr : 0 ≤ r ∧ r ≤ 2 := by simpa [inB] using c1
    by_cases c2 : inB (xs.length : Int) 1 3 = true
    · have C2 := Lib.hid c2
      have hn : 1 ≤ (xs.length : Int) ∧ (xs.length : Int) ≤ 3 := by simpa [inB] using c2
      by_cases c3 : allB 0 17 xs = true
      · have C3 := Lib.hid c3
        have FO := Lib.hid (show fmtOkA r xs = true by simp [fmtOkA, c1, c2, c3])
        have XP := Lib.hid fun (W : World) (hW : Below w.heap.size w W) => formatParts_term r xs A c hr.1 (by omega) (by omega) (allR_of C3.out) W (h.step hW) (HT.out _ hW)
        rw [fmtA_yes FO.out]
        clear h ht c1 c2 c3
        go_enter Tryz.func26, Tryz.ntmps26
        go_wp2_with fail
        refine (isRelation_any r _).mono ?_
        rintro e w1 ⟨he, rfl⟩
        rw [C1.out] at he
        subst he
        go_wp2_with fail
        refine (isArity_any (xs.length : Int) _).mono ?_
        rintro e w1 ⟨he, rfl⟩
        rw [C2.out] at he
        subst he
        go_wp2_with fail
        refine (areAll_term _ _ A c xs (by omega) _ HI.out).mono ?_
        rintro e w1 ⟨he, rfl⟩
        rw [C3.out] at he
        subst he
        clear k0 k1
        go_wp2_with fail
        refine (XP.out _ B0.out).mono ?_
        rintro e w1 ⟨rfl, d⟩
        have D1 := Lib.hid (step B0.out d)
        clear d
        go_wp2
        go_ret
        exact ⟨rfl, D1.out⟩
      · have C3 := Lib.hid (show allB 0 17 xs = false by simpa using c3)
        rw [fmtA_no (show fmtOkA r xs = false by simp [fmtOkA, C3.out])]
        clear h ht c1 c2 c3
        go_enter Tryz.func26, Tryz.ntmps26
        go_wp2_with fail
        refine (isRelation_any r _).mono ?_
        rintro e w1 ⟨he, rfl⟩
        rw [C1.out] at he
        subst he
        go_wp2_with fail
        refine (isArity_any (xs.length : Int) _).mono ?_
        rintro e w1 ⟨he, rfl⟩
        rw [C2.out] at he
        subst he
        go_wp2_with fail
        refine (areAll_term _ _ A c xs (by omega) _ HI.out).mono ?_
        rintro e w1 ⟨he, rfl⟩
        rw [C3.out] at he
        subst he
        go_wp2
        go_ret
        exact ⟨rfl, B0.out⟩
    · have C2 := Lib.hid (show inB (xs.length : Int) 1 3 = false by simpa using c2)
      rw [fmtA_no (show fmtOkA r xs = false by simp [fmtOkA, C2.out])]
      clear h ht c1 c2
      go_enter Tryz.func26, Tryz.ntmps26
      go_wp2_with fail
      refine (isRelation_any r _).mono ?_
      rintro e w1 ⟨he, rfl⟩
      rw [C1.out] at he
      subst he
      go_wp2_with fail
      refine (isArity_any (xs.length : Int) _).mono ?_
      rintro e w1 ⟨he, rfl⟩
      rw [C2.out] at he
      subst he
      go_wp2
      go_ret
      exact ⟨rfl, B0.out⟩
  · have C1 := Lib.hid (show inB r 0 2 = false by simpa using c1)
    rw [fmtA_no (show fmtOkA r xs = false by simp [fmtOkA, C1.out])]
    clear h ht c1
    go_enter Tryz.func26, Tryz.ntmps26
    go_wp2_with fail
    refine (isRelation_any r _).mono ?_
    rintro e w1 ⟨he, rfl⟩
    rw [C1.out] at he
    subst he
    go_wp2
    go_ret
    exact ⟨rfl, B0.out⟩

set_option maxRecDepth 100000 in
set_option maxHeartbeats 1000000 in
theorem spec_FormatAtom (r : Int) (xs : List Int) (A : Option Addr) (c : Nat) (hl : xs.length ≤ 1048576) (w : World) (h : RI w A xs) :
    Calls Tryz.prog 27 #[.agg #[.int .i64 r, .slice A xs.length c]] w fun e w' => e = .returned (.string (fmtA r xs)) ∧ Below w.heap.size w w' := by
  have hx' : (xs.length : Int) ≤ 1048576 := by omega
  have B0 := Lib.hid (below_alloc w (.cells #[.int .i64 r, .slice A xs.length c] 38))
  have HI := Lib.hid (h.step B0.out)
  have g0 := cell_new w #[.int .i64 r, .slice A xs.length c] 38 0
  have g1 := cell_new w #[.int .i64 r, .slice A xs.length c] 38 1
  simp only [List.getElem?_toArray, List.getElem?_cons_zero, List.getElem?_cons_succ] at g0 g1
  have k0 := cell_regrown g0
  have k1 := cell_regrown g1
  clear h g0 g1
  by_cases c1 : inB r 0 2 = true
  · have C1 := Lib.hid c1
    have hr : 0 ≤ r ∧ r ≤ 2 := by simpa [inB] using c1
    by_cases c2 : inB (xs.length : Int) 1 3 = true
    · have C2 := Lib.hid c2
      have hn : 1 ≤ (xs.length : Int) ∧ (xs.length : Int) ≤ 3 := by simpa [inB] using c2
      clear c1 c2
      go_enter Tryz.func27, Tryz.ntmps27
      go_wp2_with fail
      refine (l1In_any r 0 2 _).mono ?_
      rintro e w1 ⟨he, rfl⟩
      rw [C1.out] at he
      subst he
      go_wp2_with fail
      refine (l1In_any (xs.length : Int) 1 3 _).mono ?_
      rintro e w1 ⟨he, rfl⟩
      rw [C2.out] at he
      subst he
      go_wp2
      go_loop [3] (fun i => ∃ j : Nat, j ≤ xs.length ∧ i = .int .i64 j ∧ allB 0 17 (xs.take j) = true) (fun i => xs.length - (intOf i).toNat)
      case atStart => exact ⟨0, by omega, rfl, rfl⟩
      case round =>
        obtain ⟨j, hj, rfl, ha⟩ := hrel
        have HA := Lib.hid ha
        clear ha
        by_cases hlt : j < xs.length
        · obtain ⟨b2, off2, rfl, _, hc⟩ := HI.out.at_ hlt
          generalize hx : xs.getD j 0 = x at hc
          have HX := Lib.hid hx
          clear hx
          by_cases hin : inB x 0 17 = true
          · have HN := Lib.hid hin
            clear hin
            go_wp2_with fail
            refine (spec_IsTerm x _).mono ?_
            rintro e w' ⟨rfl, rfl⟩
            rw [HN.out]
            go_wp2
            go_round
            case rel => exact ⟨j + 1, by omega, by go_num, by rw [allB_take _ _ _ _ hlt, HA.out, HX.out, HN.out]; rfl⟩
            case measure => simp [intOf]; omega
          · have HN := Lib.hid (show inB x 0 17 = false by simpa using hin)
            clear hin
            go_wp2_with fail
            refine (spec_IsTerm x _).mono ?_
            rintro e w' ⟨rfl, rfl⟩
            rw [HN.out]
            go_wp2
            go_ret
            exact ⟨ret_str (fmtA_no (by simp [fmtOkA, allB_not _ _ _ j hlt (by rw [HX.out]; exact HN.out)])).symm, B0.out⟩
        · obtain rfl : j = xs.length := by omega
          have C3 := Lib.hid (show allB 0 17 xs = true by have := HA.out; rwa [take_all] at this)
          have FO := Lib.hid (show fmtOkA r xs = true by simp [fmtOkA, C1.out, C2.out, C3.out])
          have FD := Lib.hid (fmt_digit hr.1 (show r ≤ 9 by omega))
          have X1 := Lib.hid fun (W : World) => (show Calls Tryz.prog 68 #[.int .i64 r] W fun e w' => e = .returned (.string ⟨#[dg r]⟩) ∧ Below W.heap.size W w' by have := spec_FormatInt r (by omega) (by omega) W; rw [FD.out] at this; exact this)
          have X2 := Lib.hid fun (W : World) (hW : Below (w.alloc (.cells #[.int .i64 r, .slice A xs.length c] 38)).heap.size (w.alloc (.cells #[.int .i64 r, .slice A xs.length c] 38)) W) => l3Terms_any A c xs (by omega) (allR_of C3.out) W (HI.out.step hW)
          have hsz := commaT_len xs (allR_len (allR_of C3.out))
          have hsz2 : (commaT xs).length ≤ 70 := by omega
          have FC := Lib.hid ((fmt_cat r (commaT xs)).trans (fmtA_yes FO.out).symm)
          generalize commaT xs = L at hsz2 X2 FC
          clear hsz
          go_wp2
          refine wp_region_quiet_below (by kernel_rfl) (by kernel_rfl) ?_
          repeat (go_big_quiet_step (first | (go_at_call 68; with_reducible exact Calls.regrown_of (X1.out _)) | (go_at_call 45; with_reducible exact Calls.regrown_of (X2.out _ (below_regrown _ _ _)))))
          refine wpQuiet_nil ?_
          intro u hw'
          have hb2 := step B0.out (show Below _ _ u by obtain ⟨⟨dq, osq⟩, rfl⟩ := hw'; exact below_regrown _ _ _)
          clear hw' k0 k1
          go_wp2
          go_ret
          exact ⟨ret_str FC.out, hb2⟩
    · have C2 := Lib.hid (show inB (xs.length : Int) 1 3 = false by simpa using c2)
      rw [fmtA_no (show fmtOkA r xs = false by simp [fmtOkA, C2.out])]
      clear c1 c2
      go_enter Tryz.func27, Tryz.ntmps27
      go_wp2_with fail
      refine (l1In_any r 0 2 _).mono ?_
      rintro e w1 ⟨he, rfl⟩
      rw [C1.out] at he
      subst he
      go_wp2_with fail
      refine (l1In_any (xs.length : Int) 1 3 _).mono ?_
      rintro e w1 ⟨he, rfl⟩
      rw [C2.out] at he
      subst he
      go_wp2
      go_ret
      exact ⟨rfl, B0.out⟩
  · have C1 := Lib.hid (show inB r 0 2 = false by simpa using c1)
    rw [fmtA_no (show fmtOkA r xs = false by simp [fmtOkA, C1.out])]
    clear c1
    go_enter Tryz.func27, Tryz.ntmps27
    go_wp2_with fail
    refine (l1In_any r 0 2 _).mono ?_
    rintro e w1 ⟨he, rfl⟩
    rw [C1.out] at he
    subst he
    go_wp2
    go_ret
    exact ⟨rfl, B0.out⟩

theorem impl_FormatAtom_r (r : Int) (xs : List Int) (A : Option Addr) (c : Nat) (hl : xs.length ≤ 1048576) (w : World) (h : RI w A xs) (ht : TabB w) :
    Calls Tryz.prog 26 #[.agg #[.int .i64 r, .slice A xs.length c]] w fun e w' => e = .returned (.string (fmtA r xs)) ∧ Below w.heap.size w w' :=
  impl_FormatAtom r xs A c hl w h (ht w (Below.refl _ _))
end Go.Proofs.YtfhlmindkogdoaaGreatDoor
