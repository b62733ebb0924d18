/- The texts of queries, parsed both ways: plain facts, the whole. Conditions: none beyond each theorem's own. What the functions that read a term answer. Conditions: none beyond each theorem's own. What the program's parseList with parseTerm answers. Conditions: none beyond each theorem's own. What parseParts answers with parseTerm. Conditions: none beyond each theorem's own. -/
import Derived.Test.YtfhlmindkogdoaaGreatDoorPq11
import Derived.Test.YtfhlmindkogdoaaGreatDoorPq4

namespace Go.Proofs.YtfhlmindkogdoaaGreatDoor
open Go.ChangeShapes Go.WideShapes Go.ChangeAt Go.RowKit Go.Sort
open Go.Proofs.YtfhlmindkogdoaaGreatDoor.atom
set_option linter.unusedVariables false
set_option linter.unusedSimpArgs false

def sepIf : List UInt8 := [32, 105, 102, 32]
def sepAnd : List UInt8 := [32, 97, 110, 100, 32]
def yesB : ByteArray := mkB [121, 101, 115]
/-- What a query's text falls into, the program's way. -/
def hdQ (s : ByteArray) : ByteArray := ⟨(Lib.cut s.data.toList sepIf).1.toArray⟩
def bdQ (s : ByteArray) : ByteArray := ⟨(Lib.cut s.data.toList sepIf).2.1.toArray⟩
def fdQ (s : ByteArray) : Bool := (Lib.cut s.data.toList sepIf).2.2
def partsQ (b : ByteArray) : List ByteArray := Lib.splitB (mkB sepAnd) 0 (Lib.countB b (mkB sepAnd)) b
noncomputable def hsI (h : ByteArray) : List Int := if h = yesB then [] else (wordsI h).map tN
def okH (h : ByteArray) : Prop := h = yesB ∨ ∀ x ∈ wordsI h, tB x = true
theorem hdQ_size (s : ByteArray) : (hdQ s).size ≤ s.size ∧ (bdQ s).size ≤ s.size := by
  unfold hdQ bdQ Lib.cut
  split
  · simp only [size_eq', List.length_take, List.length_drop]; omega
  · simp only [size_eq']; simp
theorem parts_len (b : ByteArray) : (partsQ b).length = Lib.countB b (mkB sepAnd) + 1 := Lib.splitB_all _ (by decide) 0 _ _ rfl
theorem parts_sz (b : ByteArray) : szB (partsQ b) ≤ b.size + 1 := szB_split _ (by decide) _ _
theorem parts_le (b : ByteArray) : (partsQ b).length ≤ b.size + 1 := by
  rw [parts_len]
  have := Lib.countB_le (mkB sepAnd) (by decide) b.size b (Nat.le_refl _)
  omega
theorem parts_size {b x : ByteArray} (h : x ∈ partsQ b) : x.size ≤ b.size := splitB_mem _ _ _ _ h
def okQI (S : List Int) (s : ByteArray) : Prop :=
  okH (hdQ s) ∧ (∀ p ∈ partsQ (bdQ s), okI p) ∧ queryB S (hsI (hdQ s)) ((partsQ (bdQ s)).map atI) = true ∧ fmtQ (hsI (hdQ s)) ((partsQ (bdQ s)).map atI) = s
noncomputable instance (S : List Int) (s : ByteArray) : Decidable (okQI S s) := Classical.propDecidable _
noncomputable def prsQ (S : List Int) (s : ByteArray) : List Int × FL × Bool := if okQI S s then (hsI (hdQ s), (partsQ (bdQ s)).map atI, true) else ([], [], false)
theorem prsQ_no {S : List Int} {s : ByteArray} (h : ¬ okQI S s) : prsQ S s = ([], [], false) := if_neg h
theorem prsQ_yes {S : List Int} {s : ByteArray} (h : okQI S s) : prsQ S s = (hsI (hdQ s), (partsQ (bdQ s)).map atI, true) := if_pos h

/-- Every second one. -/
def evs {α : Type} : List α → List α
  | [] => []
  | [a] => [a]
  | a :: _ :: r => a :: evs r
theorem evs_get {α : Type} : ∀ (l : List α) (k : Nat), (evs l)[k]? = l[2 * k]?
  | [], k => by simp [evs]
  | [a], 0 => by simp [evs]
  | [a], k + 1 => by simp [evs]
  | a :: b :: r, 0 => by simp [evs]
  | a :: b :: r, k + 1 => by
    have ih := evs_get r k
    rw [show 2 * (k + 1) = 2 * k + 1 + 1 by omega]
    simp only [evs, List.getElem?_cons_succ]
    exact ih
theorem evs_len {α : Type} : ∀ l : List α, (evs l).length = (l.length + 1) / 2
  | [] => by simp [evs]
  | [a] => by simp [evs]
  | a :: b :: r => by
    have ih := evs_len r
    simp only [evs, List.length_cons]
    omega
theorem evs_sz : ∀ l : List ByteArray, szB (evs l) ≤ szB l
  | [] => by simp [evs]
  | [a] => by simp [evs]
  | a :: b :: r => by
    have ih := evs_sz r
    unfold szB at ih ⊢
    simp only [evs, List.map_cons, List.sum_cons]
    omega
theorem evs_mem {α : Type} : ∀ (l : List α) (x : α), x ∈ evs l → x ∈ l
  | [], x, h => by simp [evs] at h
  | [a], x, h => by simpa [evs] using h
  | a :: b :: r, x, h => by
    simp only [evs, List.mem_cons] at h
    rcases h with h | h
    · simp [h]
    · have := evs_mem r x h
      simp [this]
/-- The words with a word between. -/
def inter {α : Type} (m : α) : List α → List α
  | [] => []
  | [a] => [a]
  | a :: b :: r => a :: m :: inter m (b :: r)
theorem evs_inter {α : Type} (m : α) : ∀ l : List α, evs (inter m l) = l
  | [] => rfl
  | [a] => rfl
  | a :: b :: r => by
    have ih := evs_inter m (b :: r)
    rw [inter, evs, ih]
theorem inter_cons {α : Type} (m a : α) (r : List α) : ∃ t, inter m (a :: r) = a :: t := by
  cases r with
  | nil => exact ⟨_, rfl⟩
  | cons b r => exact ⟨_, rfl⟩
theorem inter_map {α β : Type} (f : α → β) (m : α) : ∀ l : List α, (inter m l).map f = inter (f m) (l.map f)
  | [] => rfl
  | [a] => rfl
  | a :: b :: r => by
    have ih := inter_map f m (b :: r)
    simp only [inter, List.map_cons] at ih ⊢
    rw [ih]
theorem inter_mem {α : Type} (m : α) : ∀ (l : List α) (x : α), x ∈ inter m l → x = m ∨ x ∈ l
  | [], x, h => by simp [inter] at h
  | [a], x, h => by simp [inter] at h; simp [h]
  | a :: b :: r, x, h => by
    simp only [inter, List.mem_cons] at h
    rcases h with h | h | h
    · simp [h]
    · exact .inl h
    · rcases inter_mem m (b :: r) x h with h | h
      · exact .inl h
      · exact .inr (List.mem_cons_of_mem _ h)
theorem join_inter : ∀ ws : List (List UInt8), Lib.join (inter [97, 110, 100] ws) [32] = Lib.join ws sepAnd
  | [] => rfl
  | [a] => by rw [inter, Lib.join_one, Lib.join_one]
  | a :: b :: r => by
    have ih := join_inter (b :: r)
    obtain ⟨t, ht⟩ := inter_cons ([97, 110, 100] : List UInt8) b r
    rw [inter, join_two, ht, join_two, ← ht, ih, join_two]
    simp [sepAnd]

/-- What a query's text falls into, the model's way. -/
noncomputable def hsS (s : ByteArray) : List Int := if (cutQ s).getD 0 ⟨#[]⟩ = yesB then [] else (cutW ((cutQ s).getD 0 ⟨#[]⟩)).map tS
noncomputable def asS (s : ByteArray) : FL := (evs ((cutQ s).drop 2)).map atS
theorem hsS_allR (s : ByteArray) : allR (hsS s) := by
  unfold hsS
  split
  · rfl
  · exact tS_allR _
theorem hsS_len (s : ByteArray) : (hsS s).length ≤ s.size + 1 := by
  unfold hsS
  split
  · simp
  · rw [List.length_map]
    have h1 := cutW_len ((cutQ s).getD 0 ⟨#[]⟩)
    have h2 : ((cutQ s).getD 0 ⟨#[]⟩).size ≤ s.size := by
      rw [List.getD_eq_getElem?_getD]
      cases h : (cutQ s)[0]? with
      | none => show 0 ≤ _; omega
      | some x => exact cutQ_size (List.mem_of_getElem? h)
    omega
theorem sum_atS : ∀ ws : List ByteArray, szF (ws.map atS) ≤ szB ws
  | [] => by simp [szF, sumN, szB]
  | a :: r => by
    have ih := sum_atS r
    have := atS_len a
    unfold szF sumN szB at *
    simp only [List.map_cons, List.sum_cons, List.length_cons] at *
    omega
theorem szB_drop : ∀ (l : List ByteArray) (k : Nat), szB (l.drop k) ≤ szB l
  | [], k => by simp
  | a :: r, 0 => by simp
  | a :: r, k + 1 => by
    have ih := szB_drop r k
    unfold szB at *
    simp only [List.drop_succ_cons, List.map_cons, List.sum_cons]
    omega
theorem szB_drop2 (l : List ByteArray) (h : l.length ≠ 0) : szB (l.drop 2) + 1 ≤ szB l := by
  cases l with
  | nil => simp at h
  | cons a r =>
    have := szB_drop r 1
    unfold szB at *
    simp only [List.drop_succ_cons, List.map_cons, List.sum_cons]
    omega
theorem asS_sz (s : ByteArray) : szF (asS s) ≤ s.size := by
  unfold asS
  have h1 := sum_atS (evs ((cutQ s).drop 2))
  have h2 := evs_sz ((cutQ s).drop 2)
  have h3 := szB_drop2 (cutQ s) (by have := cutQ_ne s; simpa using this)
  have h4 := szB_cutQ s
  omega

theorem queryB_parts {S hs : List Int} {l : FL} (h : queryB S hs l = true) : qOk hs l = true ∧ (∀ f ∈ l, fmtOkA f.1 f.2 = true) ∧ allB 0 17 hs = true ∧ l ≠ [] ∧ hs.length ≤ 3 ∧ l.length ≤ 4 := by
  have h' := h
  rw [queryB_i] at h'
  simp only [Bool.and_eq_true] at h'
  obtain ⟨⟨h1, h2⟩, h3⟩ := h'
  have h2' := h2
  unfold headB at h2'
  simp only [Bool.and_eq_true, decide_eq_true_eq] at h2'
  have h1' : 1 ≤ (l.length : Int) ∧ (l.length : Int) ≤ 4 := by simpa [inB] using h1
  have h4 : ∀ f ∈ l, fmtOkA f.1 f.2 = true := fun f hf => by
    unfold atomsB at h3
    rw [List.all_eq_true] at h3
    have := h3 f hf
    unfold atom.factB schB at this
    simp only [Bool.and_eq_true, decide_eq_true_eq] at this
    obtain ⟨⟨⟨⟨a1, a2⟩, a3⟩, a4⟩, a5⟩ := this
    have a2' : 1 ≤ (S.length : Int) ∧ (S.length : Int) ≤ 3 := by simpa [inB] using a2
    have a3' : 0 ≤ f.1 ∧ f.1 ≤ (S.length : Int) - 1 := by simpa [inB] using a3
    have a6 := allB_get a1 (show f.1.toNat < S.length by omega)
    rw [← a4] at a6
    unfold fmtOkA
    rw [a5]
    simp [inB]
    omega
  refine ⟨?_, h4, head_allR h2'.2, fun e => by subst e; simp at h1', h2'.1, by omega⟩
  unfold qOk okA
  rw [h1, h2]
  simp only [Bool.true_and, List.all_eq_true]
  exact h4
theorem headL_no {hs : List Int} (h : allB 0 17 hs = true) : (32 : UInt8) ∉ headL hs := by
  unfold headL
  split
  · decide
  · exact (commaT_no h).1
theorem atL_no {f : Int × List Int} (h : fmtOkA f.1 f.2 = true) : (32 : UInt8) ∉ atL f := by
  obtain ⟨r, xs⟩ := f
  obtain ⟨h0, h1, h2, h3⟩ := okA_parts h
  have hd : (32 : UInt8) ≠ dg r := by
    rcases digits10 h0 (show r ≤ 9 by omega) with rfl | rfl | rfl | rfl | rfl | rfl | rfl | rfl | rfl | rfl <;> decide
  rw [atL_eq]
  simp only [List.mem_cons, List.mem_append, List.not_mem_nil, or_false, not_or]
  exact ⟨by decide, hd, by decide, (commaT_no h3).1, by decide⟩
theorem head_yes {hs : List Int} (h : allB 0 17 hs = true) : mkB (headL hs) = yesB ↔ hs = [] := by
  constructor
  · intro e
    by_cases hn : hs.length = 0
    · exact List.length_eq_zero_iff.1 hn
    · exfalso
      have h1 : headL hs = [121, 101, 115] := by
        have := congrArg (fun s : ByteArray => s.data.toList) e
        simpa [mkB, yesB] using this
      unfold headL at h1
      rw [if_neg hn] at h1
      exact (commaT_no h).2 (by rw [h1]; simp)
  · rintro rfl; rfl
theorem fmtQ_join {hs : List Int} {l : FL} : mkB (headL hs ++ [32, 105, 102, 32] ++ andL l) = mkB (headL hs ++ (sepIf ++ Lib.join (l.map atL) sepAnd)) := by
  rw [← and_join, List.append_assoc]; rfl
/-- The program's parse of a lawful query's text. -/
theorem hitQ_impl {S hs : List Int} {l : FL} {s : ByteArray} (h : queryB S hs l = true) (e : fmtQ hs l = s) : prsQ S s = (hs, l, true) := by
  obtain ⟨h1, h2, h3, h4, h5, h6⟩ := queryB_parts h
  have es : s = mkB (headL hs ++ (sepIf ++ Lib.join (l.map atL) sepAnd)) := by rw [← fmtQ_join, ← e, fmtQ_yes h1]; rfl
  have hi : Lib.index (headL hs ++ (sepIf ++ Lib.join (l.map atL) sepAnd)) sepIf = ((headL hs).length : Int) := index_word (headL_no h3)
  have hc : Lib.cut s.data.toList sepIf = (headL hs, Lib.join (l.map atL) sepAnd, true) := by
    rw [es, mkB_list]
    unfold Lib.cut
    rw [hi, if_pos (by omega), Int.toNat_natCast, List.take_left, List.drop_append, List.drop_eq_nil_of_le (by omega), Nat.add_sub_cancel_left, List.drop_left]
    rfl
  have e1 : hdQ s = mkB (headL hs) := by unfold hdQ; rw [hc]; rfl
  have e2 : bdQ s = mkB (Lib.join (l.map atL) sepAnd) := by unfold bdQ; rw [hc]; rfl
  have e3 : partsQ (bdQ s) = l.map fun f => mkB (atL f) := by
    rw [e2]
    have := split_join 32 [97, 110, 100, 32] (l.map atL) (by simpa using h4) fun w hw => by
      obtain ⟨f, hf, rfl⟩ := List.mem_map.1 hw
      exact atL_no (h2 f hf)
    rw [List.map_map] at this
    exact this
  have e4 : (partsQ (bdQ s)).map atI = l := by
    rw [e3, List.map_map]
    have : ∀ f ∈ l, (atI ∘ fun f => mkB (atL f)) f = f := fun f hf => (atI_hit (h2 f hf)).2
    exact (List.map_congr_left this).trans (List.map_id' l)
  have e5 : ∀ p ∈ partsQ (bdQ s), okI p := fun p hp => by
    rw [e3] at hp
    obtain ⟨f, hf, rfl⟩ := List.mem_map.1 hp
    exact (atI_hit (h2 f hf)).1
  have e6 : hsI (hdQ s) = hs ∧ okH (hdQ s) := by
    rw [e1]
    by_cases hn : hs = []
    · subst hn
      have := (head_yes (hs := []) rfl).2 rfl
      exact ⟨if_pos this, .inl this⟩
    · have hl : ¬ hs.length = 0 := fun e => hn (List.length_eq_zero_iff.1 e)
      have hne : ¬ mkB (headL hs) = yesB := fun e => hn ((head_yes h3).1 e)
      have hw : wordsI (mkB (headL hs)) = wrdT hs := by
        unfold headL
        rw [if_neg hl]
        exact (words_T hn h3).1
      refine ⟨?_, .inr ?_⟩
      · unfold hsI
        rw [if_neg hne, hw]
        exact (wrdT_hit h3).2.1
      · rw [hw]
        exact (wrdT_hit h3).1
  have ok : okQI S s := ⟨e6.2, e5, by rw [e6.1, e4]; exact h, by rw [e6.1, e4]; exact e⟩
  rw [prsQ_yes ok, e6.1, e4]
/-- The model's parse of a lawful query's text. -/
theorem hitQ_spec {S hs : List Int} {l : FL} {s : ByteArray} (h : queryB S hs l = true) (e : fmtQ hs l = s) : hsS s = hs ∧ asS s = l := by
  obtain ⟨h1, h2, h3, h4, h5, h6⟩ := queryB_parts h
  have es : s = mkB (Lib.join (headL hs :: [105, 102] :: inter [97, 110, 100] (l.map atL)) [32]) := by
    obtain ⟨a, r, rfl⟩ : ∃ a r, l = a :: r := by cases l with | nil => exact absurd rfl h4 | cons a r => exact ⟨a, r, rfl⟩
    obtain ⟨t, ht⟩ := inter_cons ([97, 110, 100] : List UInt8) (atL a) (r.map atL)
    have hj := join_inter ((a :: r).map atL)
    rw [← e, fmtQ_yes h1, join_two, List.map_cons, ht, join_two, ← ht]
    rw [List.map_cons] at hj
    show mkB (headL hs ++ [32, 105, 102, 32] ++ andL (a :: r)) = _
    rw [fmtQ_join, List.map_cons, ← hj]
    simp [sepIf]
  have hw : cutQ s = mkB (headL hs) :: mkB [105, 102] :: inter (mkB [97, 110, 100]) (l.map fun f => mkB (atL f)) := by
    rw [es, cutQ_join (by simp) fun w hw => by
      simp only [List.mem_cons] at hw
      rcases hw with rfl | rfl | hw
      · exact headL_no h3
      · decide
      · rcases inter_mem _ _ _ hw with rfl | hw
        · decide
        · obtain ⟨f, hf, rfl⟩ := List.mem_map.1 hw
          exact atL_no (h2 f hf)]
    rw [List.map_cons, List.map_cons, inter_map, List.map_map]
    rfl
  refine ⟨?_, ?_⟩
  · unfold hsS
    rw [hw]
    show (if mkB (headL hs) = yesB then [] else (cutW (mkB (headL hs))).map tS) = hs
    by_cases hn : hs = []
    · subst hn
      exact if_pos ((head_yes (hs := []) rfl).2 rfl)
    · have hl : ¬ hs.length = 0 := fun e => hn (List.length_eq_zero_iff.1 e)
      rw [if_neg fun e => hn ((head_yes h3).1 e)]
      unfold headL
      rw [if_neg hl, (words_T hn h3).2]
      exact (wrdT_hit h3).2.2
  · unfold asS
    rw [hw]
    show (evs (inter (mkB [97, 110, 100]) (l.map fun f => mkB (atL f)))).map atS = l
    rw [evs_inter, List.map_map]
    have : ∀ f ∈ l, (atS ∘ fun f => mkB (atL f)) f = f := fun f hf => atS_hit (h2 f hf)
    exact (List.map_congr_left this).trans (List.map_id' l)
theorem prsQ_not {S : List Int} {s : ByteArray} (h : ¬ (queryB S (hsS s) (asS s) = true ∧ fmtQ (hsS s) (asS s) = s)) : prsQ S s = ([], [], false) := by
  refine prsQ_no fun ok => h ?_
  obtain ⟨e1, e2⟩ := hitQ_spec ok.2.2.1 ok.2.2.2
  rw [e1, e2]
  exact ⟨ok.2.2.1, ok.2.2.2⟩
/-- Lawful answers are small. -/
theorem prsQ_len (S : List Int) (s : ByteArray) : (prsQ S s).1.length ≤ 3 ∧ (prsQ S s).2.1.length ≤ 4 ∧ szF (prsQ S s).2.1 ≤ 16 := by
  by_cases h : okQI S s
  · rw [prsQ_yes h]
    obtain ⟨h1, h2, h3, h4, h5, h6⟩ := queryB_parts h.2.2.1
    refine ⟨h5, h6, ?_⟩
    generalize (partsQ (bdQ s)).map atI = l at h2 h6
    have : ∀ l : FL, (∀ f ∈ l, fmtOkA f.1 f.2 = true) → sumN l ≤ 3 * l.length := by
      intro l
      induction l with
      | nil => intro _; simp [sumN]
      | cons f r ih =>
        intro hf
        have h1 := ih fun g hg => hf g (List.mem_cons_of_mem _ hg)
        have h2 := hf f (by simp)
        simp only [fmtOkA, Bool.and_eq_true] at h2
        have h3 : 1 ≤ (f.2.length : Int) ∧ (f.2.length : Int) ≤ 3 := by simpa [inB] using h2.1.2
        unfold sumN at *
        simp only [List.map_cons, List.sum_cons, List.length_cons]
        omega
    have := this l h2
    show szF l ≤ 16
    unfold szF; omega
  · rw [prsQ_no h]
    simp [szF, sumN]
/-- What the program's parse reads is no longer than the text. -/
theorem okI_len {p : ByteArray} (h : okI p) : (atI p).2.length ≤ p.size := by
  unfold atI
  rw [List.length_map]
  by_cases hi : 0 ≤ Lib.index p.data.toList [40]
  · have h1 := words_le (bodyI p)
    have h2 : (tlI p).size + 1 ≤ p.size := by
      have hr := Lib.index_room _ _ hi
      unfold tlI Lib.cut
      rw [if_pos hi]
      simp only [size_eq', List.length_drop, List.length_cons, List.length_nil] at hr ⊢
      omega
    have h3 : (bodyI p).size ≤ (tlI p).size := by
      unfold bodyI Lib.trimSuffix
      split
      · simp only [size_eq', List.length_take]; omega
      · exact Nat.le_refl _
    omega
  · exfalso
    have h1 : bodyI p = ⟨#[]⟩ := by
      unfold bodyI tlI Lib.cut
      rw [if_neg hi]
      rfl
    have h2 : wordsI (⟨#[]⟩ : ByteArray) = [⟨#[]⟩] := by decide +kernel
    have h3 := h.2
    rw [h1, h2] at h3
    have h4 := h3 _ (List.mem_singleton.2 rfl)
    unfold tB at h4
    have h5 : tpI ⟨#[]⟩ = ⟨#[]⟩ := by decide +kernel
    rw [h5] at h4
    unfold parB at h4
    have h6 : okP ⟨#[]⟩ := of_decide_eq_true h4
    have h7 := h6.2.2
    have h8 : pN ⟨#[]⟩ = 0 := by decide +kernel
    rw [h8, fmt_digit (by omega) (by omega)] at h7
    have := congrArg ByteArray.size h7
    exact absurd this (by decide)
theorem sum_atI : ∀ ws : List ByteArray, (∀ p ∈ ws, okI p) → szF (ws.map atI) ≤ szB ws
  | [], _ => by simp [szF, sumN, szB]
  | a :: r, h => by
    have ih := sum_atI r fun p hp => h p (List.mem_cons_of_mem _ hp)
    have := okI_len (h a (by simp))
    unfold szF sumN szB at *
    simp only [List.map_cons, List.sum_cons, List.length_cons] at *
    omega
end Go.Proofs.YtfhlmindkogdoaaGreatDoor

namespace Go.Proofs.YtfhlmindkogdoaaGreatDoor
open Go.ChangeShapes Go.WideShapes Go.ChangeAt Go.RowKit Go.Sort
set_option linter.unusedVariables false
set_option linter.unusedSimpArgs false

theorem tpI_yes {s : ByteArray} (h : tvI s = true) : tpI s = s.extract 1 s.size ∧ 1 ≤ s.size := by
  have h' : Lib.hasPrefix s.data.toList [120] = true := h
  have hl : 1 ≤ s.data.toList.length := by
    unfold Lib.hasPrefix at h'
    have := (List.isPrefixOf_iff_prefix.1 h').length_le
    simpa using this
  refine ⟨?_, by rw [size_eq']; exact hl⟩
  have e : tpI s = ⟨(s.data.toList.drop 1).toArray⟩ := by
    unfold tpI Lib.trimPrefix
    rw [if_pos h']
    rfl
  rw [e, ← mkB_of s]
  show _ = (⟨s.data.toList.toArray⟩ : ByteArray).extract 1 _
  rw [extract_list, mkB_size, List.take_of_length_le (by simp)]
  simp [mkB]
theorem tpI_no {s : ByteArray} (h : tvI s = false) : tpI s = s := by
  have h' : ¬ Lib.hasPrefix s.data.toList [120] = true := by rw [show Lib.hasPrefix s.data.toList [120] = false from h]; simp
  have e : tpI s = ⟨(s.data.toList).toArray⟩ := by
    unfold tpI Lib.trimPrefix
    rw [if_neg h']
  rw [e]
theorem tpI_size (s : ByteArray) : (tpI s).size ≤ s.size := by
  cases h : tvI s
  · rw [tpI_no h]; exact Nat.le_refl _
  · rw [(tpI_yes h).1, ByteArray.size_extract]; omega
theorem parN_rng (s : ByteArray) : -99999999999 ≤ parN s ∧ parN s ≤ 99999999999 := by
  unfold parN
  split
  · have := pn_le s (show min s.size 11 ≤ 11 by omega)
    unfold pN; split <;> omega
  · omega
theorem hasP_at (s : ByteArray) (W : World) :
    Calls Tryz.prog 125 #[.string s, .string ⟨#[120]⟩] W fun e w' => e = .returned (.bool (tvI s)) ∧ W = w' := by
  refine (Tryz.stringslite_HasPrefix s ⟨#[120]⟩ W).mono ?_
  rintro e w' ⟨rfl, rfl⟩
  exact ⟨rfl, rfl⟩
set_option maxRecDepth 100000 in
theorem cutPre2 (s : ByteArray) (hs : s.size ≤ 1048576) (W : World) :
    Calls Tryz.prog 115 #[.string s, .string ⟨#[120]⟩] W fun e w' => e = .returned (.tuple #[.string (tpI s), .bool (tvI s)]) ∧ W = w' := by
  have hs' : (s.size : Int) ≤ 1048576 := by omega
  have HP := Lib.hid (hasP_at s W)
  cases hv : tvI s
  · have E := Lib.hid (tpI_no hv)
    rw [hv] at HP
    rw [E.out]
    clear hv
    go_enter Tryz.func115, Tryz.ntmps115
    go_wp2_with fail
    refine HP.out.mono ?_
    rintro e u ⟨rfl, rfl⟩
    go_wp2
    go_ret2
    exact ⟨rfl, rfl⟩
  · have E := Lib.hid (tpI_yes hv).1
    have h1 := (tpI_yes hv).2
    rw [hv] at HP
    rw [E.out]
    clear hv
    have h1' : 1 ≤ (s.size : Int) := by omega
    go_enter Tryz.func115, Tryz.ntmps115
    go_wp2_with fail
    refine HP.out.mono ?_
    rintro e u ⟨rfl, rfl⟩
    go_wp2
    go_ret2
    exact ⟨rfl, rfl⟩
set_option maxRecDepth 100000 in
theorem cutPre (s : ByteArray) (hs : s.size ≤ 1048576) (W : World) :
    Calls Tryz.prog 101 #[.string s, .string ⟨#[120]⟩] W fun e w' => e = .returned (.tuple #[.string (tpI s), .bool (tvI s)]) ∧ W = w' := by
  have HP := Lib.hid (cutPre2 s hs W)
  generalize tpI s = p at HP
  generalize tvI s = b at HP
  go_enter Tryz.func101, Tryz.ntmps101
  go_wp2_with fail
  refine HP.out.mono ?_
  rintro e u ⟨rfl, rfl⟩
  go_wp2
  go_ret2
  exact ⟨rfl, rfl⟩
set_option maxRecDepth 100000 in
set_option maxHeartbeats 400000 in
theorem impl_parseTerm (s : ByteArray) (hs : s.size ≤ 1048576) (w : World) (ht : Tab w) :
    Calls Tryz.prog 84 #[.string s] w fun e w' => e = .returned (.tuple #[.int .i64 (tN s), .bool (tB s)]) ∧ Below w.heap.size w w' := by
  have CP := Lib.hid (cutPre s hs w)
  have XI := Lib.hid (impl_ParseInt (tpI s) (Nat.le_trans (tpI_size s) hs) w ht)
  have hr := parN_rng (tpI s)
  have TN := Lib.hid (show ∀ b v, parB (tpI s) = b → tvI s = v → tB s = b ∧ tN s = if b = true ∧ v = true then parN (tpI s) + 10 else parN (tpI s) from fun b v hb hv => ⟨hb, by unfold tN; rw [hb, hv]⟩)
  generalize hn : parN (tpI s) = n at XI TN hr
  generalize hb : parB (tpI s) = b at XI TN
  generalize hv : tvI s = v at CP TN
  have E := Lib.hid (TN.out b v rfl rfl)
  clear hn hb hv TN ht
  cases b <;> cases v
  · rw [E.out.1, E.out.2, if_neg (by simp)]
    go_enter Tryz.func84, Tryz.ntmps84
    go_wp2_with fail
    refine CP.out.mono ?_
    rintro e u ⟨rfl, rfl⟩
    go_wp2_with fail
    refine XI.out.mono ?_
    rintro e u ⟨rfl, d⟩
    go_wp2
    go_ret2
    exact ⟨rfl, d⟩
  · rw [E.out.1, E.out.2, if_neg (by simp)]
    go_enter Tryz.func84, Tryz.ntmps84
    go_wp2_with fail
    refine CP.out.mono ?_
    rintro e u ⟨rfl, rfl⟩
    go_wp2_with fail
    refine XI.out.mono ?_
    rintro e u ⟨rfl, d⟩
    go_wp2
    go_ret2
    exact ⟨rfl, d⟩
  · rw [E.out.1, E.out.2, if_neg (by simp)]
    go_enter Tryz.func84, Tryz.ntmps84
    go_wp2_with fail
    refine CP.out.mono ?_
    rintro e u ⟨rfl, rfl⟩
    go_wp2_with fail
    refine XI.out.mono ?_
    rintro e u ⟨rfl, d⟩
    go_wp2
    go_ret2
    exact ⟨rfl, d⟩
  · rw [E.out.1, E.out.2, if_pos ⟨rfl, rfl⟩]
    go_enter Tryz.func84, Tryz.ntmps84
    go_wp2_with fail
    refine CP.out.mono ?_
    rintro e u ⟨rfl, rfl⟩
    go_wp2_with fail
    refine XI.out.mono ?_
    rintro e u ⟨rfl, d⟩
    go_wp2
    go_ret2
    exact ⟨rfl, d⟩
theorem numS_rng (x : ByteArray) : -99999999999 ≤ numS x ∧ numS x ≤ 99999999999 := by
  unfold numS
  split
  · exact parN_rng x
  · omega
set_option maxRecDepth 100000 in
set_option maxHeartbeats 400000 in
theorem l3ParseTerm_any (s : ByteArray) (hs : s.size ≤ 1048576) (w : World) :
    Calls Tryz.prog 59 #[.string s] w fun e w' => e = .returned (.int .i64 (tS s)) ∧ Below w.heap.size w w' := by
  have hs' : (s.size : Int) ≤ 1048576 := by omega
  have NS := Lib.hid (l2Num_any s hs)
  have NX := Lib.hid (l2Num_any (s.extract 1 s.size) (by rw [ByteArray.size_extract]; omega))
  have r1 := numS_rng s
  have r2 := numS_rng (s.extract 1 s.size)
  have T1 := Lib.hid fun (h : 1 < s.size ∧ bn s 0 = 120) (h2 : inB (numS (s.extract 1 s.size)) 0 7 = true) => show tS s = 10 + numS (s.extract 1 s.size) by unfold tS; rw [if_pos h, if_pos h2]
  have T2 := Lib.hid fun (h : 1 < s.size ∧ bn s 0 = 120) (h2 : inB (numS (s.extract 1 s.size)) 0 7 = false) => show tS s = -1 by unfold tS; rw [if_pos h, if_neg (by rw [h2]; simp)]
  have T3 := Lib.hid fun (h : ¬ (1 < s.size ∧ bn s 0 = 120)) (h2 : inB (numS s) 0 9 = true) => show tS s = numS s by unfold tS; rw [if_neg h, if_pos h2]
  have T4 := Lib.hid fun (h : ¬ (1 < s.size ∧ bn s 0 = 120)) (h2 : inB (numS s) 0 9 = false) => show tS s = -1 by unfold tS; rw [if_neg h, if_neg (by rw [h2]; simp)]
  generalize numS s = n at NS r1 T3 T4
  generalize numS (s.extract 1 s.size) = m at NX r2 T1 T2
  by_cases h2 : 1 < s.size
  · have hb := bn_le s 0
    have hg := get_bn s 0 (by omega)
    have h2' : 1 < (s.size : Int) := by omega
    by_cases h0 : bn s 0 = 120
    · have HC := Lib.hid (show 1 < s.size ∧ bn s 0 = 120 from ⟨h2, h0⟩)
      have h0' : ((bn s 0 : Nat) : Int) = 120 := by omega
      rw [h0] at hg
      clear h0
      cases hi : inB m 0 7
      · have E := Lib.hid (T2.out HC.out hi)
        have HI := Lib.hid hi
        rw [E.out]
        clear hi
        go_enter Tryz.func59, Tryz.ntmps59
        go_wp2_with (first
          | (go_at_call 92; refine (NX.out _).mono ?_; rintro e u ⟨rfl, d⟩; have D := Lib.hid d; clear d)
          | (go_at_call 44; refine (l1In_any m 0 7 _).mono ?_; rintro e u ⟨he, rfl⟩; rw [HI.out] at he; subst he))
        go_ret
        exact ⟨rfl, D.out⟩
      · have E := Lib.hid (T1.out HC.out hi)
        have HI := Lib.hid hi
        rw [E.out]
        clear hi
        go_enter Tryz.func59, Tryz.ntmps59
        go_wp2_with (first
          | (go_at_call 92; refine (NX.out _).mono ?_; rintro e u ⟨rfl, d⟩; have D := Lib.hid d; clear d)
          | (go_at_call 44; refine (l1In_any m 0 7 _).mono ?_; rintro e u ⟨he, rfl⟩; rw [HI.out] at he; subst he))
        go_ret
        exact ⟨rfl, D.out⟩
    · have HC := Lib.hid (show ¬ (1 < s.size ∧ bn s 0 = 120) from fun h => h0 h.2)
      have h0' : ¬ ((bn s 0 : Nat) : Int) = 120 := by omega
      have h0'' : (((bn s 0 : Nat) : Int) == 120) = false := by simp; omega
      cases hi : inB n 0 9
      · have E := Lib.hid (T4.out HC.out hi)
        have HI := Lib.hid hi
        rw [E.out]
        clear hi
        go_enter Tryz.func59, Tryz.ntmps59
        go_wp2_with (first
          | (go_at_call 92; refine (NS.out _).mono ?_; rintro e u ⟨rfl, d⟩; have D := Lib.hid d; clear d)
          | (go_at_call 44; refine (l1In_any n 0 9 _).mono ?_; rintro e u ⟨he, rfl⟩; rw [HI.out] at he; subst he))
        go_ret
        exact ⟨rfl, D.out⟩
      · have E := Lib.hid (T3.out HC.out hi)
        have HI := Lib.hid hi
        rw [E.out]
        clear hi
        go_enter Tryz.func59, Tryz.ntmps59
        go_wp2_with (first
          | (go_at_call 92; refine (NS.out _).mono ?_; rintro e u ⟨rfl, d⟩; have D := Lib.hid d; clear d)
          | (go_at_call 44; refine (l1In_any n 0 9 _).mono ?_; rintro e u ⟨he, rfl⟩; rw [HI.out] at he; subst he))
        go_ret
        exact ⟨rfl, D.out⟩
  · have HC := Lib.hid (show ¬ (1 < s.size ∧ bn s 0 = 120) from fun h => h2 h.1)
    have h2' : ¬ 1 < (s.size : Int) := by omega
    cases hi : inB n 0 9
    · have E := Lib.hid (T4.out HC.out hi)
      have HI := Lib.hid hi
      rw [E.out]
      clear hi
      go_enter Tryz.func59, Tryz.ntmps59
      go_wp2_with (first
        | (go_at_call 92; refine (NS.out _).mono ?_; rintro e u ⟨rfl, d⟩; have D := Lib.hid d; clear d)
        | (go_at_call 44; refine (l1In_any n 0 9 _).mono ?_; rintro e u ⟨he, rfl⟩; rw [HI.out] at he; subst he))
      go_ret
      exact ⟨rfl, D.out⟩
    · have E := Lib.hid (T3.out HC.out hi)
      have HI := Lib.hid hi
      rw [E.out]
      clear hi
      go_enter Tryz.func59, Tryz.ntmps59
      go_wp2_with (first
        | (go_at_call 92; refine (NS.out _).mono ?_; rintro e u ⟨rfl, d⟩; have D := Lib.hid d; clear d)
        | (go_at_call 44; refine (l1In_any n 0 9 _).mono ?_; rintro e u ⟨he, rfl⟩; rw [HI.out] at he; subst he))
      go_ret
      exact ⟨rfl, D.out⟩
end Go.Proofs.YtfhlmindkogdoaaGreatDoor

namespace Go.Proofs.YtfhlmindkogdoaaGreatDoor
open Go.ChangeShapes Go.WideShapes Go.ChangeAt Go.RowKit Go.Sort
set_option linter.unusedVariables false
set_option linter.unusedSimpArgs false

/-- Are all words numerals? -/
def allTm (ws : List ByteArray) : Prop := ∀ x ∈ ws, tB x = true
noncomputable def numT (ws : List ByteArray) : List Int := ws.map tN
def PnTOut (w : World) (s : ByteArray) (e : Ending) (w' : World) : Prop :=
  ∃ A c ok q xs, e = .returned (.tuple #[.slice A xs.length c, .bool ok]) ∧ OwnV w' w.heap.size w'.heap.size (.slice A xs.length c) q xs ∧ Below w.heap.size w w' ∧ xs.length ≤ s.size + 1 ∧ (ok = true ↔ allTm (wordsI s)) ∧ (ok = true → xs = numT (wordsI s))
theorem numT_take (ws : List ByteArray) {k : Nat} (hk : k < ws.length) {x : ByteArray} (hx : ws.getD k ⟨#[]⟩ = x) : (numT ws).take (k + 1) = (numT ws).take k ++ [tN x] := by
  have hk' : k < (numT ws).length := by simpa [numT] using hk
  rw [List.take_succ_eq_append_getElem hk']
  subst hx
  simp [numT, List.getD_eq_getElem?_getD, hk]

set_option maxRecDepth 100000 in
set_option maxHeartbeats 1000000 in
theorem parseList_term (s : ByteArray) (m : Int) (hs : s.size ≤ 1048576) (w : World) (hm : w.cell? ⟨0, 0, none⟩ = some (.int .i64 m)) (ht : Tab w) :
    Calls Tryz.prog 83 #[.string s, .func (.func 84) #[] #[]] w (PnTOut w s) := by
  obtain ⟨i0, hi, hz0, hz1, hz2⟩ := info_parts int_info
  have HT := Lib.hid (Lib.tabBelow_of_tabIs ht)
  have hsp := Tryz.strings_Split s ⟨#[44]⟩ m w (by omega) hm (by decide)
  rw [← words_len] at hsp
  change Calls Tryz.prog _ _ _ fun e w' => e = .returned (.slice (some ⟨w.heap.size, 0, none⟩) (wordsI s).length (wordsI s).length) ∧ w' = w.alloc (.cells ((wordsI s).map Value.string).toArray 9) at hsp
  have WL := words_le s
  have WS := Lib.hid (fun x (h : x ∈ wordsI s) => words_size h)
  generalize hws : wordsI s = ws at hsp WL WS
  have HW := Lib.hid hws
  have SP := Lib.hid hsp
  have R0 := Lib.hid (show RS (w.alloc (.cells (ws.map Value.string).toArray 9)) w.heap.size ws from heap_alloc_new w _)
  have B0 := Lib.hid (below_alloc w (.cells (ws.map Value.string).toArray 9))
  have WL' : (ws.length : Int) ≤ 1048577 := by omega
  obtain ⟨w0, hw0⟩ : ∃ W, W = w.alloc (.cells (ws.map Value.string).toArray 9) := ⟨_, rfl⟩
  have Z0 : w0.heap.size = w.heap.size + 1 := by rw [hw0, al_size]
  rw [← hw0] at R0 B0 SP
  clear hsp hws hm ht hw0
  go_enter Tryz.func83, Tryz.ntmps83
  go_wp2_with (go_at_call 85; refine SP.out.mono ?_; rintro e w0 ⟨rfl, rfl⟩)
  go_loopw [6, 8, 9, 10, 14] (fun v _ _ _ i wr => ∃ (k : Nat) (A : Option Addr) (c : Nat), k ≤ ws.length ∧ i = .int .i64 k ∧ v = .slice A k c ∧ wr.ownsRow (w.heap.size + 1) 3 1 (.slice A k c) k (((numT ws).take k).map (Value.int .i64)) ∧ Below (w.heap.size + 1) w0 wr ∧ w.heap.size + 1 ≤ wr.heap.size ∧ Hid (∀ x ∈ ws.take k, tB x = true)) (fun _ _ _ _ i _ => ws.length - (intOf i).toNat)
  case atStart => exact ⟨0, none, 0, by omega, rfl, rfl, ⟨by simp, .inl ⟨rfl, rfl⟩⟩, Below.refl _ _, by omega, Lib.hid (by simp)⟩
  case round =>
    obtain ⟨k, A, c, hk, rfl, rfl, hown, hb, hsz, hall⟩ := hrel
    have R1 : RS wr w.heap.size ws := (hb.block _ (by omega)).trans R0.out
    by_cases hlt : k < ws.length
    · have hc := R1.cell hlt
      generalize hx : ws.getD k ⟨#[]⟩ = x at hc
      have hxm : x ∈ ws := by subst hx; rw [List.getD_eq_getElem?_getD, List.getElem?_eq_getElem hlt]; exact List.getElem_mem _
      have hxs : x.size ≤ 1048576 := Nat.le_trans (WS.out x hxm) hs
      have NT := Lib.hid (numT_take ws hlt hx)
      have TK := Lib.hid (show ws.take (k + 1) = ws.take k ++ [x] by rw [List.take_succ_eq_append_getElem hlt]; subst hx; simp [List.getD_eq_getElem?_getD, hlt])
      have HM := Lib.hid hxm
      have XI := Lib.hid (impl_parseTerm x hxs wr (HT.out wr (B0.out.trans (hb.mono (by omega)))))
      have BB := Lib.hid hb
      clear hx hxm R1
      by_cases hp : tB x = true
      · rw [hp] at XI
        have HP := Lib.hid hp
        have HO := Lib.hid hown
        generalize tN x = n at XI NT
        clear hp hb hown
        go_wp2_with (first
          | (go_at_call 84; refine XI.out.mono ?_; rintro e u ⟨rfl, d⟩
             have hownu := ownsRow_step HO.out d
             have hbu : Below (w.heap.size + 1) w0 u := BB.out.trans (d.mono hsz)
             have hszu : w.heap.size + 1 ≤ u.heap.size := by have := d.size; omega
             clear d)
          | (at_builtin; refine wpList_push rfl _ _ _ 3 rfl i0 Tryz.underlying24 hi (.int .i64 0) 8 hz0 hz1 hz2 rfl (by omega) rfl rfl rfl hownu hbu hszu (by omega) ?_; intro v' w' hown' hb' hsz'; obtain ⟨A', c', rfl⟩ := ownsRow_form hown'))
        go_roundw
        case rel =>
          refine ⟨k + 1, A', c', by omega, by go_num, rfl, ?_, hb', by omega, Lib.hid (by rw [TK.out]; intro y hy; rcases List.mem_append.1 hy with hy | hy; exact hall.out y hy; simp at hy; subst hy; exact HP.out)⟩
          rw [NT.out, List.map_append]
          exact hown'
        case measure => simp [intOf]; omega
      · have hp' : tB x = false := by simpa using hp
        rw [hp'] at XI
        have HP := Lib.hid hp
        generalize tN x = n at XI
        clear hp hp' hb hown NT
        go_wp2_with (go_at_call 84; refine XI.out.mono ?_; rintro e u ⟨rfl, d⟩)
        go_ret2
        refine ⟨none, 0, false, 0, [], rfl, ownV_nil _ _ _, B0.out.trans ((BB.out.trans (d.mono hsz)).mono (by omega)), by simp, ?_, fun h => (by cases h)⟩
        rw [HW.out]
        exact ⟨fun h => (by cases h), fun h => absurd (h x HM.out) HP.out⟩
    · obtain rfl : k = ws.length := by omega
      have hnl : (numT ws).length = ws.length := by simp [numT]
      have hown2 : wr.ownsRow (w.heap.size + 1) 3 1 (.slice A ws.length c) ws.length ((numT ws).map (Value.int .i64)) := by have := hown; rw [List.take_of_length_le (by omega)] at this; exact this
      obtain ⟨q, hv⟩ := ownV_of_row hown2
      have HV := Lib.hid (show OwnV wr (w.heap.size + 1) wr.heap.size (.slice A (numT ws).length c) q (numT ws) by rw [hnl]; exact hv)
      have BB := Lib.hid hb
      have HA := Lib.hid hall
      have NL := Lib.hid hnl
      clear hown hown2 hv hb hnl R1
      go_wp2
      go_ret2
      refine ⟨A, c, true, q, numT ws, by rw [NL.out]; rfl, HV.out.mono (by omega) (Nat.le_refl _), B0.out.trans (BB.out.mono (by omega)), by rw [NL.out]; exact WL, ?_, fun _ => by rw [HW.out]⟩
      rw [HW.out]
      exact ⟨fun _ x hx => hall.out x (by rw [List.take_length]; exact hx), fun _ => rfl⟩
end Go.Proofs.YtfhlmindkogdoaaGreatDoor

namespace Go.Proofs.YtfhlmindkogdoaaGreatDoor
open Go.ChangeShapes Go.WideShapes Go.ChangeAt Go.RowKit Go.Sort
set_option linter.unusedVariables false
set_option linter.unusedSimpArgs false

/-- What parseParts answers. -/
def PpTOut (w : World) (s : ByteArray) (e : Ending) (w' : World) : Prop :=
  ∃ A c ok q xs, e = .returned (.tuple #[.int .i64 (parN (numI s)), .slice A xs.length c, .bool ok]) ∧ OwnV w' w.heap.size w'.heap.size (.slice A xs.length c) q xs ∧ Below w.heap.size w w' ∧ xs.length ≤ s.size + 1 ∧ (ok = true ↔ parB (numI s) = true ∧ allTm (wordsI (bodyI s))) ∧ (ok = true → xs = numT (wordsI (bodyI s)))
set_option maxRecDepth 100000 in
set_option maxHeartbeats 1000000 in
theorem parseParts_term (s : ByteArray) (hs : s.size ≤ 1048576) (m : Int) (w : World) (hm : w.cell? ⟨0, 0, none⟩ = some (.int .i64 m)) (ht : Tab w) :
    Calls Tryz.prog 86 #[.string s, .func (.func 84) #[] #[]] w (PpTOut w s) := by
  have HT := Lib.hid (Lib.tabBelow_of_tabIs ht)
  have HM := Lib.hid (fun (W : World) (hW : Below w.heap.size w W) => (hW.cell (p := ⟨0, 0, none⟩) (by
    show 0 < w.heap.size
    rcases Nat.eq_zero_or_pos w.heap.size with h0 | h0
    · simp [World.cell?, Array.getElem?_eq_none (show w.heap.size ≤ 0 by omega)] at hm
    · exact h0)).trans hm)
  have CU := Lib.hid (fun (W : World) (hW : Below w.heap.size w W) => cutI_at s hs m W (HM.out W hW))
  have NI := Lib.hid (fun (W : World) (hW : Below w.heap.size w W) => impl_ParseInt (numI s) (Nat.le_trans (numI_size s) hs) W (HT.out W hW))
  have PN := Lib.hid (fun (W : World) (hW : Below w.heap.size w W) => parseList_term (bodyI s) m (Nat.le_trans (bodyI_size s) hs) W (HM.out W hW) (HT.out W hW))
  have BS := Lib.hid (bodyI_size s)
  clear hm ht
  go_enter Tryz.func86, Tryz.ntmps86
  go_wp2_with fail
  refine (CU.out _ (Below.refl _ _)).mono ?_
  rintro e w1 ⟨rfl, d1⟩
  have B1 := Lib.hid d1
  clear d1
  go_wp2_with fail
  refine (trimP_at s _).mono ?_
  rintro e u ⟨rfl, rfl⟩
  go_wp2_with fail
  refine (NI.out _ B1.out).mono ?_
  rintro e w2 ⟨rfl, d2⟩
  have B2 := Lib.hid (step B1.out d2)
  clear d2
  go_wp2_with fail
  refine (trimS_at s hs _).mono ?_
  rintro e u ⟨rfl, rfl⟩
  go_wp2_with fail
  refine (PN.out _ B2.out).mono ?_
  rintro e w3 ⟨A, c, ok, q, xs, rfl, hv, d3, hxl, hok, hxs⟩
  have B3 := Lib.hid (step B2.out d3)
  have HV := Lib.hid (hv.mono B2.out.size (Nat.le_refl _))
  have PK := Lib.hid (show ∀ b, ok = b → (b = true ↔ allTm (wordsI (bodyI s))) from fun b hb => by subst hb; exact hok)
  have PXt := Lib.hid (show ∀ b, ok = b → b = true → xs = numT (wordsI (bodyI s)) from fun b hb h => by subst hb; exact hxs h)
  have XL := Lib.hid (show xs.length ≤ s.size + 1 by have := BS.out; omega)
  have PB := Lib.hid (show ∀ b, parB (numI s) = b → ∀ p : Prop, (b = true ∧ p ↔ parB (numI s) = true ∧ p) from fun b hb p => by rw [hb])
  clear hv d3 hok hxs hxl
  generalize hP : parB (numI s) = pb at PB ⊢
  have P1 := Lib.hid hP
  clear hP
  cases pb
  · go_wp2
    refine bodyPost_ret (v := .tuple #[.int .i64 (parN (numI s)), .slice A xs.length c, .bool false]) (by simp [results, Tryz.results86, go_sem]) rfl ?_
    refine (show PpTOut w s _ _ from ⟨A, c, false, q, xs, rfl, HV.out, B3.out, XL.out, ?_, fun h => (by cases h)⟩)
    rw [P1.out]
    exact ⟨fun h => (by cases h), fun h => (by cases h.1)⟩
  · cases ok
    · go_wp2
      refine bodyPost_ret (v := .tuple #[.int .i64 (parN (numI s)), .slice A xs.length c, .bool false]) (by simp [results, Tryz.results86, go_sem]) rfl ?_
      refine (show PpTOut w s _ _ from ⟨A, c, false, q, xs, rfl, HV.out, B3.out, XL.out, ?_, fun h => (by cases h)⟩)
      exact ⟨fun h => (by cases h), fun h => (by have := (PK.out false rfl).2 h.2; cases this)⟩
    · go_wp2
      refine bodyPost_ret (v := .tuple #[.int .i64 (parN (numI s)), .slice A xs.length c, .bool true]) (by simp [results, Tryz.results86, go_sem]) rfl ?_
      refine (show PpTOut w s _ _ from ⟨A, c, true, q, xs, rfl, HV.out, B3.out, XL.out, ?_, fun h => PXt.out true rfl rfl⟩)
      exact ⟨fun _ => ⟨P1.out, (PK.out true rfl).1 rfl⟩, fun _ => rfl⟩
end Go.Proofs.YtfhlmindkogdoaaGreatDoor
