/- The texts of methods, parsed both ways: plain facts. Conditions: none beyond each theorem's own. -/
import Derived.Test.YtenondgjipmhnaaDoorFmtN
import Derived.Test.YtenondgjipmhnaaDoorCutP
namespace Go.Proofs.YtenondgjipmhnaaDoor
open Go.ChangeShapes Go.WideShapes Go.ChangeAt Go.RowKit Go.Sort
set_option linter.unusedVariables false
set_option linter.unusedSimpArgs false

def two (n : Nat) : List UInt8 := if n < 10 then [UInt8.ofNat (48 + n)] else [UInt8.ofNat (48 + n / 10), UInt8.ofNat (48 + n % 10)]
theorem itoa_two {n : Nat} (h : n ≤ 99) : Lib.itoa (n : Int) = two n := by
  rw [Lib.itoa, if_neg (by omega), Int.toNat_natCast]
  unfold two
  by_cases h1 : n < 10
  · rw [if_pos h1, Lib.decDigits_one h1]
  · rw [if_neg h1, ← dd0_pos (by omega), dd0_step (by omega), dd0_pos (by omega), Lib.decDigits_one (by omega)]
    rfl
theorem two_check : (List.range 100).all (fun n => decide (pN ⟨(two n).toArray⟩ = (n : Int)) && decide (pk ⟨(two n).toArray⟩ (min (⟨(two n).toArray⟩ : ByteArray).size 11) ≤ 9) && decide ((two n).length ≤ 2) && !(two n).contains 32 && !(two n).contains 44) = true := by decide +kernel
theorem two_all {n : Nat} (h : n ≤ 99) : parB (mkB (Lib.itoa (n : Int))) = true ∧ parN (mkB (Lib.itoa (n : Int))) = n ∧ (32 : UInt8) ∉ Lib.itoa (n : Int) ∧ (44 : UInt8) ∉ Lib.itoa (n : Int) := by
  have hc := two_check
  rw [List.all_eq_true] at hc
  have hn := hc n (by simpa using (show n < 100 by omega))
  simp only [Bool.and_eq_true, Bool.not_eq_true', decide_eq_true_eq] at hn
  obtain ⟨⟨⟨⟨h1, h2⟩, h3⟩, h4⟩, h5⟩ := hn
  have hf : fmtI (n : Int) = mkB (two n) := by unfold fmtI mkB; rw [itoa_two h]
  rw [itoa_two h]
  have hp := par_yes (s := mkB (two n)) ⟨h2, by rw [mkB_size]; omega, by show fmtI (pN ⟨(two n).toArray⟩) = _; rw [h1, hf]⟩
  refine ⟨hp.1, hp.2.trans h1, ?_, ?_⟩
  · intro hm
    rw [← List.contains_iff_mem] at hm
    rw [hm] at h4
    cases h4
  · intro hm
    rw [← List.contains_iff_mem] at hm
    rw [hm] at h5
    cases h5
theorem par_itoa {n : Int} (h0 : 0 ≤ n) (h1 : n ≤ 99) : parB (mkB (Lib.itoa n)) = true ∧ parN (mkB (Lib.itoa n)) = n ∧ numS (mkB (Lib.itoa n)) = n ∧ (32 : UInt8) ∉ Lib.itoa n := by
  obtain ⟨u, rfl⟩ := Int.eq_ofNat_of_zero_le h0
  obtain ⟨e1, e2, e3, _⟩ := two_all (show u ≤ 99 by omega)
  exact ⟨e1, e2, by unfold numS; rw [if_pos e1, e2], e3⟩

/-- The nine words of a method's text. -/
def wlM (m : Met) : List (List UInt8) := [114 :: Lib.itoa m.1, [105, 110], inpT m.2.1, [108, 105, 109, 105, 116], Lib.itoa m.2.2.1, [99, 111, 115, 116], Lib.itoa m.2.2.2.1, [113, 117, 111, 116, 97], Lib.itoa m.2.2.2.2]
def fmtMet (m : Met) : ByteArray := fmtM m.1 m.2.1 m.2.2.1 m.2.2.2.1 m.2.2.2.2
def metS (s : List Int) (m : Met) : Bool := methB s m.1 m.2.1 m.2.2.1 m.2.2.2.1 m.2.2.2.2
theorem inpB_up {a : Int} {xs : List Int} (h : inpB a xs = true) (ha : a ≤ 3) : inpB 3 xs = true := by
  unfold inpB inpN at h ⊢
  rw [List.all_eq_true] at h ⊢
  intro k hk
  have h1 := h k hk
  unfold inpAt inB at h1 ⊢
  simp only [Bool.and_eq_true, decide_eq_true_eq] at h1 ⊢
  exact ⟨⟨h1.1.1, by omega⟩, h1.2⟩
theorem schB_len {s : List Int} (h : schB s = true) : s.length ≤ 3 := by
  unfold schB at h
  rw [Bool.and_eq_true] at h
  have := h.2
  simp [inB] at this
  omega
/-- A lawful method has a text. -/
theorem met_ok {s : List Int} {m : Met} (h : metS s m = true) : fmOk m.1 m.2.1 m.2.2.1 m.2.2.2.1 m.2.2.2.2 = true ∧ 0 ≤ m.1 ∧ m.1 ≤ 2 ∧ m.2.1.length ≤ 3 ∧ allB 0 9 m.2.1 = true ∧ (0 ≤ m.2.2.1 ∧ m.2.2.1 ≤ 9) ∧ (0 ≤ m.2.2.2.1 ∧ m.2.2.2.1 ≤ 99) ∧ (1 ≤ m.2.2.2.2 ∧ m.2.2.2.2 ≤ 99) := by
  unfold metS methB at h
  simp only [Bool.and_eq_true] at h
  obtain ⟨⟨⟨h1, h2⟩, h3⟩, h4⟩ := h
  have hl := schB_len h1
  have hr : 0 ≤ m.1 ∧ m.1 ≤ (s.length : Int) - 1 := by simpa [inB] using h2
  have hk : m.1.toNat < s.length := by omega
  have ha := schB_at h1 hk
  have h5 := inpB_up h4 ha.2
  have h6 := inp_three h5
  have h7 := h3
  unfold numB at h7
  simp only [Bool.and_eq_true] at h7
  have q1 : 0 ≤ m.2.2.1 ∧ m.2.2.1 ≤ 9 := by simpa [inB] using h7.1.1
  have q2 : 0 ≤ m.2.2.2.1 ∧ m.2.2.2.1 ≤ 99 := by simpa [inB] using h7.1.2
  have q3 : 1 ≤ m.2.2.2.2 ∧ m.2.2.2.2 ≤ 99 := by simpa [inB] using h7.2
  refine ⟨?_, hr.1, by omega, h6.1, h6.2, q1, q2, q3⟩
  unfold fmOk
  rw [h3, h5]
  have : inB m.1 0 2 = true := by simp [inB]; omega
  rw [this]
  rfl
theorem comma_no32 : ∀ xs : List Int, allB 0 9 xs = true → (32 : UInt8) ∉ commaL xs
  | [], _ => by simp [commaL]
  | [x], h => by
    obtain ⟨h0, h1, _⟩ := all_cons h
    rcases digits10 h0 h1 with rfl | rfl | rfl | rfl | rfl | rfl | rfl | rfl | rfl | rfl <;> decide
  | x :: y :: r, h => by
    obtain ⟨h0, h1, h2⟩ := all_cons h
    have ih := comma_no32 (y :: r) h2
    intro hm
    rcases List.mem_cons.1 (show (32 : UInt8) ∈ dg x :: 44 :: commaL (y :: r) from hm) with e | hm
    · rcases digits10 h0 h1 with rfl | rfl | rfl | rfl | rfl | rfl | rfl | rfl | rfl | rfl <;> exact absurd e (by decide)
    · rcases List.mem_cons.1 hm with e | hm
      · exact absurd e (by decide)
      · exact ih hm
theorem wl_no32 {s : List Int} {m : Met} (h : metS s m = true) : ∀ w ∈ wlM m, (32 : UInt8) ∉ w := by
  obtain ⟨_, r0, r2, _, hd, q1, q2, q3⟩ := met_ok h
  intro w hw
  have hi : (32 : UInt8) ∉ inpT m.2.1 := by
    unfold inpT
    split
    · decide
    · exact comma_no32 _ hd
  simp only [wlM, List.mem_cons, List.not_mem_nil, or_false] at hw
  rcases hw with rfl | rfl | rfl | rfl | rfl | rfl | rfl | rfl | rfl
  · intro hm
    rcases List.mem_cons.1 hm with e | hm
    · exact absurd e (by decide)
    · exact (par_itoa r0 (by omega)).2.2.2 hm
  · decide
  · exact hi
  · decide
  · exact (par_itoa q1.1 (by omega)).2.2.2
  · decide
  · exact (par_itoa q2.1 q2.2).2.2.2
  · decide
  · exact (par_itoa (by omega) q3.2).2.2.2
theorem met_text {s : List Int} {m : Met} (h : metS s m = true) : fmtMet m = mkB (Lib.join (wlM m) [32]) := by
  unfold fmtMet
  rw [fmtM_yes (met_ok h).1]
  unfold wlM
  rw [join_cat]
  rfl

/-- The words of a text: the program's. -/
def spI (s : ByteArray) : List ByteArray := Lib.splitB ⟨#[32]⟩ 0 (Lib.countB s ⟨#[32]⟩) s
theorem spI_len (s : ByteArray) : (spI s).length = Lib.countB s ⟨#[32]⟩ + 1 := Lib.splitB_all _ (by decide) 0 _ _ rfl
theorem spI_sz (s : ByteArray) : szB (spI s) ≤ s.size + 1 := szB_split _ (by decide) _ _
theorem spI_size {s x : ByteArray} (h : x ∈ spI s) : x.size ≤ s.size := splitB_mem _ _ _ _ h
theorem spI_hit {S : List Int} {m : Met} {s : ByteArray} (h : metS S m = true) (e : fmtMet m = s) : spI s = (wlM m).map mkB := by
  rw [← e, met_text h]
  exact split_join 32 [] (wlM m) (by simp [wlM]) (wl_no32 h)
theorem cutQ_hit {S : List Int} {m : Met} {s : ByteArray} (h : metS S m = true) (e : fmtMet m = s) : cutQ s = (wlM m).map mkB := by
  rw [← e, met_text h]
  exact cutQ_join (by simp [wlM]) (wl_no32 h)

def freeB : ByteArray := ⟨#[102, 114, 101, 101]⟩
theorem comma_free {xs : List Int} (hne : xs ≠ []) (h : allB 0 9 xs = true) : mkB (commaL xs) ≠ freeB := by
  intro e
  have hl : commaL xs = [102, 114, 101, 101] := by
    have := congrArg (fun b : ByteArray => b.data.toList) e
    simpa [mkB, freeB] using this
  match xs, hne, h, hl with
  | [x], _, h, hl =>
    obtain ⟨h0, h1, _⟩ := all_cons h
    simp [commaL] at hl
  | x :: y :: r, _, h, hl =>
    obtain ⟨h0, h1, _⟩ := all_cons h
    simp [commaL] at hl
/-- What the program reads of nine words. -/
def ReadI (ws : List ByteArray) (m : Met) : Prop :=
  m.1 = parN ⟨(Lib.trimPrefix (ws.getD 0 ⟨#[]⟩).data.toList [114]).toArray⟩ ∧ m.2.2.1 = parN (ws.getD 4 ⟨#[]⟩) ∧ m.2.2.2.1 = parN (ws.getD 6 ⟨#[]⟩) ∧ m.2.2.2.2 = parN (ws.getD 8 ⟨#[]⟩) ∧
  (ws.getD 2 ⟨#[]⟩ = freeB → m.2.1 = []) ∧ (ws.getD 2 ⟨#[]⟩ ≠ freeB → allN (wordsI (ws.getD 2 ⟨#[]⟩)) → m.2.1 = nums (wordsI (ws.getD 2 ⟨#[]⟩)))
/-- What the model reads of nine words. -/
def ReadS (ws : List ByteArray) (m : Met) : Prop :=
  m.1 = relS (ws.getD 0 ⟨#[]⟩) ∧ m.2.2.1 = numS (ws.getD 4 ⟨#[]⟩) ∧ m.2.2.2.1 = numS (ws.getD 6 ⟨#[]⟩) ∧ m.2.2.2.2 = numS (ws.getD 8 ⟨#[]⟩) ∧
  (ws.getD 2 ⟨#[]⟩ = freeB → m.2.1 = []) ∧ (ws.getD 2 ⟨#[]⟩ ≠ freeB → m.2.1 = (cutW (ws.getD 2 ⟨#[]⟩)).map numS)
theorem inpT_free {xs : List Int} (h : allB 0 9 xs = true) : mkB (inpT xs) = freeB ↔ xs = [] := by
  constructor
  · intro e
    apply Classical.byContradiction
    intro hne
    rw [inpT, if_neg hne] at e
    exact comma_free hne h e
  · rintro rfl
    rfl
theorem met_ext {a b : Met} (h1 : a.1 = b.1) (h2 : a.2.1 = b.2.1) (h3 : a.2.2.1 = b.2.2.1) (h4 : a.2.2.2.1 = b.2.2.2.1) (h5 : a.2.2.2.2 = b.2.2.2.2) : a = b := by
  obtain ⟨a1, a2, a3, a4, a5⟩ := a
  obtain ⟨b1, b2, b3, b4, b5⟩ := b
  simp only at h1 h2 h3 h4 h5
  subst h1 h2 h3 h4 h5
  rfl
theorem hitI {S : List Int} {m m0 : Met} {s : ByteArray} (h : metS S m = true) (e : fmtMet m = s) (hr : ReadI (spI s) m0) : m0 = m := by
  obtain ⟨_, r0, r2, _, hd, q1, q2, q3⟩ := met_ok h
  rw [spI_hit h e] at hr
  obtain ⟨a1, a2, a3, a4, a5, a6⟩ := hr
  have w0 : ((wlM m).map mkB).getD 0 ⟨#[]⟩ = mkB (114 :: Lib.itoa m.1) := rfl
  have w2 : ((wlM m).map mkB).getD 2 ⟨#[]⟩ = mkB (inpT m.2.1) := rfl
  have w4 : ((wlM m).map mkB).getD 4 ⟨#[]⟩ = mkB (Lib.itoa m.2.2.1) := rfl
  have w6 : ((wlM m).map mkB).getD 6 ⟨#[]⟩ = mkB (Lib.itoa m.2.2.2.1) := rfl
  have w8 : ((wlM m).map mkB).getD 8 ⟨#[]⟩ = mkB (Lib.itoa m.2.2.2.2) := rfl
  rw [w0] at a1
  rw [w2] at a5 a6
  rw [w4] at a2
  rw [w6] at a3
  rw [w8] at a4
  refine met_ext ?_ ?_ ?_ ?_ ?_
  · rw [a1, mkB_list, show Lib.trimPrefix (114 :: Lib.itoa m.1) [114] = Lib.itoa m.1 by simp [Lib.trimPrefix, Lib.hasPrefix]]
    exact (par_itoa r0 (by omega)).2.1
  · by_cases hx : m.2.1 = []
    · rw [a5 ((inpT_free hd).2 hx), hx]
    · have hne := fun he => hx ((inpT_free hd).1 he)
      have hw : wordsI (mkB (inpT m.2.1)) = wrd m.2.1 := by
        rw [inpT, if_neg hx]
        exact words_comma _ hx hd
      rw [hw] at a6
      rw [a6 hne (num_words hd).1]
      exact (num_words hd).2.1
  · rw [a2]; exact (par_itoa q1.1 (by omega)).2.1
  · rw [a3]; exact (par_itoa q2.1 q2.2).2.1
  · rw [a4]; exact (par_itoa (by omega) q3.2).2.1
theorem hitS {S : List Int} {m m0 : Met} {s : ByteArray} (h : metS S m = true) (e : fmtMet m = s) (hr : ReadS (cutQ s) m0) : m0 = m := by
  obtain ⟨_, r0, r2, _, hd, q1, q2, q3⟩ := met_ok h
  rw [cutQ_hit h e] at hr
  obtain ⟨a1, a2, a3, a4, a5, a6⟩ := hr
  have w0 : ((wlM m).map mkB).getD 0 ⟨#[]⟩ = mkB (114 :: Lib.itoa m.1) := rfl
  have w2 : ((wlM m).map mkB).getD 2 ⟨#[]⟩ = mkB (inpT m.2.1) := rfl
  have w4 : ((wlM m).map mkB).getD 4 ⟨#[]⟩ = mkB (Lib.itoa m.2.2.1) := rfl
  have w6 : ((wlM m).map mkB).getD 6 ⟨#[]⟩ = mkB (Lib.itoa m.2.2.2.1) := rfl
  have w8 : ((wlM m).map mkB).getD 8 ⟨#[]⟩ = mkB (Lib.itoa m.2.2.2.2) := rfl
  rw [w0] at a1
  rw [w2] at a5 a6
  rw [w4] at a2
  rw [w6] at a3
  rw [w8] at a4
  refine met_ext ?_ ?_ ?_ ?_ ?_
  · rw [a1]
    have hlen := itoa_len r0 (by omega)
    have hpos : 1 ≤ (Lib.itoa m.1).length := by
      obtain ⟨u, hu⟩ := Int.eq_ofNat_of_zero_le r0
      rw [hu, itoa_two (by omega)]
      unfold two
      split <;> simp
    unfold relS
    rw [if_pos ⟨by rw [mkB_size, List.length_cons]; omega, by show bn ⟨(114 :: Lib.itoa m.1).toArray⟩ 0 = 114; rw [bn_mk]; rfl⟩]
    have he : (mkB (114 :: Lib.itoa m.1)).extract 1 (mkB (114 :: Lib.itoa m.1)).size = mkB (Lib.itoa m.1) := by
      rw [mkB_size]
      show (⟨(114 :: Lib.itoa m.1).toArray⟩ : ByteArray).extract _ _ = _
      rw [extract_list]
      simp [mkB]
    rw [he]
    exact (par_itoa r0 (by omega)).2.2.1
  · by_cases hx : m.2.1 = []
    · rw [a5 ((inpT_free hd).2 hx), hx]
    · have hne := fun he => hx ((inpT_free hd).1 he)
      have hw : cutW (mkB (inpT m.2.1)) = wrd m.2.1 := by
        rw [inpT, if_neg hx]
        exact cutW_comma hx hd
      rw [a6 hne, hw]
      exact (num_words hd).2.2
  · rw [a2]; exact (par_itoa q1.1 (by omega)).2.2.1
  · rw [a3]; exact (par_itoa q2.1 q2.2).2.2.1
  · rw [a4]; exact (par_itoa (by omega) q3.2).2.2.1

/-- What both parsers answer. -/
noncomputable def prsM (S : List Int) (s : ByteArray) : Met × Bool := open Classical in if h : ∃ m, metS S m = true ∧ fmtMet m = s then (Classical.choose h, true) else (noM, false)
theorem prsM_yes {S : List Int} {s : ByteArray} {m : Met} (h : metS S m = true) (e : fmtMet m = s) (hu : ∀ m', metS S m' = true → fmtMet m' = s → m = m') : prsM S s = (m, true) := by
  unfold prsM
  rw [dif_pos ⟨m, h, e⟩]
  have hc := Classical.choose_spec (show ∃ m, metS S m = true ∧ fmtMet m = s from ⟨m, h, e⟩)
  rw [← hu _ hc.1 hc.2]
theorem prsM_no {S : List Int} {s : ByteArray} (h : ¬ ∃ m, metS S m = true ∧ fmtMet m = s) : prsM S s = (noM, false) := by
  unfold prsM
  rw [dif_neg h]
theorem prsM_I {S : List Int} {s : ByteArray} {m0 : Met} (hr : ReadI (spI s) m0) : (metS S m0 = true → fmtMet m0 = s → prsM S s = (m0, true)) ∧ (¬ (metS S m0 = true ∧ fmtMet m0 = s) → prsM S s = (noM, false)) :=
  ⟨fun h e => prsM_yes h e fun m' h' e' => hitI h' e' hr, fun h => prsM_no fun ⟨m, hm, e⟩ => h (by rw [hitI hm e hr]; exact ⟨hm, e⟩)⟩
theorem prsM_S {S : List Int} {s : ByteArray} {m0 : Met} (hr : ReadS (cutQ s) m0) : (metS S m0 = true → fmtMet m0 = s → prsM S s = (m0, true)) ∧ (¬ (metS S m0 = true ∧ fmtMet m0 = s) → prsM S s = (noM, false)) :=
  ⟨fun h e => prsM_yes h e fun m' h' e' => hitS h' e' hr, fun h => prsM_no fun ⟨m, hm, e⟩ => h (by rw [hitS hm e hr]; exact ⟨hm, e⟩)⟩
theorem prsM_I9 {S : List Int} {s : ByteArray} (h : (spI s).length ≠ 9) : prsM S s = (noM, false) :=
  prsM_no fun ⟨m, hm, e⟩ => h (by rw [spI_hit hm e]; rfl)
theorem prsM_S9 {S : List Int} {s : ByteArray} (h : (cutQ s).length ≠ 9) : prsM S s = (noM, false) :=
  prsM_no fun ⟨m, hm, e⟩ => h (by rw [cutQ_hit hm e]; rfl)
/-- What ParseMethod answers: a method whose numbers lie in a block of the call's own. -/
def PmOut (w : World) (m : Met) (ok : Bool) (e : Ending) (w' : World) : Prop :=
  ∃ A c q, e = .returned (.tuple #[.agg #[.int .i64 m.1, .slice A m.2.1.length c, .int .i64 m.2.2.1, .int .i64 m.2.2.2.1, .int .i64 m.2.2.2.2], .bool ok]) ∧ OwnV w' w.heap.size w'.heap.size (.slice A m.2.1.length c) q m.2.1 ∧ Below w.heap.size w w'
def PmIs (w : World) (p : Met × Bool) (e : Ending) (w' : World) : Prop := PmOut w p.1 p.2 e w'
theorem szB_mem : ∀ {l : List ByteArray} {x : ByteArray}, x ∈ l → x.size + l.length ≤ szB l
  | y :: r, x, h => by
    have hs : szB (y :: r) = (y.size + 1) + szB r := by simp [szB]
    have hr : r.length ≤ szB r := by
      clear h hs
      induction r with
      | nil => exact Nat.zero_le _
      | cons z t ih =>
        have : szB (z :: t) = (z.size + 1) + szB t := by simp [szB]
        rw [List.length_cons]
        omega
    rw [List.length_cons]
    rcases List.mem_cons.1 h with rfl | h
    · omega
    · have := szB_mem h
      omega
theorem nine_size {l : List ByteArray} {n k : Nat} (h : szB l ≤ n + 1) (h9 : l.length = 9) (hk : k < 9) : (l.getD k ⟨#[]⟩).size + 8 ≤ n := by
  have hm : l.getD k ⟨#[]⟩ ∈ l := by rw [List.getD_eq_getElem?_getD, List.getElem?_eq_getElem (by omega)]; exact List.getElem_mem _
  have := szB_mem hm
  omega
theorem box_set5 {w : World} {g : Nat} {t : TypeId} {a b c d f v : Value} (h : Box w g #[a, b, c, d, f] t) : Box (w.setCell ⟨g, 1, none⟩ v) g #[a, v, c, d, f] t := by simpa using h.set 1 v
theorem box_all5 {w : World} {g : Nat} {t : TypeId} {a0 a1 a2 a3 a4 : Value} (b0 b1 b2 b3 b4 : Value) (h : Box w g #[a0, a1, a2, a3, a4] t) : Box (((((w.setCell ⟨g, 0, none⟩ b0).setCell ⟨g, 1, none⟩ b1).setCell ⟨g, 2, none⟩ b2).setCell ⟨g, 3, none⟩ b3).setCell ⟨g, 4, none⟩ b4) g #[b0, b1, b2, b3, b4] t := by
  simpa using ((((h.set 0 b0).set 1 b1).set 2 b2).set 3 b3).set 4 b4
theorem below_all5 {n g : Nat} {a w : World} (b0 b1 b2 b3 b4 : Value) (d : Below n a w) (hg : n ≤ g) : Below n a (((((w.setCell ⟨g, 0, none⟩ b0).setCell ⟨g, 1, none⟩ b1).setCell ⟨g, 2, none⟩ b2).setCell ⟨g, 3, none⟩ b3).setCell ⟨g, 4, none⟩ b4) :=
  ((((d.setCell hg b0).setCell hg b1).setCell hg b2).setCell hg b3).setCell hg b4
theorem ownV_all5 {w : World} {g q : Nat} {v : Value} {xs : List Int} (b0 b1 b2 b3 b4 : Value) (h : OwnV w (g + 1) w.heap.size v q xs) : OwnV (((((w.setCell ⟨g, 0, none⟩ b0).setCell ⟨g, 1, none⟩ b1).setCell ⟨g, 2, none⟩ b2).setCell ⟨g, 3, none⟩ b3).setCell ⟨g, 4, none⟩ b4) g (((((w.setCell ⟨g, 0, none⟩ b0).setCell ⟨g, 1, none⟩ b1).setCell ⟨g, 2, none⟩ b2).setCell ⟨g, 3, none⟩ b3).setCell ⟨g, 4, none⟩ b4).heap.size v q xs := by
  simp only [set_size]
  refine (h.keep fun h1 _ _ => ?_).mono (by omega) (Nat.le_refl _)
  have hq : ∀ i : Nat, q ≠ (⟨g, i, none⟩ : Addr).block := fun i => by show q ≠ g; omega
  exact ((((Below.heap_setCell _ _ b4 q (hq 4)).trans (Below.heap_setCell _ _ b3 q (hq 3))).trans (Below.heap_setCell _ _ b2 q (hq 2))).trans (Below.heap_setCell _ _ b1 q (hq 1))).trans (Below.heap_setCell _ _ b0 q (hq 0))
theorem cell_blk {w w' : World} {b i : Nat} (h : w'.heap[b]? = w.heap[b]?) : w'.cell? ⟨b, i, none⟩ = w.cell? ⟨b, i, none⟩ := World.cell?_of_block (w := w) h
end Go.Proofs.YtenondgjipmhnaaDoor
