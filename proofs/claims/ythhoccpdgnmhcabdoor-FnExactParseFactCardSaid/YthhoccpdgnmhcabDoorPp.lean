/- What parseParts answers with ParseInt. Conditions: none beyond each theorem's own. -/
import Derived.Test.YthhoccpdgnmhcabDoorPn
import Derived.Test.YthhoccpdgnmhcabDoorFmtG
namespace Go.Proofs.YthhoccpdgnmhcabDoor
open Go.ChangeShapes Go.WideShapes Go.ChangeAt Go.RowKit Go.Sort
set_option linter.unusedVariables false
set_option linter.unusedSimpArgs false

/-- The text up to the parenthesis, and behind it; the number, and the numbers' text. -/
def hdI (s : ByteArray) : ByteArray := ⟨(Lib.cut s.data.toList [40]).1.toArray⟩
def tlI (s : ByteArray) : ByteArray := ⟨(Lib.cut s.data.toList [40]).2.1.toArray⟩
def cbI (s : ByteArray) : Bool := (Lib.cut s.data.toList [40]).2.2
def numI (s : ByteArray) : ByteArray := ⟨(Lib.trimPrefix (hdI s).data.toList [114]).toArray⟩
def bodyI (s : ByteArray) : ByteArray := ⟨(Lib.trimSuffix (tlI s).data.toList [41]).toArray⟩
theorem hdI_size (s : ByteArray) : (hdI s).size ≤ s.size ∧ (tlI s).size ≤ s.size := by
  unfold hdI tlI Lib.cut
  split
  · simp only [size_eq', List.length_take, List.length_drop]; omega
  · simp only [size_eq']; simp
theorem numI_size (s : ByteArray) : (numI s).size ≤ s.size := by
  refine Nat.le_trans ?_ (hdI_size s).1
  unfold numI Lib.trimPrefix
  split
  · simp only [size_eq', List.length_drop]; omega
  · exact Nat.le_refl _
theorem bodyI_size (s : ByteArray) : (bodyI s).size ≤ s.size := by
  refine Nat.le_trans ?_ (hdI_size s).2
  unfold bodyI Lib.trimSuffix
  split
  · simp only [size_eq', List.length_take]; omega
  · exact Nat.le_refl _
theorem cutI_at (s : ByteArray) (hs : s.size ≤ 1048576) (m : Int) (W : World) (hm : W.cell? ⟨0, 0, none⟩ = some (.int .i64 m)) :
    Calls Tryd.prog 66 #[.string s, .string ⟨#[40]⟩] W fun e w' => e = .returned (.tuple #[.string (hdI s), .string (tlI s), .bool (cbI s)]) ∧ Below W.heap.size W w' := by
  refine (Tryd.strings_Cut s ⟨#[40]⟩ m W (by omega) hm).mono ?_
  rintro e w' ⟨rfl, n, rfl⟩
  exact ⟨rfl, below_drewN (Below.refl _ _) n⟩
theorem trimP_at (s : ByteArray) (W : World) :
    Calls Tryd.prog 67 #[.string (hdI s), .string ⟨#[114]⟩] W fun e w' => e = .returned (.string (numI s)) ∧ W = w' := by
  refine (Tryd.strings_TrimPrefix (hdI s) ⟨#[114]⟩ W).mono ?_
  rintro e w' ⟨rfl, rfl⟩
  exact ⟨rfl, rfl⟩
theorem trimS_at (s : ByteArray) (hs : s.size ≤ 1048576) (W : World) :
    Calls Tryd.prog 69 #[.string (tlI s), .string ⟨#[41]⟩] W fun e w' => e = .returned (.string (bodyI s)) ∧ W = w' := by
  refine (Tryd.strings_TrimSuffix (tlI s) ⟨#[41]⟩ W (by have := (hdI_size s).2; omega)).mono ?_
  rintro e w' ⟨rfl, rfl⟩
  exact ⟨rfl, rfl⟩

/-- Is the text that of a fact of the schema? -/
def okPI (S : List Int) (s : ByteArray) : Prop :=
  parB (numI s) = true ∧ allN (wordsI (bodyI s)) ∧ factB S (parN (numI s)) (nums (wordsI (bodyI s))) = true ∧ fmtF (parN (numI s)) (nums (wordsI (bodyI s))) = s
noncomputable instance (S : List Int) (s : ByteArray) : Decidable (okPI S s) := Classical.propDecidable _
noncomputable def prs (S : List Int) (s : ByteArray) : Int × List Int × Bool := if okPI S s then (parN (numI s), nums (wordsI (bodyI s)), true) else (0, [], false)
theorem prs_no {S : List Int} {s : ByteArray} (h : ¬ okPI S s) : prs S s = (0, [], false) := if_neg h
theorem prs_yes {S : List Int} {s : ByteArray} (h : okPI S s) : prs S s = (parN (numI s), nums (wordsI (bodyI s)), true) := if_pos h
def PfOut (w : World) (r : Int) (xs : List Int) (ok : Bool) (e : Ending) (w' : World) : Prop :=
  ∃ A c q, e = .returned (.tuple #[.agg #[.int .i64 r, .slice A xs.length c], .bool ok]) ∧ OwnV w' w.heap.size w'.heap.size (.slice A xs.length c) q xs ∧ Below w.heap.size w w'
def PfIs (w : World) (p : Int × List Int × Bool) (e : Ending) (w' : World) : Prop := PfOut w p.1 p.2.1 p.2.2 e w'
theorem factB_len {S : List Int} {r : Int} {xs : List Int} (h : factB S r xs = true) : xs.length ≤ 3 ∧ fmtOk r xs = true := by
  unfold factB schB at h
  simp only [Bool.and_eq_true, decide_eq_true_eq] at h
  obtain ⟨⟨⟨⟨h1, h2⟩, h3⟩, h4⟩, h5⟩ := h
  have h2' : 1 ≤ (S.length : Int) ∧ (S.length : Int) ≤ 3 := by simpa [inB] using h2
  have h3' : 0 ≤ r ∧ r ≤ (S.length : Int) - 1 := by simpa [inB] using h3
  have h6 := allB_get h1 (show r.toNat < S.length by omega)
  rw [← h4] at h6
  refine ⟨by omega, ?_⟩
  unfold fmtOk
  rw [h5]
  simp [inB]
  omega

/-- What parseParts answers. -/
def PpOut (w : World) (s : ByteArray) (e : Ending) (w' : World) : Prop :=
  ∃ A c ok q xs, e = .returned (.tuple #[.int .i64 (parN (numI s)), .slice A xs.length c, .bool ok]) ∧ OwnV w' w.heap.size w'.heap.size (.slice A xs.length c) q xs ∧ Below w.heap.size w w' ∧ xs.length ≤ s.size + 1 ∧ (ok = true ↔ parB (numI s) = true ∧ allN (wordsI (bodyI s))) ∧ (ok = true → xs = nums (wordsI (bodyI s)))
set_option maxRecDepth 100000 in
set_option maxHeartbeats 1000000 in
theorem parseParts_int (s : ByteArray) (hs : s.size ≤ 1048576) (m : Int) (w : World) (hm : w.cell? ⟨0, 0, none⟩ = some (.int .i64 m)) (ht : Tab w) :
    Calls Tryd.prog 42 #[.string s, .func (.func 43) #[] #[]] w (PpOut w s) := by
  have HT := Lib.hid (Lib.tabBelow_of_tabIs ht)
  have HM := Lib.hid (fun (W : World) (hW : Below w.heap.size w W) => (hW.cell (p := ⟨0, 0, none⟩) (by
    show 0 < w.heap.size
    rcases Nat.eq_zero_or_pos w.heap.size with h0 | h0
    · simp [World.cell?, Array.getElem?_eq_none (show w.heap.size ≤ 0 by omega)] at hm
    · exact h0)).trans hm)
  have CU := Lib.hid (fun (W : World) (hW : Below w.heap.size w W) => cutI_at s hs m W (HM.out W hW))
  have NI := Lib.hid (fun (W : World) (hW : Below w.heap.size w W) => impl_ParseInt (numI s) (Nat.le_trans (numI_size s) hs) W (HT.out W hW))
  have PN := Lib.hid (fun (W : World) (hW : Below w.heap.size w W) => parseList_int (bodyI s) m (Nat.le_trans (bodyI_size s) hs) W (HM.out W hW) (HT.out W hW))
  have BS := Lib.hid (bodyI_size s)
  clear hm ht
  go_enter Tryd.func42, Tryd.ntmps42
  go_wp2_with fail
  refine (CU.out _ (Below.refl _ _)).mono ?_
  rintro e w1 ⟨rfl, d1⟩
  have B1 := Lib.hid d1
  clear d1
  go_wp2_with fail
  refine (trimP_at s _).mono ?_
  rintro e u ⟨rfl, rfl⟩
  go_wp2_with fail
  refine (NI.out _ B1.out).mono ?_
  rintro e w2 ⟨rfl, d2⟩
  have B2 := Lib.hid (step B1.out d2)
  clear d2
  go_wp2_with fail
  refine (trimS_at s hs _).mono ?_
  rintro e u ⟨rfl, rfl⟩
  go_wp2_with fail
  refine (PN.out _ B2.out).mono ?_
  rintro e w3 ⟨A, c, ok, q, xs, rfl, hv, d3, hxl, hok, hxs⟩
  have B3 := Lib.hid (step B2.out d3)
  have HV := Lib.hid (hv.mono B2.out.size (Nat.le_refl _))
  have PK := Lib.hid (show ∀ b, ok = b → (b = true ↔ allN (wordsI (bodyI s))) from fun b hb => by subst hb; exact hok)
  have PX := Lib.hid (show ∀ b, ok = b → b = true → xs = nums (wordsI (bodyI s)) from fun b hb h => by subst hb; exact hxs h)
  have XL := Lib.hid (show xs.length ≤ s.size + 1 by have := BS.out; omega)
  have PB := Lib.hid (show ∀ b, parB (numI s) = b → ∀ p : Prop, (b = true ∧ p ↔ parB (numI s) = true ∧ p) from fun b hb p => by rw [hb])
  clear hv d3 hok hxs hxl
  generalize hP : parB (numI s) = pb at PB ⊢
  have P1 := Lib.hid hP
  clear hP
  cases pb
  · go_wp2
    refine bodyPost_ret (v := .tuple #[.int .i64 (parN (numI s)), .slice A xs.length c, .bool false]) (by simp [results, Tryd.results42, go_sem]) rfl ?_
    refine (show PpOut w s _ _ from ⟨A, c, false, q, xs, rfl, HV.out, B3.out, XL.out, ?_, fun h => (by cases h)⟩)
    rw [P1.out]
    exact ⟨fun h => (by cases h), fun h => (by cases h.1)⟩
  · cases ok
    · go_wp2
      refine bodyPost_ret (v := .tuple #[.int .i64 (parN (numI s)), .slice A xs.length c, .bool false]) (by simp [results, Tryd.results42, go_sem]) rfl ?_
      refine (show PpOut w s _ _ from ⟨A, c, false, q, xs, rfl, HV.out, B3.out, XL.out, ?_, fun h => (by cases h)⟩)
      exact ⟨fun h => (by cases h), fun h => (by have := (PK.out false rfl).2 h.2; cases this)⟩
    · go_wp2
      refine bodyPost_ret (v := .tuple #[.int .i64 (parN (numI s)), .slice A xs.length c, .bool true]) (by simp [results, Tryd.results42, go_sem]) rfl ?_
      refine (show PpOut w s _ _ from ⟨A, c, true, q, xs, rfl, HV.out, B3.out, XL.out, ?_, fun h => PX.out true rfl rfl⟩)
      exact ⟨fun _ => ⟨P1.out, (PK.out true rfl).1 rfl⟩, fun _ => rfl⟩
end Go.Proofs.YthhoccpdgnmhcabDoor
