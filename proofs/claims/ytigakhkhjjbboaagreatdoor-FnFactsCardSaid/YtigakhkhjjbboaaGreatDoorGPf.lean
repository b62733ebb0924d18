/- What the program's parseNumbers answers. Conditions: none beyond each theorem's own. What parseParts answers with ParseInt. Conditions: none beyond each theorem's own. What the program's ParseFact answers. Conditions: none beyond each theorem's own. -/
import Derived.Test.YtigakhkhjjbboaaGreatDoorRow
import Derived.Test.YtigakhkhjjbboaaGreatDoorGPar
import Derived.Test.YtigakhkhjjbboaaGreatDoorGFmt

namespace Go.Proofs.YtigakhkhjjbboaaGreatDoor
open Go.ChangeShapes Go.WideShapes Go.ChangeAt Go.RowKit Go.Sort
set_option linter.unusedVariables false
set_option linter.unusedSimpArgs false

/-- Are all words numerals? -/
def allN (ws : List ByteArray) : Prop := ∀ x ∈ ws, parB x = true
noncomputable def nums (ws : List ByteArray) : List Int := ws.map parN
def PnOut (w : World) (s : ByteArray) (e : Ending) (w' : World) : Prop :=
  ∃ A c ok q xs, e = .returned (.tuple #[.slice A xs.length c, .bool ok]) ∧ OwnV w' w.heap.size w'.heap.size (.slice A xs.length c) q xs ∧ Below w.heap.size w w' ∧ xs.length ≤ s.size + 1 ∧ (ok = true ↔ allN (wordsI s)) ∧ (ok = true → xs = nums (wordsI s))
theorem nums_take (ws : List ByteArray) {k : Nat} (hk : k < ws.length) {x : ByteArray} (hx : ws.getD k ⟨#[]⟩ = x) : (nums ws).take (k + 1) = (nums ws).take k ++ [parN x] := by
  have hk' : k < (nums ws).length := by simpa [nums] using hk
  rw [List.take_succ_eq_append_getElem hk']
  subst hx
  simp [nums, List.getD_eq_getElem?_getD, hk]
theorem ownV_nil (w : World) (lo hi : Nat) : OwnV w lo hi (.slice none 0 0) 0 [] := ⟨none, 0, rfl, Nat.le_refl _, by unfold maxLen; omega, fun h => by simp at h⟩

set_option maxRecDepth 100000 in
set_option maxHeartbeats 1000000 in
theorem parseList_int (s : ByteArray) (m : Int) (hs : s.size ≤ 1048576) (w : World) (hm : w.cell? ⟨0, 0, none⟩ = some (.int .i64 m)) (ht : Tab w) :
    Calls Tryz.prog 96 #[.string s, .func (.func 55) #[] #[]] w (PnOut w s) := by
  obtain ⟨i0, hi, hz0, hz1, hz2⟩ := info_parts int_info
  have HT := Lib.hid (Lib.tabBelow_of_tabIs ht)
  have hsp := Tryz.strings_Split s ⟨#[44]⟩ m w (by omega) hm (by decide)
  rw [← words_len] at hsp
  change Calls Tryz.prog _ _ _ fun e w' => e = .returned (.slice (some ⟨w.heap.size, 0, none⟩) (wordsI s).length (wordsI s).length) ∧ w' = w.alloc (.cells ((wordsI s).map Value.string).toArray 9) at hsp
  have WL := words_le s
  have WS := Lib.hid (fun x (h : x ∈ wordsI s) => words_size h)
  generalize hws : wordsI s = ws at hsp WL WS
  have HW := Lib.hid hws
  have SP := Lib.hid hsp
  have R0 := Lib.hid (show RS (w.alloc (.cells (ws.map Value.string).toArray 9)) w.heap.size ws from heap_alloc_new w _)
  have B0 := Lib.hid (below_alloc w (.cells (ws.map Value.string).toArray 9))
  have WL' : (ws.length : Int) ≤ 1048577 := by omega
  obtain ⟨w0, hw0⟩ : ∃ W, W = w.alloc (.cells (ws.map Value.string).toArray 9) := ⟨_, rfl⟩
  have Z0 : w0.heap.size = w.heap.size + 1 := by rw [hw0, al_size]
  rw [← hw0] at R0 B0 SP
  clear hsp hws hm ht hw0
  go_enter Tryz.func96, Tryz.ntmps96
  go_wp2_with (go_at_call 109; refine SP.out.mono ?_; rintro e w0 ⟨rfl, rfl⟩)
  go_loopw [6, 8, 9, 10, 14] (fun v _ _ _ i wr => ∃ (k : Nat) (A : Option Addr) (c : Nat), k ≤ ws.length ∧ i = .int .i64 k ∧ v = .slice A k c ∧ wr.ownsRow (w.heap.size + 1) 3 1 (.slice A k c) k (((nums ws).take k).map (Value.int .i64)) ∧ Below (w.heap.size + 1) w0 wr ∧ w.heap.size + 1 ≤ wr.heap.size ∧ Hid (∀ x ∈ ws.take k, parB x = true)) (fun _ _ _ _ i _ => ws.length - (intOf i).toNat)
  case atStart => exact ⟨0, none, 0, by omega, rfl, rfl, ⟨by simp, .inl ⟨rfl, rfl⟩⟩, Below.refl _ _, by omega, Lib.hid (by simp)⟩
  case round =>
    obtain ⟨k, A, c, hk, rfl, rfl, hown, hb, hsz, hall⟩ := hrel
    have R1 : RS wr w.heap.size ws := (hb.block _ (by omega)).trans R0.out
    by_cases hlt : k < ws.length
    · have hc := R1.cell hlt
      generalize hx : ws.getD k ⟨#[]⟩ = x at hc
      have hxm : x ∈ ws := by subst hx; rw [List.getD_eq_getElem?_getD, List.getElem?_eq_getElem hlt]; exact List.getElem_mem _
      have hxs : x.size ≤ 1048576 := Nat.le_trans (WS.out x hxm) hs
      have NT := Lib.hid (nums_take ws hlt hx)
      have TK := Lib.hid (show ws.take (k + 1) = ws.take k ++ [x] by rw [List.take_succ_eq_append_getElem hlt]; subst hx; simp [List.getD_eq_getElem?_getD, hlt])
      have HM := Lib.hid hxm
      have XI := Lib.hid (impl_ParseInt x hxs wr (HT.out wr (B0.out.trans (hb.mono (by omega)))))
      have BB := Lib.hid hb
      clear hx hxm R1
      by_cases hp : parB x = true
      · rw [hp] at XI
        have HP := Lib.hid hp
        have HO := Lib.hid hown
        generalize parN x = n at XI NT
        clear hp hb hown
        go_wp2_with (first
          | (go_at_call 55; refine XI.out.mono ?_; rintro e u ⟨rfl, d⟩
             have hownu := ownsRow_step HO.out d
             have hbu : Below (w.heap.size + 1) w0 u := BB.out.trans (d.mono hsz)
             have hszu : w.heap.size + 1 ≤ u.heap.size := by have := d.size; omega
             clear d)
          | (at_builtin; refine wpList_push rfl _ _ _ 3 rfl i0 Tryz.underlying25 hi (.int .i64 0) 8 hz0 hz1 hz2 rfl (by omega) rfl rfl rfl hownu hbu hszu (by omega) ?_; intro v' w' hown' hb' hsz'; obtain ⟨A', c', rfl⟩ := ownsRow_form hown'))
        go_roundw
        case rel =>
          refine ⟨k + 1, A', c', by omega, by go_num, rfl, ?_, hb', by omega, Lib.hid (by rw [TK.out]; intro y hy; rcases List.mem_append.1 hy with hy | hy; exact hall.out y hy; simp at hy; subst hy; exact HP.out)⟩
          rw [NT.out, List.map_append]
          exact hown'
        case measure => simp [intOf]; omega
      · have hp' : parB x = false := by simpa using hp
        rw [hp'] at XI
        have HP := Lib.hid hp
        generalize parN x = n at XI
        clear hp hp' hb hown NT
        go_wp2_with (go_at_call 55; refine XI.out.mono ?_; rintro e u ⟨rfl, d⟩)
        go_ret2
        refine ⟨none, 0, false, 0, [], rfl, ownV_nil _ _ _, B0.out.trans ((BB.out.trans (d.mono hsz)).mono (by omega)), by simp, ?_, fun h => (by cases h)⟩
        rw [HW.out]
        exact ⟨fun h => (by cases h), fun h => absurd (h x HM.out) HP.out⟩
    · obtain rfl : k = ws.length := by omega
      have hnl : (nums ws).length = ws.length := by simp [nums]
      have hown2 : wr.ownsRow (w.heap.size + 1) 3 1 (.slice A ws.length c) ws.length ((nums ws).map (Value.int .i64)) := by have := hown; rw [List.take_of_length_le (by omega)] at this; exact this
      obtain ⟨q, hv⟩ := ownV_of_row hown2
      have HV := Lib.hid (show OwnV wr (w.heap.size + 1) wr.heap.size (.slice A (nums ws).length c) q (nums ws) by rw [hnl]; exact hv)
      have BB := Lib.hid hb
      have HA := Lib.hid hall
      have NL := Lib.hid hnl
      clear hown hown2 hv hb hnl R1
      go_wp2
      go_ret2
      refine ⟨A, c, true, q, nums ws, by rw [NL.out]; rfl, HV.out.mono (by omega) (Nat.le_refl _), B0.out.trans (BB.out.mono (by omega)), by rw [NL.out]; exact WL, ?_, fun _ => by rw [HW.out]⟩
      rw [HW.out]
      exact ⟨fun _ x hx => hall.out x (by rw [List.take_length]; exact hx), fun _ => rfl⟩
end Go.Proofs.YtigakhkhjjbboaaGreatDoor

namespace Go.Proofs.YtigakhkhjjbboaaGreatDoor
open Go.ChangeShapes Go.WideShapes Go.ChangeAt Go.RowKit Go.Sort
set_option linter.unusedVariables false
set_option linter.unusedSimpArgs false

/-- The text up to the parenthesis, and behind it; the number, and the numbers' text. -/
def hdI (s : ByteArray) : ByteArray := ⟨(Lib.cut s.data.toList [40]).1.toArray⟩
def tlI (s : ByteArray) : ByteArray := ⟨(Lib.cut s.data.toList [40]).2.1.toArray⟩
def cbI (s : ByteArray) : Bool := (Lib.cut s.data.toList [40]).2.2
def numI (s : ByteArray) : ByteArray := ⟨(Lib.trimPrefix (hdI s).data.toList [114]).toArray⟩
def bodyI (s : ByteArray) : ByteArray := ⟨(Lib.trimSuffix (tlI s).data.toList [41]).toArray⟩
theorem hdI_size (s : ByteArray) : (hdI s).size ≤ s.size ∧ (tlI s).size ≤ s.size := by
  unfold hdI tlI Lib.cut
  split
  · simp only [size_eq', List.length_take, List.length_drop]; omega
  · simp only [size_eq']; simp
theorem numI_size (s : ByteArray) : (numI s).size ≤ s.size := by
  refine Nat.le_trans ?_ (hdI_size s).1
  unfold numI Lib.trimPrefix
  split
  · simp only [size_eq', List.length_drop]; omega
  · exact Nat.le_refl _
theorem bodyI_size (s : ByteArray) : (bodyI s).size ≤ s.size := by
  refine Nat.le_trans ?_ (hdI_size s).2
  unfold bodyI Lib.trimSuffix
  split
  · simp only [size_eq', List.length_take]; omega
  · exact Nat.le_refl _
theorem cutI_at (s : ByteArray) (hs : s.size ≤ 1048576) (m : Int) (W : World) (hm : W.cell? ⟨0, 0, none⟩ = some (.int .i64 m)) :
    Calls Tryz.prog 70 #[.string s, .string ⟨#[40]⟩] W fun e w' => e = .returned (.tuple #[.string (hdI s), .string (tlI s), .bool (cbI s)]) ∧ Below W.heap.size W w' := by
  refine (Tryz.strings_Cut s ⟨#[40]⟩ m W (by omega) hm).mono ?_
  rintro e w' ⟨rfl, n, rfl⟩
  exact ⟨rfl, below_drewN (Below.refl _ _) n⟩
theorem trimP_at (s : ByteArray) (W : World) :
    Calls Tryz.prog 95 #[.string (hdI s), .string ⟨#[114]⟩] W fun e w' => e = .returned (.string (numI s)) ∧ W = w' := by
  refine (Tryz.strings_TrimPrefix (hdI s) ⟨#[114]⟩ W).mono ?_
  rintro e w' ⟨rfl, rfl⟩
  exact ⟨rfl, rfl⟩
theorem trimS_at (s : ByteArray) (hs : s.size ≤ 1048576) (W : World) :
    Calls Tryz.prog 97 #[.string (tlI s), .string ⟨#[41]⟩] W fun e w' => e = .returned (.string (bodyI s)) ∧ W = w' := by
  refine (Tryz.strings_TrimSuffix (tlI s) ⟨#[41]⟩ W (by have := (hdI_size s).2; omega)).mono ?_
  rintro e w' ⟨rfl, rfl⟩
  exact ⟨rfl, rfl⟩

/-- Is the text that of a fact of the schema? -/
def okPI (S : List Int) (s : ByteArray) : Prop :=
  parB (numI s) = true ∧ allN (wordsI (bodyI s)) ∧ factB S (parN (numI s)) (nums (wordsI (bodyI s))) = true ∧ fmtF (parN (numI s)) (nums (wordsI (bodyI s))) = s
noncomputable instance (S : List Int) (s : ByteArray) : Decidable (okPI S s) := Classical.propDecidable _
noncomputable def prs (S : List Int) (s : ByteArray) : Int × List Int × Bool := if okPI S s then (parN (numI s), nums (wordsI (bodyI s)), true) else (0, [], false)
theorem prs_no {S : List Int} {s : ByteArray} (h : ¬ okPI S s) : prs S s = (0, [], false) := if_neg h
theorem prs_yes {S : List Int} {s : ByteArray} (h : okPI S s) : prs S s = (parN (numI s), nums (wordsI (bodyI s)), true) := if_pos h
def PfOut (w : World) (r : Int) (xs : List Int) (ok : Bool) (e : Ending) (w' : World) : Prop :=
  ∃ A c q, e = .returned (.tuple #[.agg #[.int .i64 r, .slice A xs.length c], .bool ok]) ∧ OwnV w' w.heap.size w'.heap.size (.slice A xs.length c) q xs ∧ Below w.heap.size w w'
def PfIs (w : World) (p : Int × List Int × Bool) (e : Ending) (w' : World) : Prop := PfOut w p.1 p.2.1 p.2.2 e w'
theorem factB_len {S : List Int} {r : Int} {xs : List Int} (h : factB S r xs = true) : xs.length ≤ 3 ∧ fmtOk r xs = true := by
  unfold factB schB at h
  simp only [Bool.and_eq_true, decide_eq_true_eq] at h
  obtain ⟨⟨⟨⟨h1, h2⟩, h3⟩, h4⟩, h5⟩ := h
  have h2' : 1 ≤ (S.length : Int) ∧ (S.length : Int) ≤ 3 := by simpa [inB] using h2
  have h3' : 0 ≤ r ∧ r ≤ (S.length : Int) - 1 := by simpa [inB] using h3
  have h6 := allB_get h1 (show r.toNat < S.length by omega)
  rw [← h4] at h6
  refine ⟨by omega, ?_⟩
  unfold fmtOk
  rw [h5]
  simp [inB]
  omega

/-- What parseParts answers. -/
def PpOut (w : World) (s : ByteArray) (e : Ending) (w' : World) : Prop :=
  ∃ A c ok q xs, e = .returned (.tuple #[.int .i64 (parN (numI s)), .slice A xs.length c, .bool ok]) ∧ OwnV w' w.heap.size w'.heap.size (.slice A xs.length c) q xs ∧ Below w.heap.size w w' ∧ xs.length ≤ s.size + 1 ∧ (ok = true ↔ parB (numI s) = true ∧ allN (wordsI (bodyI s))) ∧ (ok = true → xs = nums (wordsI (bodyI s)))
set_option maxRecDepth 100000 in
set_option maxHeartbeats 1000000 in
theorem parseParts_int (s : ByteArray) (hs : s.size ≤ 1048576) (m : Int) (w : World) (hm : w.cell? ⟨0, 0, none⟩ = some (.int .i64 m)) (ht : Tab w) :
    Calls Tryz.prog 54 #[.string s, .func (.func 55) #[] #[]] w (PpOut w s) := by
  have HT := Lib.hid (Lib.tabBelow_of_tabIs ht)
  have HM := Lib.hid (fun (W : World) (hW : Below w.heap.size w W) => (hW.cell (p := ⟨0, 0, none⟩) (by
    show 0 < w.heap.size
    rcases Nat.eq_zero_or_pos w.heap.size with h0 | h0
    · simp [World.cell?, Array.getElem?_eq_none (show w.heap.size ≤ 0 by omega)] at hm
    · exact h0)).trans hm)
  have CU := Lib.hid (fun (W : World) (hW : Below w.heap.size w W) => cutI_at s hs m W (HM.out W hW))
  have NI := Lib.hid (fun (W : World) (hW : Below w.heap.size w W) => impl_ParseInt (numI s) (Nat.le_trans (numI_size s) hs) W (HT.out W hW))
  have PN := Lib.hid (fun (W : World) (hW : Below w.heap.size w W) => parseList_int (bodyI s) m (Nat.le_trans (bodyI_size s) hs) W (HM.out W hW) (HT.out W hW))
  have BS := Lib.hid (bodyI_size s)
  clear hm ht
  go_enter Tryz.func54, Tryz.ntmps54
  go_wp2_with fail
  refine (CU.out _ (Below.refl _ _)).mono ?_
  rintro e w1 ⟨rfl, d1⟩
  have B1 := Lib.hid d1
  clear d1
  go_wp2_with fail
  refine (trimP_at s _).mono ?_
  rintro e u ⟨rfl, rfl⟩
  go_wp2_with fail
  refine (NI.out _ B1.out).mono ?_
  rintro e w2 ⟨rfl, d2⟩
  have B2 := Lib.hid (step B1.out d2)
  clear d2
  go_wp2_with fail
  refine (trimS_at s hs _).mono ?_
  rintro e u ⟨rfl, rfl⟩
  go_wp2_with fail
  refine (PN.out _ B2.out).mono ?_
  rintro e w3 ⟨A, c, ok, q, xs, rfl, hv, d3, hxl, hok, hxs⟩
  have B3 := Lib.hid (step B2.out d3)
  have HV := Lib.hid (hv.mono B2.out.size (Nat.le_refl _))
  have PK := Lib.hid (show ∀ b, ok = b → (b = true ↔ allN (wordsI (bodyI s))) from fun b hb => by subst hb; exact hok)
  have PX := Lib.hid (show ∀ b, ok = b → b = true → xs = nums (wordsI (bodyI s)) from fun b hb h => by subst hb; exact hxs h)
  have XL := Lib.hid (show xs.length ≤ s.size + 1 by have := BS.out; omega)
  have PB := Lib.hid (show ∀ b, parB (numI s) = b → ∀ p : Prop, (b = true ∧ p ↔ parB (numI s) = true ∧ p) from fun b hb p => by rw [hb])
  clear hv d3 hok hxs hxl
  generalize hP : parB (numI s) = pb at PB ⊢
  have P1 := Lib.hid hP
  clear hP
  cases pb
  · go_wp2
    refine bodyPost_ret (v := .tuple #[.int .i64 (parN (numI s)), .slice A xs.length c, .bool false]) (by simp [results, Tryz.results54, go_sem]) rfl ?_
    refine (show PpOut w s _ _ from ⟨A, c, false, q, xs, rfl, HV.out, B3.out, XL.out, ?_, fun h => (by cases h)⟩)
    rw [P1.out]
    exact ⟨fun h => (by cases h), fun h => (by cases h.1)⟩
  · cases ok
    · go_wp2
      refine bodyPost_ret (v := .tuple #[.int .i64 (parN (numI s)), .slice A xs.length c, .bool false]) (by simp [results, Tryz.results54, go_sem]) rfl ?_
      refine (show PpOut w s _ _ from ⟨A, c, false, q, xs, rfl, HV.out, B3.out, XL.out, ?_, fun h => (by cases h)⟩)
      exact ⟨fun h => (by cases h), fun h => (by have := (PK.out false rfl).2 h.2; cases this)⟩
    · go_wp2
      refine bodyPost_ret (v := .tuple #[.int .i64 (parN (numI s)), .slice A xs.length c, .bool true]) (by simp [results, Tryz.results54, go_sem]) rfl ?_
      refine (show PpOut w s _ _ from ⟨A, c, true, q, xs, rfl, HV.out, B3.out, XL.out, ?_, fun h => PX.out true rfl rfl⟩)
      exact ⟨fun _ => ⟨P1.out, (PK.out true rfl).1 rfl⟩, fun _ => rfl⟩
end Go.Proofs.YtigakhkhjjbboaaGreatDoor

namespace Go.Proofs.YtigakhkhjjbboaaGreatDoor
open Go.ChangeShapes Go.WideShapes Go.ChangeAt Go.RowKit Go.Sort
set_option linter.unusedVariables false
set_option linter.unusedSimpArgs false

set_option maxRecDepth 100000 in
set_option maxHeartbeats 1000000 in
theorem impl_ParseFact (S : Option Addr) (cS : Nat) (sch : List Int) (hls : sch.length ≤ 1048576) (s : ByteArray) (hs : s.size ≤ 1048576) (m : Int) (w : World) (h : RI w S sch) (hm : w.cell? ⟨0, 0, none⟩ = some (.int .i64 m)) (ht : Tab w) :
    Calls Tryz.prog 16 #[.slice S sch.length cS, .string s] w (PfIs w (prs sch s)) := by
  have HT := Lib.hid (Lib.tabBelow_of_tabIs ht)
  have B0 := Lib.hid (below_alloc w (.cells #[.int .i64 0, .slice none 0 0] 27))
  have HM := Lib.hid (fun (W : World) (hW : Below w.heap.size w W) => (hW.cell (p := ⟨0, 0, none⟩) (by
    show 0 < w.heap.size
    rcases Nat.eq_zero_or_pos w.heap.size with h0 | h0
    · simp [World.cell?, Array.getElem?_eq_none (show w.heap.size ≤ 0 by omega)] at hm
    · exact h0)).trans hm)
  have HI := Lib.hid h
  have X0 := Lib.hid (Box.new w #[.int .i64 0, .slice none 0 0] 27)
  have PP := Lib.hid (fun (W : World) (hW : Below w.heap.size w W) => parseParts_int s hs m W (HM.out W hW) (HT.out W hW))
  clear hm ht h
  go_enter Tryz.func16, Tryz.ntmps16
  go_wp2_with fail
  refine (PP.out _ B0.out).mono ?_
  rintro e w3 ⟨A, c, ok, q, xs, rfl, hv, d3, hxl, hok, hxs⟩
  have B3 := Lib.hid (step B0.out d3)
  have X3 := Lib.hid (X0.out.step d3)
  have N3 := d3.size
  have N2 := X0.out.lt
  have HV := Lib.hid hv
  have PK := Lib.hid (show ∀ b, ok = b → (b = true ↔ parB (numI s) = true ∧ allN (wordsI (bodyI s))) from fun b hb => by subst hb; exact hok)
  have HXS := Lib.hid (show ∀ b, ok = b → b = true → xs = nums (wordsI (bodyI s)) from fun b hb h => by subst hb; exact hxs h)
  have XL := Lib.hid hxl
  clear hv d3 hok hxs hxl
  have B4 := Lib.hid (step B3.out (below_alloc w3 (.cells #[.int .i64 (parN (numI s)), .slice A xs.length c] 27)))
  have X4 := Lib.hid (X3.out.step (below_alloc w3 (.cells #[.int .i64 (parN (numI s)), .slice A xs.length c] 27)))
  have Y4 := Lib.hid (Box.new w3 #[.int .i64 (parN (numI s)), .slice A xs.length c] 27)
  have V4 := Lib.hid (OwnV.mono (lo' := w.heap.size + 1) (HV.out.step (below_alloc w3 (.cells #[.int .i64 (parN (numI s)), .slice A xs.length c] 27))) N2 (Nat.le_refl _))
  have I4 := Lib.hid (HI.out.step B4.out)
  obtain ⟨w4, hw4⟩ : ∃ W, W = w3.alloc (.cells #[.int .i64 (parN (numI s)), .slice A xs.length c] 27) := ⟨_, rfl⟩
  have HW4 := Lib.hid hw4
  rw [← hw4] at B4 X4 Y4 V4 I4
  have J4 := Lib.hid (show RI w4 A xs from (V4.out.ints).2.2.2.mono (Nat.zero_le _) (Nat.le_refl _))
  have N4 : w3.heap.size + 1 = w4.heap.size := by rw [hw4, al_size]
  generalize hR : parN (numI s) = r at Y4 HW4 hw4 ⊢
  have HR := Lib.hid hR
  have EW := Lib.hid hw4
  clear hR hw4 HW4
  cases ok
  · have E := Lib.hid (prs_no (S := sch) (s := s) fun h => by have := (PK.out false rfl).2 ⟨h.1, h.2.1⟩; cases this)
    have q0 := X4.out.cell 0
    have q1 := X4.out.cell 1
    have q2 := X4.out.frozen 0
    have q3 := X4.out.frozen 1
    simp only [List.getElem?_toArray, List.getElem?_cons_zero, List.getElem?_cons_succ] at q0 q1
    have B4' := B4.out
    rw [EW.out] at q0 q1 q2 q3 B4'
    go_wp2
    refine bodyPost_ret (v := .tuple #[.agg #[.int .i64 0, .slice none 0 0], .bool false]) (by simp [results, Tryz.results16, go_sem, q0, q1, q2, q3]) rfl ?_
    rw [E.out]
    exact (show PfOut w 0 [] false _ _ from ⟨none, 0, 0, rfl, ownV_nil _ _ _, Below.setCell (Below.setCell B4' (Nat.le_refl _) _) (Nat.le_refl _) _⟩)
  · obtain rfl := HXS.out true rfl rfl
    have AN := Lib.hid ((PK.out true rfl).1 rfl).2
    have HP := Lib.hid ((PK.out true rfl).1 rfl).1
    have hxl := XL.out
    clear XL
    generalize hN : nums (wordsI (bodyI s)) = xs at *
    have HN := Lib.hid hN
    clear hN
    have y0 := Y4.out.cell 0
    have y1 := Y4.out.cell 1
    simp only [List.getElem?_toArray, List.getElem?_cons_zero, List.getElem?_cons_succ] at y0 y1
    rw [EW.out] at y0 y1
    go_wp2_with fail
    rw [← EW.out] at y0 y1 ⊢
    refine (impl_IsFact_r S cS sch r xs A c (by omega) (by omega) _ I4.out J4.out).mono ?_
    rintro e w5 ⟨he, d5⟩
    have B5 := Lib.hid (step B4.out d5)
    have X5 := Lib.hid (X4.out.step d5)
    have Y5 := Lib.hid (Y4.out.step d5)
    have V5 := Lib.hid (V4.out.step d5)
    have J5 := Lib.hid (J4.out.step d5)
    have T5 := Lib.hid (HT.out _ B5.out)
    clear d5 y0 y1
    cases hF : factB sch r xs
    · have E := Lib.hid (prs_no (S := sch) (s := s) fun h => by have := h.2.2.1; rw [HR.out, HN.out, hF] at this; cases this)
      rw [hF] at he
      subst he
      clear hF
      have q0 := X5.out.cell 0
      have q1 := X5.out.cell 1
      have q2 := X5.out.frozen 0
      have q3 := X5.out.frozen 1
      simp only [List.getElem?_toArray, List.getElem?_cons_zero, List.getElem?_cons_succ] at q0 q1
      go_wp2
      refine bodyPost_ret (v := .tuple #[.agg #[.int .i64 0, .slice none 0 0], .bool false]) (by simp [results, Tryz.results16, go_sem, q0, q1, q2, q3]) rfl ?_
      rw [E.out]
      exact (show PfOut w 0 [] false _ _ from ⟨none, 0, 0, rfl, ownV_nil _ _ _, Below.setCell (Below.setCell B5.out (Nat.le_refl _) _) (Nat.le_refl _) _⟩)
    · have FL := factB_len hF
      have HF := Lib.hid hF
      have FK := Lib.hid FL.2
      have hx3 := FL.1
      rw [hF] at he
      subst he
      clear hF FL
      have y0 := Y5.out.cell 0
      have y1 := Y5.out.cell 1
      simp only [List.getElem?_toArray, List.getElem?_cons_zero, List.getElem?_cons_succ] at y0 y1
      go_wp2_with fail
      refine (impl_FormatFact r xs A c (by omega) _ J5.out T5.out).mono ?_
      rintro e w6 ⟨rfl, d6⟩
      have B6 := Lib.hid (step B5.out d6)
      have X6 := Lib.hid (X5.out.step d6)
      have Y6 := Lib.hid (Y5.out.step d6)
      have V6 := Lib.hid (V5.out.step d6)
      clear d6 y0 y1
      by_cases c3 : fmtF r xs = s
      · have E := Lib.hid (prs_yes (S := sch) (s := s) ⟨HP.out, AN.out, by rw [HR.out, HN.out]; exact HF.out, by rw [HR.out, HN.out]; exact c3⟩)
        have c4 : ((fmtF r xs).toList == s.toList) = true := by rw [c3]; simp
        have c5 : (fmtF r xs).toList = s.toList := by rw [c3]
        clear c3
        have q0 := X6.out.cell 0
        have q1 := X6.out.cell 1
        have q2 := X6.out.frozen 0
        have q3 := X6.out.frozen 1
        simp only [List.getElem?_toArray, List.getElem?_cons_zero, List.getElem?_cons_succ] at q0 q1
        have y0 := Y6.out.cell 0
        have y1 := Y6.out.cell 1
        simp only [List.getElem?_toArray, List.getElem?_cons_zero, List.getElem?_cons_succ] at y0 y1
        go_wp2
        refine bodyPost_ret (v := .tuple #[.agg #[.int .i64 r, .slice A xs.length c], .bool true]) (by simp [results, Tryz.results16, go_sem, q0, q1, q2, q3]) rfl ?_
        rw [E.out, HR.out, HN.out]
        refine (show PfOut w r xs true _ _ from ⟨A, c, q, rfl, ?_, ?_⟩)
        · rw [size2]
          exact (V6.out.keep fun h1 _ _ => (Below.heap_setCell _ ⟨w.heap.size, 1, none⟩ _ q (by (try simp at h1 ⊢); omega)).trans (Below.heap_setCell _ ⟨w.heap.size, 0, none⟩ _ q (by (try simp at h1 ⊢); omega))).mono (by omega) (Nat.le_refl _)
        · exact Below.setCell (Below.setCell B6.out (Nat.le_refl _) _) (Nat.le_refl _) _
      · have E := Lib.hid (prs_no (S := sch) (s := s) fun h => c3 (by rw [← HR.out, ← HN.out]; exact h.2.2.2))
        have c5 : ¬ (fmtF r xs).toList = s.toList := fun h => c3 (by
          rw [ByteArray.toList_eq, ByteArray.toList_eq] at h
          apply ByteArray.ext; apply Array.toList_inj.1; exact h)
        have c6 : ((fmtF r xs).toList == s.toList) = false := by simpa using c5
        have c7 : ((fmtF r xs).toList != s.toList) = true := by simpa using c5
        clear c3
        have q0 := X6.out.cell 0
        have q1 := X6.out.cell 1
        have q2 := X6.out.frozen 0
        have q3 := X6.out.frozen 1
        simp only [List.getElem?_toArray, List.getElem?_cons_zero, List.getElem?_cons_succ] at q0 q1
        go_wp2
        refine bodyPost_ret (v := .tuple #[.agg #[.int .i64 0, .slice none 0 0], .bool false]) (by simp [results, Tryz.results16, go_sem, q0, q1, q2, q3]) rfl ?_
        rw [E.out]
        exact (show PfOut w 0 [] false _ _ from ⟨none, 0, 0, rfl, ownV_nil _ _ _, Below.setCell (Below.setCell B6.out (Nat.le_refl _) _) (Nat.le_refl _) _⟩)
end Go.Proofs.YtigakhkhjjbboaaGreatDoor
