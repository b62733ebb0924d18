/- What the two functions FormatLog answer. Conditions: none beyond each theorem's own. -/
import Derived.Test.YtcgmdleefaplfaaDoorFmtAc
import Derived.Test.YtcgmdleefaplfaaDoorEqList
import Derived.Lib.SlicesS
namespace Go.Proofs.YtcgmdleefaplfaaDoor
open Go.ChangeShapes Go.WideShapes Go.ChangeAt Go.RowKit Go.Sort
set_option linter.unusedVariables false
set_option linter.unusedSimpArgs false

/-- The text of one access. -/
def acT (a : Int × List Int) : List UInt8 := [109, dg a.1, 40] ++ commaL a.2 ++ [41]
theorem fmtAc_acT {r : Int} {xs : List Int} (h : acOk r xs = true) : fmtAc r xs = ⟨(acT (r, xs)).toArray⟩ := fmtAc_yes h
theorem acT_len {r : Int} {xs : List Int} (h : acOk r xs = true) : 4 ≤ (acT (r, xs)).length ∧ (acT (r, xs)).length ≤ 10 := by
  have h1 := commaL_len xs
  have h2 : xs.length ≤ 3 := by
    unfold acOk at h
    simp only [Bool.and_eq_true, decide_eq_true_eq] at h
    exact h.1.2
  unfold acT
  simp only [List.length_append, List.length_cons, List.length_nil]
  omega
def okG (l : FL) (n : Nat) : Bool := (List.range n).all fun k => acOk (l.getD k (0, [])).1 (l.getD k (0, [])).2
theorem okG_succ (l : FL) (k : Nat) : okG l (k + 1) = (okG l k && acOk (l.getD k (0, [])).1 (l.getD k (0, [])).2) := by
  unfold okG
  rw [List.range_succ, List.all_append]
  simp
theorem okG_not (l : FL) (k n : Nat) (hk : k < n) (h : acOk (l.getD k (0, [])).1 (l.getD k (0, [])).2 = false) : okG l n = false := by
  unfold okG
  rw [List.all_eq_false]
  exact ⟨k, by simpa using hk, by rw [h]; simp⟩
theorem okG_at (l : FL) {n k : Nat} (h : okG l n = true) (hk : k < n) : acOk (l.getD k (0, [])).1 (l.getD k (0, [])).2 = true := by
  unfold okG at h
  rw [List.all_eq_true] at h
  exact h k (by simpa using hk)
theorem okG_mem {l : FL} (h : okG l l.length = true) {a : Int × List Int} (ha : a ∈ l) : acOk a.1 a.2 = true := by
  obtain ⟨k, hk, rfl⟩ := List.getElem_of_mem ha
  have := okG_at l h hk
  simpa [List.getD_eq_getElem?_getD, hk] using this
/-- The accesses' texts, spaces between. -/
def spcA : FL → List UInt8
  | [] => []
  | [x] => acT x
  | x :: y :: r => acT x ++ 32 :: spcA (y :: r)
theorem spcA_snoc : ∀ (l : FL) (x : Int × List Int), l ≠ [] → spcA (l ++ [x]) = spcA l ++ 32 :: acT x
  | [], x, h => absurd rfl h
  | [y], x, _ => rfl
  | y :: z :: r, x, _ => by
    have ih := spcA_snoc (z :: r) x (by simp)
    simp only [List.cons_append] at ih ⊢
    rw [spcA, spcA, ih]
    simp
theorem spcA_take (l : FL) (k : Nat) (hk : k < l.length) : spcA (l.take (k + 1)) = if k = 0 then acT (l.getD k (0, [])) else spcA (l.take k) ++ 32 :: acT (l.getD k (0, [])) := by
  have e : l[k] = l.getD k (0, []) := by simp [List.getD_eq_getElem?_getD, hk]
  rw [List.take_succ_eq_append_getElem hk, e]
  by_cases h0 : k = 0
  · subst h0; simp [spcA]
  · rw [if_neg h0, spcA_snoc]
    intro h
    have := congrArg List.length h
    rw [List.length_take, List.length_nil] at this
    omega
theorem spcA_len : ∀ l : FL, (∀ a ∈ l, acOk a.1 a.2 = true) → (spcA l).length ≤ 11 * l.length
  | [], _ => by simp [spcA]
  | [x], h => by
    have : (acT x).length ≤ 10 := (acT_len (h x (by simp))).2
    simp only [spcA, List.length_cons, List.length_nil]
    omega
  | x :: y :: r, h => by
    have h1 := spcA_len (y :: r) fun a ha => h a (List.mem_cons_of_mem _ ha)
    have h2 : (acT x).length ≤ 10 := (acT_len (h x (by simp))).2
    simp only [spcA, List.length_cons, List.length_append] at *
    omega
theorem spcA_ne : ∀ l : FL, l ≠ [] → spcA l ≠ []
  | [], h => absurd rfl h
  | [x], _ => by simp [spcA, acT]
  | x :: y :: r, _ => by simp [spcA]
theorem spcA_join : ∀ l : FL, Lib.join (l.map acT) [32] = spcA l
  | [] => rfl
  | [x] => by simp [Lib.join_one, spcA]
  | x :: y :: r => by
    have ih := spcA_join (y :: r)
    simp only [List.map_cons] at ih ⊢
    rw [Lib.join_cons] at ih ⊢
    rw [spcA, ← ih]
    simp [Lib.joinTail]
theorem okG_take {l : FL} {k : Nat} (h : okG l k = true) : ∀ a ∈ l.take k, acOk a.1 a.2 = true := by
  intro a ha
  obtain ⟨j, hj, rfl⟩ := List.getElem_of_mem ha
  rw [List.length_take] at hj
  have := okG_at l h (show j < k by omega)
  simpa [List.getD_eq_getElem?_getD, show j < l.length by omega] using this
/-- The text of a log. -/
def fmtLg (l : FL) : ByteArray := if l.length = 0 then ⟨#[110, 111, 110, 101]⟩ else if okG l l.length = true then ⟨(spcA l).toArray⟩ else ⟨#[]⟩
theorem fmtLg_nil {l : FL} (h : l.length = 0) : fmtLg l = ⟨#[110, 111, 110, 101]⟩ := if_pos h
theorem fmtLg_yes {l : FL} (h0 : l.length ≠ 0) (h : okG l l.length = true) : fmtLg l = ⟨(spcA l).toArray⟩ := by
  unfold fmtLg
  rw [if_neg h0, if_pos h]
theorem fmtLg_no {l : FL} (h0 : l.length ≠ 0) (h : okG l l.length = false) : fmtLg l = ⟨#[]⟩ := by
  unfold fmtLg
  rw [if_neg h0, if_neg (by rw [h]; decide)]

set_option maxRecDepth 100000 in
set_option maxHeartbeats 1000000 in
theorem spec_FormatLog (A : Option Addr) (c : Nat) (l : FL) (hz : szF l ≤ 1048576) (w : World) (h : RF w A l) :
    Calls Tryd.prog 6 #[.slice A l.length c] w fun e w' => e = .returned (.string (fmtLg l)) ∧ Below w.heap.size w w' := by
  have hl := szF_len hz
  have hl' : (l.length : Int) ≤ 1048576 := by omega
  have HJ := Lib.hid h
  clear h
  go_enter Tryd.func6, Tryd.ntmps6
  go_wp2
  go_loopw [3, 4, 5] (fun v i _ wr => ∃ (k : Nat) (M : List UInt8), k ≤ l.length ∧ i = .int .i64 k ∧ v = .string ⟨M.toArray⟩ ∧ Hid (M = spcA (l.take k)) ∧ Hid (okG l k = true) ∧ Hid (Below w.heap.size w wr)) (fun _ i _ _ => l.length - (intOf i).toNat)
  case atStart => exact ⟨0, [], by omega, rfl, rfl, Lib.hid (by simp [spcA]), Lib.hid rfl, Lib.hid (Below.refl _ _)⟩
  case round =>
    obtain ⟨k, M, hk, rfl, rfl, hM, ha, hb⟩ := hrel
    have hMl : M.length ≤ 11534336 := by
      have h1 := spcA_len (l.take k) (okG_take ha.out)
      rw [← hM.out, List.length_take] at h1
      omega
    by_cases hlt : k < l.length
    · have hk0 : (0 : Int) ≤ (k : Int) := by omega
      have hk1 : (k : Int) < (l.length : Int) := by omega
      generalize hf : l.getD k (0, []) = f
      obtain ⟨x, vs⟩ := f
      have hxl : vs.length ≤ 1048576 := by have := szF_elem hz hlt; rw [hf] at this; exact this
      have AT := Lib.hid (show spcA (l.take (k + 1)) = if k = 0 then acT (x, vs) else spcA (l.take k) ++ 32 :: acT (x, vs) by rw [spcA_take l k hlt, hf])
      have OT := Lib.hid (show okG l (k + 1) = (okG l k && acOk x vs) by rw [okG_succ, hf])
      have ON := Lib.hid (fun (h : acOk x vs = false) => fmtLg_no (show l.length ≠ 0 by omega) (okG_not l k _ hlt (by rw [hf]; exact h)))
      obtain ⟨b, off, V, cv, rfl, hb1, e0, e1, _, _, hV⟩ := (HJ.out.step hb.out).at_ hlt hf
      have XA := Lib.hid (spec_FormatAccess x vs V cv hxl wr hV)
      clear hf hV
      by_cases c1 : acOk x vs = true
      · have C1 := Lib.hid c1
        have HL := Lib.hid (acT_len c1)
        rw [fmtAc_acT c1] at XA
        generalize hXX : acT (x, vs) = X at HL XA AT
        have n2 : ¬ X = [] := fun e => by have := HL.out.1; rw [e] at this; simp at this
        have n1 : (X == []) = false := by simpa using n2
        have hXl : X.length ≤ 10 := HL.out.2
        clear c1 hXX
        by_cases h0 : k = 0
        · have K0 := Lib.hid h0
          have A0 := Lib.hid (show M = [] by rw [hM.out, h0]; rfl)
          have e1' : ¬ ((0 : Int) < (k : Int)) := by omega
          have e2' : ¬ (0 < k) := by omega
          clear h0
          go_wp2_with fail
          refine XA.out.mono ?_
          rintro e u ⟨rfl, d⟩
          have hB := Lib.hid (step hb.out d)
          clear d
          go_wp2
          go_roundw
          case rel => exact ⟨k + 1, M ++ X, by omega, by go_num, by rw [ba_append], Lib.hid (by rw [AT.out, if_pos K0.out, A0.out]; rfl), Lib.hid (by rw [OT.out, ha.out, C1.out]; rfl), hB⟩
          case measure => simp [intOf]; omega
        · have K0 := Lib.hid h0
          have e1' : ((0 : Int) < (k : Int)) := by omega
          have e2' : (0 < k) := by omega
          clear h0
          go_wp2_with fail
          refine XA.out.mono ?_
          rintro e u ⟨rfl, d⟩
          have hB := Lib.hid (step hb.out d)
          clear d
          go_wp2
          go_roundw
          case rel => exact ⟨k + 1, M ++ [32] ++ X, by omega, by go_num, by rw [show (⟨#[32]⟩ : ByteArray) = ⟨[32].toArray⟩ from rfl, ba_append, ba_append], Lib.hid (by rw [AT.out, if_neg K0.out, hM.out]; simp), Lib.hid (by rw [OT.out, ha.out, C1.out]; rfl), hB⟩
          case measure => simp [intOf]; omega
      · have C1 := Lib.hid (show acOk x vs = false by simpa using c1)
        rw [fmtAc_no C1.out] at XA
        clear c1
        go_wp2_with fail
        refine XA.out.mono ?_
        rintro e u ⟨rfl, d⟩
        have hB := Lib.hid (step hb.out d)
        clear d
        go_wp2
        go_ret
        exact ⟨ret_str (ON.out C1.out).symm, hB.out⟩
    · obtain rfl : k = l.length := by omega
      by_cases h0 : l.length = 0
      · have E := Lib.hid (fmtLg_nil h0)
        obtain rfl : M = [] := by
          rw [hM.out, take_all]
          have : l = [] := List.length_eq_zero_iff.1 h0
          rw [this]
          rfl
        go_wp2
        go_ret
        exact ⟨ret_str E.out.symm, hb.out⟩
      · have E := Lib.hid (show fmtLg l = ⟨M.toArray⟩ by rw [fmtLg_yes h0 ha.out, hM.out, take_all])
        have n2 : ¬ M = [] := fun e => by
          rw [hM.out, take_all] at e
          exact spcA_ne l (fun h => h0 (by rw [h]; rfl)) e
        have n1 : (M == []) = false := by simpa using n2
        go_wp2
        go_ret
        exact ⟨ret_str E.out.symm, hb.out⟩

set_option maxRecDepth 100000 in
set_option maxHeartbeats 1000000 in
theorem formatWords_acc (A : Option Addr) (c : Nat) (l : FL) (hz : szF l ≤ 1048576) (w : World) (h : RF w A l) (ht : TabB w) :
    Calls Tryd.prog 26 #[.slice A l.length c, .func (.func 13) #[] #[]] w (WdsOut w (l.map fun a => fmtAc a.1 a.2)) := by
  have hl := szF_len hz
  have hl' : (l.length : Int) ≤ 1048576 := by omega
  obtain ⟨C, hC, hCs, hmk⟩ := makeStrs l.length hl
  have HI := Lib.hid h
  have HT := Lib.hid ht
  have HC := Lib.hid hC
  have HS := Lib.hid hCs
  clear h ht hC hCs
  go_enter Tryd.func26, Tryd.ntmps26
  go_wp2
  go_loopw [6, 7, 13] (fun _ _ i wr => ∃ k : Nat, k ≤ l.length ∧ i = .int .i64 k ∧ (∃ f, wr.rowIs w.heap.size 9 l.length f ∧ ∀ j, j < k → f j = .string (fmtAc (l.getD j (0, [])).1 (l.getD j (0, [])).2)) ∧ Below w.heap.size w wr ∧ w.heap.size < wr.heap.size) (fun _ _ i _ => l.length - (intOf i).toNat)
  case atStart => exact ⟨0, by omega, rfl, ⟨fun _ => .string ⟨#[]⟩, ⟨C, by rw [heap_alloc_new], HS.out, fun i hi => HC.out i hi⟩, fun j hj => by omega⟩, below_alloc _ _, by simp⟩
  case round =>
    obtain ⟨k, hk, rfl, ⟨f, hr, hf⟩, hb, hsz⟩ := hrel
    have HF := Lib.hid hf
    have HR := Lib.hid hr
    clear hf hr
    by_cases hlt : k < l.length
    · have hk0 : (0 : Int) ≤ (k : Int) := by omega
      have hk1 : (k : Int) < (l.length : Int) := by omega
      generalize hf : l.getD k (0, []) = a
      obtain ⟨x, vs⟩ := a
      have hxl : vs.length ≤ 1048576 := by have := szF_elem hz hlt; rw [hf] at this; exact this
      obtain ⟨b, off, V, cv, rfl, hb1, e0, e1, _, _, hV⟩ := (HI.out.step hb).at_ hlt hf
      have ba := below_alloc wr (.cells #[.int .i64 x, .slice V vs.length cv] 34)
      have XA := Lib.hid (impl_FormatAccess_r x vs V cv hxl _ (hV.step ba) (HT.out.step (step hb ba)))
      have HX := Lib.hid (show fmtAc (l.getD k (0, [])).1 (l.getD k (0, [])).2 = fmtAc x vs by rw [hf])
      generalize fmtAc x vs = X at XA HX
      clear hf hV ba
      go_wp2_with fail
      refine XA.out.mono ?_
      rintro e u ⟨rfl, d⟩
      have d2 := below_new d
      have hb2 := step hb d2
      have HR2 := Lib.hid (World.rowIs.of_block HR.out (d2.block _ hsz))
      have hsz2 : w.heap.size < u.heap.size := by have := d2.size; omega
      have hz1 := HR2.out.cell hlt
      have hz2 := HR2.out.frozen k
      clear d d2
      go_wp2
      go_roundw
      case rel =>
        refine ⟨k + 1, by omega, by go_num, ⟨_, HR2.out.set k _, fun j hj => ?_⟩, hb2.setCell (Nat.le_refl _) _, by simpa [World.setCell] using hsz2⟩
        by_cases e : j = k
        · subst e; rw [if_pos rfl, HX.out]
        · rw [if_neg e]; exact HF.out j (by omega)
      case measure => simp [intOf]; omega
    · obtain rfl : k = l.length := by omega
      have O := Lib.hid (show WdsOut w (l.map fun a => fmtAc a.1 a.2) (.returned (.slice (some ⟨w.heap.size, 0, none⟩) l.length l.length)) wr by
        refine ⟨by rw [List.length_map], ?_, hb, hsz⟩
        rw [List.length_map]
        exact HR.out.congr fun j hj => by rw [HF.out j hj, getD_map l (fun a => fmtAc a.1 a.2) (0, []) hj])
      go_wp2
      go_ret
      exact O.out

theorem words_empty (l : FL) : Lib.containsS ((l.map fun a => fmtAc a.1 a.2).take (l.map fun a => fmtAc a.1 a.2).length) ByteArray.empty = !okG l l.length := by
  rw [take_all, Bool.eq_iff_iff, Lib.containsS_iff]
  rw [List.mem_map]
  constructor
  · rintro ⟨a, ha, he⟩
    rw [Bool.not_eq_true', Bool.eq_false_iff]
    intro h
    have h1 := okG_mem h ha
    rw [fmtAc_acT h1] at he
    have h2 := (acT_len h1).1
    have := congrArg (fun x : ByteArray => x.data.toList) he
    have h3 : acT (a.1, a.2) = [] := this
    rw [h3] at h2
    simp at h2
  · intro h
    rw [Bool.not_eq_true', okG, List.all_eq_false] at h
    obtain ⟨k, hk, h⟩ := h
    have hk : k < l.length := by simpa using hk
    refine ⟨l.getD k (0, []), ?_, ?_⟩
    · rw [List.getD_eq_getElem?_getD, List.getElem?_eq_getElem hk]
      exact List.getElem_mem hk
    · rw [fmtAc_no (by simpa using h)]
      rfl

set_option maxRecDepth 100000 in
set_option maxHeartbeats 1000000 in
theorem formatAllOf_acc (A : Option Addr) (c : Nat) (l : FL) (h0 : l.length ≠ 0) (hz : szF l ≤ 1048576) (w : World) (h : RF w A l) (ht : TabB w) :
    Calls Tryd.prog 15 #[.slice A l.length c, .string ⟨#[32]⟩, .func (.func 13) #[] #[]] w fun e w' => e = .returned (.string (fmtLg l)) ∧ Below w.heap.size w w' := by
  have hl := szF_len hz
  have XW := Lib.hid (formatWords_acc A c l hz w h ht)
  have EC := Lib.hid (words_empty l)
  have hm : (l.map fun a => fmtAc a.1 a.2).length = l.length := List.length_map _
  by_cases hok : okG l l.length = true
  · rw [hok] at EC
    have EJ := Lib.hid (show Lib.join ((l.map fun a => fmtAc a.1 a.2).map (·.data.toList)) (⟨#[32]⟩ : ByteArray).data.toList = spcA l by
      rw [List.map_map, ← spcA_join]
      congr 1
      refine List.map_congr_left fun a ha => ?_
      show (fmtAc a.1 a.2).data.toList = acT a
      rw [fmtAc_acT (okG_mem hok ha)])
    have EN := Lib.hid (spcA_len l fun a ha => okG_mem hok ha)
    have E := Lib.hid (fmtLg_yes h0 hok)
    rw [E.out]
    generalize hws : (l.map fun a => fmtAc a.1 a.2) = ws at XW hm EC EJ
    have hw1 : ws.length ≤ 1048576 := by omega
    clear hws hok h ht E
    generalize spcA l = L at EJ EN ⊢
    go_enter Tryd.func15, Tryd.ntmps15
    go_wp2_with fail
    refine XW.out.mono ?_
    rintro e u ⟨rfl, hr, hb, hsz⟩
    have HJ := Lib.hid (Tryd.strings_Join w.heap.size 0 ws.length ws ⟨#[32]⟩ u (words_cells hr) hsz (by omega) (Nat.le_refl _) (by rw [EJ.out]; have := EN.out; omega))
    have HC := Lib.hid (Tryd.slices_Contains_string w.heap.size 0 ws.length ws.length ws ByteArray.empty u (Nat.le_refl _) (by omega) (fun j hj => by rw [Nat.zero_add]; exact hr.cell hj))
    have HB := Lib.hid hb
    rw [EJ.out] at HJ
    rw [EC.out] at HC
    clear hr hb hsz hm
    go_wp2_with fail
    refine HC.out.mono ?_
    rintro e u2 ⟨rfl, rfl⟩
    go_wp2_with fail
    refine HJ.out.mono ?_
    rintro e u3 ⟨rfl, d⟩
    go_wp2
    go_ret
    exact ⟨rfl, step HB.out d⟩
  · have hok' : okG l l.length = false := by simpa using hok
    rw [hok'] at EC
    have E := Lib.hid (fmtLg_no h0 hok')
    rw [E.out]
    generalize hws : (l.map fun a => fmtAc a.1 a.2) = ws at XW hm EC
    have hw1 : ws.length ≤ 1048576 := by omega
    clear hws hok hok' h ht E
    go_enter Tryd.func15, Tryd.ntmps15
    go_wp2_with fail
    refine XW.out.mono ?_
    rintro e u ⟨rfl, hr, hb, hsz⟩
    have HC := Lib.hid (Tryd.slices_Contains_string w.heap.size 0 ws.length ws.length ws ByteArray.empty u (Nat.le_refl _) (by omega) (fun j hj => by rw [Nat.zero_add]; exact hr.cell hj))
    have HB := Lib.hid hb
    rw [EC.out] at HC
    clear hr hb hsz hm
    go_wp2_with fail
    refine HC.out.mono ?_
    rintro e u2 ⟨rfl, rfl⟩
    go_wp2
    go_ret
    exact ⟨rfl, HB.out⟩

set_option maxRecDepth 100000 in
set_option maxHeartbeats 1000000 in
theorem impl_FormatLog_r (A : Option Addr) (c : Nat) (l : FL) (hz : szF l ≤ 1048576) (w : World) (h : RF w A l) (ht : TabB w) :
    Calls Tryd.prog 8 #[.slice A l.length c] w fun e w' => e = .returned (.string (fmtLg l)) ∧ Below w.heap.size w w' := by
  have hl := szF_len hz
  have hl' : (l.length : Int) ≤ 1048576 := by omega
  by_cases h0 : l.length = 0
  · have E := Lib.hid (fmtLg_nil h0)
    have d0 : ((l.length : Int) == 0) = true := by simp [h0]
    rw [E.out]
    clear h ht
    go_enter Tryd.func8, Tryd.ntmps8
    go_wp2
    go_ret
    exact ⟨rfl, Below.refl _ _⟩
  · have XA := Lib.hid (formatAllOf_acc A c l h0 hz w h ht)
    have d0 : ((l.length : Int) == 0) = false := beq_false_of_ne (by omega)
    clear h ht
    go_enter Tryd.func8, Tryd.ntmps8
    go_wp2_with fail
    refine XA.out.mono ?_
    rintro e u ⟨rfl, d⟩
    go_wp2
    go_ret
    exact ⟨rfl, d⟩
end Go.Proofs.YtcgmdleefaplfaaDoor
