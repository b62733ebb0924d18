/- What the two functions FormatOrder answer. Conditions: none beyond each theorem's own. -/
import Derived.Test.YtdmnboeepcipbaaDoorFmtG
import Derived.Test.YtdmnboeepcipbaaDoorStp
import Derived.Lib.QuietBelow
namespace Go.Proofs.YtdmnboeepcipbaaDoor
open Go.ChangeShapes Go.WideShapes Go.ChangeAt Go.RowKit Go.Sort
set_option linter.unusedVariables false
set_option linter.unusedSimpArgs false

/-- The text of one step. -/
def stB (st : Int × Int) : List UInt8 := [dg st.1, 47, 109, dg st.2]
def stOk (st : Int × Int) : Bool := inB st.1 0 3 && inB st.2 0 4
def okN (l : SL) (n : Nat) : Bool := (List.range n).all fun k => stOk (l.getD k (0, 0))
theorem okN_succ (l : SL) (k : Nat) : okN l (k + 1) = (okN l k && stOk (l.getD k (0, 0))) := by
  unfold okN
  rw [List.range_succ, List.all_append]
  simp
theorem okN_not (l : SL) (k n : Nat) (hk : k < n) (h : stOk (l.getD k (0, 0)) = false) : okN l n = false := by
  unfold okN
  rw [List.all_eq_false]
  exact ⟨k, by simpa using hk, by rw [h]; simp⟩
theorem okN_at (l : SL) {n k : Nat} (h : okN l n = true) (hk : k < n) : stOk (l.getD k (0, 0)) = true := by
  unfold okN at h
  rw [List.all_eq_true] at h
  exact h k (by simpa using hk)
/-- The steps' texts, spaces between. -/
def spcZ : SL → List UInt8
  | [] => []
  | [x] => stB x
  | x :: y :: r => stB x ++ 32 :: spcZ (y :: r)
theorem spcZ_snoc : ∀ (l : SL) (x : Int × Int), l ≠ [] → spcZ (l ++ [x]) = spcZ l ++ 32 :: stB x
  | [], x, h => absurd rfl h
  | [y], x, _ => rfl
  | y :: z :: r, x, _ => by
    have ih := spcZ_snoc (z :: r) x (by simp)
    simp only [List.cons_append] at ih ⊢
    rw [spcZ, spcZ, ih]
    simp
theorem spcZ_take (l : SL) (k : Nat) (hk : k < l.length) : spcZ (l.take (k + 1)) = if k = 0 then stB (l.getD k (0, 0)) else spcZ (l.take k) ++ 32 :: stB (l.getD k (0, 0)) := by
  have e : l[k] = l.getD k (0, 0) := by simp [List.getD_eq_getElem?_getD, hk]
  rw [List.take_succ_eq_append_getElem hk, e]
  by_cases h0 : k = 0
  · subst h0; simp [spcZ]
  · rw [if_neg h0, spcZ_snoc]
    intro h
    have := congrArg List.length h
    rw [List.length_take, List.length_nil] at this
    omega
theorem spcZ_len : ∀ l : SL, (spcZ l).length ≤ 5 * l.length
  | [] => by simp [spcZ]
  | [x] => by simp [spcZ, stB]
  | x :: y :: r => by
    have h1 := spcZ_len (y :: r)
    simp only [spcZ, stB, List.length_cons, List.length_append, List.length_nil] at *
    omega
theorem spcZ_join : ∀ l : SL, Lib.join (l.map stB) [32] = spcZ l
  | [] => rfl
  | [x] => by simp [Lib.join_one, spcZ]
  | x :: y :: r => by
    have ih := spcZ_join (y :: r)
    simp only [List.map_cons] at ih ⊢
    rw [Lib.join_cons] at ih ⊢
    rw [spcZ, ← ih]
    simp [Lib.joinTail]
theorem spcZ_small {l : SL} (hz : l.length ≤ 1048576) (k : Nat) : (spcZ (l.take k)).length ≤ 5242880 := by
  have h1 := spcZ_len (l.take k)
  have h3 : (l.take k).length ≤ l.length := by rw [List.length_take]; omega
  omega
def fmtZ (l : SL) : ByteArray := if okN l l.length = true then ⟨(spcZ l).toArray⟩ else ⟨#[]⟩
theorem fmtZ_yes {l : SL} (h : okN l l.length = true) : fmtZ l = ⟨(spcZ l).toArray⟩ := if_pos h
theorem fmtZ_no {l : SL} (h : okN l l.length = false) : fmtZ l = ⟨#[]⟩ := if_neg (by rw [h]; decide)
theorem stB_cat (a m : Int) : (⟨#[dg a]⟩ : ByteArray) ++ ⟨#[47, 109]⟩ ++ ⟨#[dg m]⟩ = ⟨(stB (a, m)).toArray⟩ := rfl
theorem stOk_iff {a m : Int} (h : stOk (a, m) = true) : inB a 0 3 = true ∧ inB m 0 4 = true := by simpa [stOk] using h

set_option maxRecDepth 100000 in
set_option maxHeartbeats 1000000 in
theorem isStep_any (a m : Int) (w : World) : Calls Tryd.prog 13 #[.agg #[.int .i64 a, .int .i64 m]] w fun e w' => e = .returned (.bool (stOk (a, m))) ∧ Below w.heap.size w w' := by
  have B0 := Lib.hid (below_alloc w (.cells #[.int .i64 a, .int .i64 m] 31))
  by_cases h1 : inB a 0 3 = true
  · have E := Lib.hid (show stOk (a, m) = inB m 0 4 by simp [stOk, h1])
    have H1 := Lib.hid h1
    rw [E.out]
    generalize hq : inB m 0 4 = q
    have HQ := Lib.hid hq
    clear h1 hq
    go_enter Tryd.func13, Tryd.ntmps13
    go_wp2_with fail
    refine (isBetween_any a 0 3 _).mono ?_
    rintro e w1 ⟨he, rfl⟩
    rw [H1.out] at he
    subst he
    go_wp2_with fail
    refine (isBetween_any m 0 4 _).mono ?_
    rintro e w1 ⟨he, rfl⟩
    rw [HQ.out] at he
    subst he
    go_wp2
    go_ret
    exact ⟨rfl, B0.out⟩
  · have h1' : inB a 0 3 = false := by simpa using h1
    have E := Lib.hid (show stOk (a, m) = false by simp [stOk, h1'])
    have H1 := Lib.hid h1'
    rw [E.out]
    clear h1 h1'
    go_enter Tryd.func13, Tryd.ntmps13
    go_wp2_with fail
    refine (isBetween_any a 0 3 _).mono ?_
    rintro e w1 ⟨he, rfl⟩
    rw [H1.out] at he
    subst he
    go_wp2
    go_ret
    exact ⟨rfl, B0.out⟩

set_option maxRecDepth 100000 in
set_option maxHeartbeats 1000000 in
theorem areAllZ_any (A : Option Addr) (c : Nat) (l : SL) (hl : l.length ≤ 1048576) (w : World) (h : RZ w A l) :
    Calls Tryd.prog 12 #[.slice A l.length c, .func (.func 13) #[] #[]] w fun e w' => e = .returned (.bool (okN l l.length)) ∧ Below w.heap.size w w' := by
  have hl' : (l.length : Int) ≤ 1048576 := by omega
  have HI := Lib.hid h
  clear h
  go_enter Tryd.func12, Tryd.ntmps12
  go_wp2
  go_loopw [6, 9] (fun _ i wr => ∃ k : Nat, k ≤ l.length ∧ i = .int .i64 k ∧ okN l k = true ∧ Hid (Below w.heap.size w wr)) (fun _ i _ => l.length - (intOf i).toNat)
  case atStart => exact ⟨0, by omega, rfl, rfl, Lib.hid (Below.refl _ _)⟩
  case round =>
    obtain ⟨k, hk, rfl, ha, hb⟩ := hrel
    have HA := Lib.hid ha
    clear ha
    by_cases hlt : k < l.length
    · generalize hf : l.getD k (0, 0) = f
      obtain ⟨r, x⟩ := f
      obtain ⟨b, off, rfl, n1, e0, e1⟩ := (HI.out.step hb.out).at_ hlt hf
      have hk0 : (0 : Int) ≤ (k : Int) := by omega
      have hk1 : (k : Int) < (l.length : Int) := by omega
      have B2 := Lib.hid (step hb.out (below_alloc wr (.cells #[.int .i64 r, .int .i64 x] 31)))
      have XC := Lib.hid fun W => isStep_any r x W
      generalize hq : stOk (r, x) = q at XC
      have HF := Lib.hid (show stOk (l.getD k (0, 0)) = q by rw [hf, hq])
      clear hf hq
      go_wp2_with fail
      refine (XC.out _).mono ?_
      rintro e u ⟨rfl, d⟩
      have hb2 := step B2.out d
      clear d
      cases q
      · go_wp2
        go_ret
        exact ⟨ret_bool (okN_not l k _ hlt HF.out).symm, hb2⟩
      · go_wp2
        go_roundw
        case rel => exact ⟨k + 1, by omega, by go_num, by rw [okN_succ, HA.out, HF.out]; rfl, Lib.hid hb2⟩
        case measure => simp [intOf]; omega
    · obtain rfl : k = l.length := by omega
      go_wp2
      go_ret
      exact ⟨ret_bool HA.out.symm, hb.out⟩

set_option maxRecDepth 100000 in
set_option maxHeartbeats 1000000 in
theorem formatStep_any (a m : Int) (h1 : inB a 0 3 = true) (h2 : inB m 0 4 = true) (w : World) (ht : Tab w) : Calls Tryd.prog 15 #[.agg #[.int .i64 a, .int .i64 m]] w fun e w' => e = .returned (.string ⟨(stB (a, m)).toArray⟩) ∧ Below w.heap.size w w' := by
  have ha : 0 ≤ a ∧ a ≤ 3 := by simpa [inB] using h1
  have hm : 0 ≤ m ∧ m ≤ 4 := by simpa [inB] using h2
  have HT := Lib.hid (Lib.tabBelow_of_tabIs ht)
  have b0 := below_alloc w (.cells #[.int .i64 a, .int .i64 m] 31)
  obtain ⟨W0, hW0⟩ : ∃ W0, W0 = w.alloc (.cells #[.int .i64 a, .int .i64 m] 31) := ⟨_, rfl⟩
  rw [← hW0] at b0
  have XB : Box W0 w.heap.size #[.int .i64 a, .int .i64 m] 31 := by rw [hW0]; exact Box.new _ _ _
  have a0 := XB.cell 0
  have a1 := XB.cell 1
  simp only [List.getElem?_toArray, List.getElem?_cons_zero, List.getElem?_cons_succ] at a0 a1
  have k0 := cell_regrown a0
  have k1 := cell_regrown a1
  clear a0 a1
  have B0 := Lib.hid b0
  have X1 := Lib.hid fun (W : World) (hW : Below W0.heap.size W0 W) => (show Calls Tryd.prog 19 #[.int .i64 a] W fun e w' => e = .returned (.string ⟨#[dg a]⟩) ∧ Below W.heap.size W w' by have := impl_FormatInt a (by omega) (by omega) W (HT.out _ (step B0.out hW)); rwa [fmt_digit ha.1 (by omega)] at this)
  have X2 := Lib.hid fun (W : World) (hW : Below W0.heap.size W0 W) => (show Calls Tryd.prog 19 #[.int .i64 m] W fun e w' => e = .returned (.string ⟨#[dg m]⟩) ∧ Below W.heap.size W w' by have := impl_FormatInt m (by omega) (by omega) W (HT.out _ (step B0.out hW)); rwa [fmt_digit hm.1 (by omega)] at this)
  have SC := Lib.hid (stB_cat a m)
  clear h1 h2 ha hm ht b0 XB
  go_enter Tryd.func15, Tryd.ntmps15
  go_wp2
  rw [← hW0]
  clear hW0
  refine wp_region_quiet_below (by kernel_rfl) (by kernel_rfl) ?_
  repeat (go_big_quiet_step (first | (go_at_call 19; with_reducible exact Calls.regrown_of (X1.out _ (below_regrown _ _ _))) | (go_at_call 19; with_reducible exact Calls.regrown_of (X2.out _ (below_regrown _ _ _)))))
  refine wpQuiet_nil ?_
  intro u hw'
  have hb2 := step B0.out (show Below W0.heap.size W0 u by obtain ⟨⟨dq, osq⟩, rfl⟩ := hw'; exact below_regrown _ _ _)
  clear hw' k0 k1
  go_wp2
  go_ret
  exact ⟨ret_str (by first | exact SC.out | rfl), hb2⟩

set_option maxRecDepth 100000 in
set_option maxHeartbeats 1000000 in
theorem formatEachZ_any (A : Option Addr) (c : Nat) (l : SL) (hl : l.length ≤ 1048576) (hok : okN l l.length = true) (w : World) (h : RZ w A l) (ht : Tab w) :
    Calls Tryd.prog 14 #[.slice A l.length c, .string ⟨#[32]⟩, .func (.func 15) #[] #[]] w fun e w' => e = .returned (.string ⟨(spcZ l).toArray⟩) ∧ Below w.heap.size w w' := by
  have hl' : (l.length : Int) ≤ 1048576 := by omega
  obtain ⟨C, hC, hCs, hmk⟩ := makeStrs l.length hl
  have HI := Lib.hid h
  have HD := Lib.hid hok
  have HT := Lib.hid (Lib.tabBelow_of_tabIs ht)
  have HC := Lib.hid hC
  have HS := Lib.hid hCs
  clear h hok ht hC hCs
  go_enter Tryd.func14, Tryd.ntmps14
  go_wp2
  go_loopw [8, 9, 15] (fun _ _ i wr => ∃ k : Nat, k ≤ l.length ∧ i = .int .i64 k ∧ (∃ f, wr.rowIs w.heap.size 9 l.length f ∧ ∀ j, j < k → f j = .string ⟨(stB (l.getD j (0, 0))).toArray⟩) ∧ Below w.heap.size w wr ∧ w.heap.size < wr.heap.size) (fun _ _ i _ => l.length - (intOf i).toNat)
  case atStart => exact ⟨0, by omega, rfl, ⟨fun _ => .string ⟨#[]⟩, ⟨C, by rw [heap_alloc_new], HS.out, fun i hi => HC.out i hi⟩, fun j hj => by omega⟩, below_alloc _ _, by simp⟩
  case round =>
    obtain ⟨k, hk, rfl, ⟨f, hr, hf⟩, hb, hsz⟩ := hrel
    have HF := Lib.hid hf
    have HR := Lib.hid hr
    clear hf hr
    by_cases hlt : k < l.length
    · generalize hf : l.getD k (0, 0) = st
      obtain ⟨r, x⟩ := st
      have HX0 := Lib.hid hf
      obtain ⟨i1, i2⟩ := stOk_iff (show stOk (r, x) = true by rw [← hf]; exact okN_at l HD.out hlt)
      obtain ⟨b, off, rfl, n1, e0, e1⟩ := (HI.out.step hb).at_ hlt hf
      have hk0 : (0 : Int) ≤ (k : Int) := by omega
      have hk1 : (k : Int) < (l.length : Int) := by omega
      have ba := below_alloc wr (.cells #[.int .i64 r, .int .i64 x] 31)
      have BA := Lib.hid ba
      have XL := Lib.hid (formatStep_any r x i1 i2 _ (HT.out _ (step hb ba)))
      have HP := Lib.hid (show stB (l.getD k (0, 0)) = stB (r, x) by rw [hf])
      generalize stB (r, x) = X at XL HP
      clear hf i1 i2 ba
      go_wp2_with fail
      refine XL.out.mono ?_
      rintro e u ⟨rfl, d⟩
      have d2 := below_new d
      have hb2 := step hb d2
      have HR2 := Lib.hid (World.rowIs.of_block HR.out (d2.block _ hsz))
      have hsz2 : w.heap.size < u.heap.size := by have := d2.size; omega
      have hz1 := HR2.out.cell hlt
      have hz2 := HR2.out.frozen k
      clear d d2
      go_wp2
      go_roundw
      case rel =>
        refine ⟨k + 1, by omega, by go_num, ⟨_, HR2.out.set k _, fun j hj => ?_⟩, hb2.setCell (Nat.le_refl _) _, by simpa [World.setCell] using hsz2⟩
        by_cases e : j = k
        · subst e; rw [if_pos rfl, HP.out]
        · rw [if_neg e]; exact HF.out j (by omega)
      case measure => simp [intOf]; omega
    · obtain rfl : k = l.length := by omega
      have hlen : (l.map fun x => (⟨(stB x).toArray⟩ : ByteArray)).length = l.length := by simp
      have hmap : (l.map fun x => (⟨(stB x).toArray⟩ : ByteArray)).map (·.data.toList) = l.map stB := by simp
      have hj := Tryd.strings_Join w.heap.size 0 l.length (l.map fun x => ⟨(stB x).toArray⟩) ⟨#[32]⟩ wr (fun j x hx => by
        have hj : j < l.length := by rw [← hlen]; exact (List.getElem?_eq_some_iff.1 hx).1
        rw [Nat.zero_add, HR.out.cell hj, HF.out j hj]
        rw [List.getElem?_map, List.getElem?_eq_getElem hj] at hx
        injection hx with hx
        subst hx
        simp [List.getD_eq_getElem?_getD, hj]) hsz (by rw [hlen]; omega) (by rw [hlen]; exact Nat.le_refl _) (by rw [hmap, spcZ_join]; have := spcZ_small hl l.length; rw [take_all] at this; omega)
      rw [hmap, hlen, show (⟨#[32]⟩ : ByteArray).data.toList = [32] from rfl, spcZ_join] at hj
      have HJ := Lib.hid hj
      clear hj hlen hmap
      go_wp2_with fail
      refine HJ.out.mono ?_
      rintro e u ⟨rfl, d⟩
      go_wp2
      go_ret
      exact ⟨rfl, step hb d⟩

set_option maxRecDepth 100000 in
set_option maxHeartbeats 1000000 in
theorem impl_FormatOrder (A : Option Addr) (c : Nat) (l : SL) (hl : l.length ≤ 1048576) (w : World) (h : RZ w A l) (ht : Tab w) :
    Calls Tryd.prog 7 #[.slice A l.length c] w fun e w' => e = .returned (.string (fmtZ l)) ∧ Below w.heap.size w w' := by
  have HT := Lib.hid (Lib.tabBelow_of_tabIs ht)
  have XA := Lib.hid (areAllZ_any A c l hl w h)
  have HI := Lib.hid h
  clear h ht
  by_cases hok : okN l l.length = true
  · have HO := Lib.hid hok
    rw [fmtZ_yes hok]
    have XF := Lib.hid fun (W : World) (hW : Below w.heap.size w W) => formatEachZ_any A c l hl HO.out W (HI.out.step hW) (HT.out _ hW)
    clear hok
    go_enter Tryd.func7, Tryd.ntmps7
    go_wp2_with fail
    refine XA.out.mono ?_
    rintro e u ⟨he, d⟩
    rw [HO.out] at he
    subst he
    have D := Lib.hid d
    clear d
    go_wp2_with fail
    refine (XF.out _ D.out).mono ?_
    rintro e u2 ⟨rfl, d⟩
    have D2 := Lib.hid (step D.out d)
    clear d
    go_wp2
    go_ret
    exact ⟨rfl, D2.out⟩
  · have HO := Lib.hid (show okN l l.length = false by simpa using hok)
    rw [fmtZ_no HO.out]
    clear hok
    go_enter Tryd.func7, Tryd.ntmps7
    go_wp2_with fail
    refine XA.out.mono ?_
    rintro e u ⟨he, d⟩
    rw [HO.out] at he
    subst he
    go_wp2
    go_ret
    exact ⟨rfl, d⟩
theorem impl_FormatOrder_r (A : Option Addr) (c : Nat) (l : SL) (hl : l.length ≤ 1048576) (w : World) (h : RZ w A l) (ht : TabB w) :
    Calls Tryd.prog 7 #[.slice A l.length c] w fun e w' => e = .returned (.string (fmtZ l)) ∧ Below w.heap.size w w' := impl_FormatOrder A c l hl w h (ht _ (Below.refl _ _))

set_option maxRecDepth 100000 in
set_option maxHeartbeats 1000000 in
theorem spec_FormatOrder (A : Option Addr) (c : Nat) (l : SL) (hl : l.length ≤ 1048576) (w : World) (h : RZ w A l) :
    Calls Tryd.prog 5 #[.slice A l.length c] w fun e w' => e = .returned (.string (fmtZ l)) ∧ Below w.heap.size w w' := by
  have hl' : (l.length : Int) ≤ 1048576 := by omega
  have HI := Lib.hid h
  clear h
  go_enter Tryd.func5, Tryd.ntmps5
  go_wp2
  go_loopw [3, 4] (fun v i wr => ∃ k : Nat, k ≤ l.length ∧ i = .int .i64 k ∧ v = .string ⟨(spcZ (l.take k)).toArray⟩ ∧ okN l k = true ∧ Hid (Below w.heap.size w wr)) (fun _ i _ => l.length - (intOf i).toNat)
  case atStart => exact ⟨0, by omega, rfl, rfl, rfl, Lib.hid (Below.refl _ _)⟩
  case round =>
    obtain ⟨k, hk, rfl, rfl, ha, hb⟩ := hrel
    have HA := Lib.hid ha
    clear ha
    have hsz := spcZ_small hl k
    by_cases hlt : k < l.length
    · have HT := Lib.hid (spcZ_take l k hlt)
      generalize hf : l.getD k (0, 0) = st at HT
      obtain ⟨r, x⟩ := st
      have HL0 := Lib.hid (show k = 0 → spcZ (l.take k) = [] by rintro rfl; rfl)
      generalize spcZ (l.take k) = L at hsz HT HL0
      obtain ⟨b, off, rfl, n1, e0, e1⟩ := (HI.out.step hb.out).at_ hlt hf
      have hk0 : (0 : Int) ≤ (k : Int) := by omega
      have hk1 : (k : Int) < (l.length : Int) := by omega
      have HF := Lib.hid hf
      clear hf
      by_cases c1 : inB r 0 3 = true
      · have C1 := Lib.hid c1
        by_cases c2 : inB x 0 4 = true
        · have C2 := Lib.hid c2
          have OK := Lib.hid (show stOk (l.getD k (0, 0)) = true by rw [HF.out]; simp [stOk, c1, c2])
          have hr : 0 ≤ r ∧ r ≤ 3 := by simpa [inB] using c1
          have hx : 0 ≤ x ∧ x ≤ 4 := by simpa [inB] using c2
          have k0 := cell_regrown e0
          have k1 := cell_regrown e1
          have X1 := Lib.hid fun (W : World) (hW : Below wr.heap.size wr W) => (show Calls Tryd.prog 10 #[.int .i64 r] W fun e w' => e = .returned (.string ⟨#[dg r]⟩) ∧ Below W.heap.size W w' by have := spec_FormatInt r (by omega) (by omega) W; rwa [fmt_digit hr.1 (by omega)] at this)
          have X2 := Lib.hid fun (W : World) (hW : Below wr.heap.size wr W) => (show Calls Tryd.prog 10 #[.int .i64 x] W fun e w' => e = .returned (.string ⟨#[dg x]⟩) ∧ Below W.heap.size W w' by have := spec_FormatInt x (by omega) (by omega) W; rwa [fmt_digit hx.1 (by omega)] at this)
          clear c1 c2 hr hx
          by_cases h0 : k = 0
          · have K0 := Lib.hid h0
            have e1' : ¬ ((0 : Int) < (k : Int)) := by omega
            have e2' : ¬ (0 < k) := by omega
            have e3' : decide ((0 : Int) < (k : Int)) = false := by simp; omega
            have e4' : decide (0 < k) = false := by simp; omega
            clear h0
            go_wp2_with fail
            refine (l1In_any r 0 3 _).mono ?_
            rintro e w1 ⟨he, rfl⟩
            rw [C1.out] at he
            subst he
            go_wp2_with fail
            refine (l1In_any x 0 4 _).mono ?_
            rintro e w1 ⟨he, rfl⟩
            rw [C2.out] at he
            subst he
            clear e0 e1
            go_wp2
            refine wp_region_quiet_below (by kernel_rfl) (by kernel_rfl) ?_
            repeat (go_big_quiet_step (first | (go_at_call 10; with_reducible exact Calls.regrown_of (X1.out _ (below_regrown _ _ _))) | (go_at_call 10; with_reducible exact Calls.regrown_of (X2.out _ (below_regrown _ _ _)))))
            refine wpQuiet_nil ?_
            intro u hw'
            have hb2 := Lib.hid (step hb.out (show Below wr.heap.size wr u by obtain ⟨⟨dq, osq⟩, rfl⟩ := hw'; exact below_regrown _ _ _))
            clear hw' k0 k1
            go_wp2
            go_roundw
            case rel => exact ⟨k + 1, by omega, by go_num, by rw [HT.out, if_pos K0.out]; have := HL0.out K0.out; subst this; first | rfl | (congr 1; apply ByteArray.ext; simp [stB]), by rw [okN_succ, HA.out, OK.out]; rfl, hb2⟩
            case measure => simp [intOf]; omega
          · have K0 := Lib.hid h0
            have e1' : ((0 : Int) < (k : Int)) := by omega
            have e2' : (0 < k) := by omega
            have e3' : decide ((0 : Int) < (k : Int)) = true := by simp; omega
            have e4' : decide (0 < k) = true := by simp; omega
            clear h0
            go_wp2_with fail
            refine (l1In_any r 0 3 _).mono ?_
            rintro e w1 ⟨he, rfl⟩
            rw [C1.out] at he
            subst he
            go_wp2_with fail
            refine (l1In_any x 0 4 _).mono ?_
            rintro e w1 ⟨he, rfl⟩
            rw [C2.out] at he
            subst he
            clear e0 e1
            go_wp2
            refine wp_region_quiet_below (by kernel_rfl) (by kernel_rfl) ?_
            repeat (go_big_quiet_step (first | (go_at_call 10; with_reducible exact Calls.regrown_of (X1.out _ (below_regrown _ _ _))) | (go_at_call 10; with_reducible exact Calls.regrown_of (X2.out _ (below_regrown _ _ _)))))
            refine wpQuiet_nil ?_
            intro u hw'
            have hb2 := Lib.hid (step hb.out (show Below wr.heap.size wr u by obtain ⟨⟨dq, osq⟩, rfl⟩ := hw'; exact below_regrown _ _ _))
            clear hw' k0 k1
            go_wp2
            go_roundw
            case rel => exact ⟨k + 1, by omega, by go_num, by rw [HT.out, if_neg K0.out]; first | rfl | (congr 1; apply ByteArray.ext; simp [stB]), by rw [okN_succ, HA.out, OK.out]; rfl, hb2⟩
            case measure => simp [intOf]; omega
        · have C2 := Lib.hid (show inB x 0 4 = false by simpa using c2)
          have OK := Lib.hid (show stOk (l.getD k (0, 0)) = false by rw [HF.out]; simp [stOk, C2.out])
          clear c1 c2
          go_wp2_with fail
          refine (l1In_any r 0 3 _).mono ?_
          rintro e w1 ⟨he, rfl⟩
          rw [C1.out] at he
          subst he
          go_wp2_with fail
          refine (l1In_any x 0 4 _).mono ?_
          rintro e w1 ⟨he, rfl⟩
          rw [C2.out] at he
          subst he
          go_wp2
          go_ret
          exact ⟨ret_str (fmtZ_no (okN_not l k _ hlt OK.out)).symm, hb.out⟩
      · have C1 := Lib.hid (show inB r 0 3 = false by simpa using c1)
        have OK := Lib.hid (show stOk (l.getD k (0, 0)) = false by rw [HF.out]; simp [stOk, C1.out])
        clear c1
        go_wp2_with fail
        refine (l1In_any r 0 3 _).mono ?_
        rintro e w1 ⟨he, rfl⟩
        rw [C1.out] at he
        subst he
        go_wp2
        go_ret
        exact ⟨ret_str (fmtZ_no (okN_not l k _ hlt OK.out)).symm, hb.out⟩
    · obtain rfl : k = l.length := by omega
      have E := Lib.hid (show (⟨(spcZ (l.take l.length)).toArray⟩ : ByteArray) = fmtZ l by rw [take_all, fmtZ_yes HA.out])
      generalize spcZ (l.take l.length) = L at E hsz ⊢
      go_wp2
      go_ret
      exact ⟨ret_str E.out, hb.out⟩
end Go.Proofs.YtdmnboeepcipbaaDoor
