/- What the functions on the text of a term and of a list of terms answer. Conditions: none beyond each theorem's own. -/
import Derived.Test.YtimlpdcambmcjaaDoorFmtG
namespace Go.Proofs.YtimlpdcambmcjaaDoor
open Go.ChangeShapes Go.WideShapes Go.ChangeAt Go.RowKit Go.Sort
set_option linter.unusedVariables false
set_option linter.unusedSimpArgs false

/-- The text of a term. -/
def tw (x : Int) : List UInt8 := if inB x 10 17 = true then [120, dg (x - 10)] else Lib.itoa x
theorem tw_yes {x : Int} (h : inB x 10 17 = true) : tw x = [120, dg (x - 10)] := if_pos h
theorem tw_no {x : Int} (h : inB x 10 17 = false) : tw x = Lib.itoa x := if_neg (by simp [h])
theorem itoa_digit {x : Int} (h0 : 0 ≤ x) (h1 : x ≤ 9) : Lib.itoa x = [dg x] := by
  have h := fmt_digit h0 h1
  unfold fmtI at h
  injection h with h
  have := congrArg Array.toList h
  simpa using this
theorem itoa_len {n : Int} (h0 : -9223372036854775808 ≤ n) (h1 : n ≤ 9223372036854775807) : (Lib.itoa n).length ≤ 20 := by
  by_cases hz : n = 0
  · subst hz
    rw [itoa_digit (by omega) (by omega)]
    simp
  · by_cases hp : 0 ≤ n
    · obtain ⟨u, rfl⟩ := Int.eq_ofNat_of_zero_le hp
      have h := itoa_pos (u := u) (by omega)
      unfold fmtI at h
      injection h with h
      have h2 : Lib.itoa (u : Int) = dd0 u := by simpa using congrArg Array.toList h
      have := dd0_len19 (u := u) (by omega)
      rw [h2]; omega
    · obtain ⟨u, hu⟩ := Int.eq_ofNat_of_zero_le (show 0 ≤ -n by omega)
      obtain rfl : n = -(u : Int) := by omega
      have h := itoa_neg (u := u) (by omega)
      unfold fmtI at h
      injection h with h
      have h2 : Lib.itoa (-(u : Int)) = 45 :: dd0 u := by simpa using congrArg Array.toList h
      have := dd0_len19 (u := u) (by omega)
      rw [h2, List.length_cons]; omega
theorem tw_len {x : Int} (h0 : -9223372036854775808 ≤ x) (h1 : x ≤ 9223372036854775807) : (tw x).length ≤ 20 := by
  unfold tw
  split
  · simp
  · exact itoa_len h0 h1
/-- Are all numbers such as an int holds? -/
abbrev allR (xs : List Int) : Prop := allB (-9223372036854775808) 9223372036854775807 xs = true
theorem allR_of {xs : List Int} (h : allB 0 17 xs = true) : allR xs := by
  unfold allR allB at *
  rw [List.all_eq_true] at h ⊢
  intro x hx
  have := h x hx
  simp [inB] at this ⊢
  omega
theorem allR_len {xs : List Int} (h : allR xs) : ∀ x ∈ xs, (tw x).length ≤ 20 := fun x hx => by
  unfold allR allB at h
  rw [List.all_eq_true] at h
  have := h x hx
  simp [inB] at this
  exact tw_len this.1 this.2
/-- The terms' texts, commas between. -/
def commaT : List Int → List UInt8
  | [] => []
  | [x] => tw x
  | x :: y :: r => tw x ++ 44 :: commaT (y :: r)
theorem commaT_snoc : ∀ (l : List Int) (x : Int), l ≠ [] → commaT (l ++ [x]) = commaT l ++ 44 :: tw x
  | [], x, h => absurd rfl h
  | [y], x, _ => rfl
  | y :: z :: r, x, _ => by
    have ih := commaT_snoc (z :: r) x (by simp)
    simp only [List.cons_append] at ih ⊢
    rw [commaT, commaT, ih]
    simp
theorem commaT_take (l : List Int) (k : Nat) (hk : k < l.length) : commaT (l.take (k + 1)) = if k = 0 then tw (l.getD k 0) else commaT (l.take k) ++ 44 :: tw (l.getD k 0) := by
  have e : l[k] = l.getD k 0 := by simp [List.getD_eq_getElem?_getD, hk]
  rw [List.take_succ_eq_append_getElem hk, e]
  by_cases h0 : k = 0
  · subst h0; simp [commaT]
  · rw [if_neg h0, commaT_snoc]
    intro h
    have := congrArg List.length h
    rw [List.length_take, List.length_nil] at this
    omega
theorem commaT_len : ∀ l : List Int, (∀ x ∈ l, (tw x).length ≤ 20) → (commaT l).length ≤ 21 * l.length
  | [], _ => by simp [commaT]
  | [x], h => by have := h x (by simp); simp [commaT]; omega
  | x :: y :: r, h => by
    have h1 := commaT_len (y :: r) fun z hz => h z (by simp at hz ⊢; exact .inr hz)
    have h2 := h x (by simp)
    simp only [commaT, List.length_cons, List.length_append] at *
    omega
theorem commaT_join : ∀ l : List Int, Lib.join (l.map tw) [44] = commaT l
  | [] => rfl
  | [x] => by simp [Lib.join_one, commaT]
  | x :: y :: r => by
    have ih := commaT_join (y :: r)
    simp only [List.map_cons] at ih ⊢
    rw [Lib.join_cons] at ih ⊢
    rw [commaT, ← ih]
    simp [Lib.joinTail]

theorem formatTerm_any (x : Int) (h0 : -9223372036854775808 ≤ x) (h1 : x ≤ 9223372036854775807) (w : World) (ht : Tab w) :
    Calls Tryd.prog 32 #[.int .i64 x] w fun e w' => e = .returned (.string ⟨(tw x).toArray⟩) ∧ Below w.heap.size w w' := by
  have HT := Lib.hid (Lib.tabBelow_of_tabIs ht)
  clear ht
  by_cases h : inB x 10 17 = true
  · have h2 : 10 ≤ x ∧ x ≤ 17 := by simpa [inB] using h
    have H := Lib.hid h
    have FD := Lib.hid (fmt_digit (d := x - 10) (by omega) (by omega))
    rw [tw_yes h]
    clear h
    go_enter Tryd.func32, Tryd.ntmps32
    go_wp2_with fail
    refine (impl_IsVar x _).mono ?_
    rintro e w1 ⟨he, rfl⟩
    rw [H.out] at he
    subst he
    go_wp2_with fail
    refine (impl_FormatInt (x - 10) (by omega) (by omega) _ (HT.out _ (Below.refl _ _))).mono ?_
    rintro e w1 ⟨he, d⟩
    rw [FD.out] at he
    subst he
    have D := Lib.hid d
    clear d
    go_wp2
    go_ret
    exact ⟨ret_str rfl, D.out⟩
  · have h' : inB x 10 17 = false := by simpa using h
    have H := Lib.hid h'
    rw [tw_no h']
    clear h h'
    go_enter Tryd.func32, Tryd.ntmps32
    go_wp2_with fail
    refine (impl_IsVar x _).mono ?_
    rintro e w1 ⟨he, rfl⟩
    rw [H.out] at he
    subst he
    go_wp2_with fail
    refine (impl_FormatInt x h0 h1 _ (HT.out _ (Below.refl _ _))).mono ?_
    rintro e w1 ⟨rfl, d⟩
    have D := Lib.hid d
    clear d
    go_wp2
    go_ret
    exact ⟨ret_str rfl, D.out⟩

theorem l3Term_any (x : Int) (h0 : -9223372036854775808 ≤ x) (h1 : x ≤ 9223372036854775807) (w : World) :
    Calls Tryd.prog 36 #[.int .i64 x] w fun e w' => e = .returned (.string ⟨(tw x).toArray⟩) ∧ Below w.heap.size w w' := by
  by_cases h : inB x 10 17 = true
  · have h2 : 10 ≤ x ∧ x ≤ 17 := by simpa [inB] using h
    have H := Lib.hid h
    have FD := Lib.hid (fmt_digit (d := x - 10) (by omega) (by omega))
    rw [tw_yes h]
    clear h
    go_enter Tryd.func36, Tryd.ntmps36
    go_wp2_with fail
    refine (spec_IsVar x _).mono ?_
    rintro e w1 ⟨he, rfl⟩
    rw [H.out] at he
    subst he
    go_wp2_with fail
    refine (spec_FormatInt (x - 10) (by omega) (by omega) _).mono ?_
    rintro e w1 ⟨he, d⟩
    rw [FD.out] at he
    subst he
    have D := Lib.hid d
    clear d
    go_wp2
    go_ret
    exact ⟨ret_str rfl, D.out⟩
  · have h' : inB x 10 17 = false := by simpa using h
    have H := Lib.hid h'
    rw [tw_no h']
    clear h h'
    go_enter Tryd.func36, Tryd.ntmps36
    go_wp2_with fail
    refine (spec_IsVar x _).mono ?_
    rintro e w1 ⟨he, rfl⟩
    rw [H.out] at he
    subst he
    go_wp2_with fail
    refine (spec_FormatInt x h0 h1 _).mono ?_
    rintro e w1 ⟨rfl, d⟩
    have D := Lib.hid d
    clear d
    go_wp2
    go_ret
    exact ⟨ret_str rfl, D.out⟩

set_option maxRecDepth 100000 in
set_option maxHeartbeats 400000 in
theorem l3Terms_any (A : Option Addr) (c : Nat) (xs : List Int) (hl : xs.length ≤ 3) (hd : allR xs) (w : World) (h : RI w A xs) :
    Calls Tryd.prog 18 #[.slice A xs.length c] w fun e w' => e = .returned (.string ⟨(commaT xs).toArray⟩) ∧ Below w.heap.size w w' := by
  have HI := Lib.hid h
  have HD := Lib.hid fun (k : Nat) (hk : k < xs.length) => allB_get hd hk
  have hl' : (xs.length : Int) ≤ 3 := by omega
  have HW := Lib.hid (allR_len hd)
  clear h hd
  go_enter Tryd.func18, Tryd.ntmps18
  go_wp2
  go_loopw [3, 4] (fun v i wr => ∃ k : Nat, k ≤ xs.length ∧ i = .int .i64 k ∧ v = .string ⟨(commaT (xs.take k)).toArray⟩ ∧ Below w.heap.size w wr) (fun _ i _ => xs.length - (intOf i).toNat)
  case atStart => exact ⟨0, by omega, rfl, rfl, Below.refl _ _⟩
  case round =>
    obtain ⟨k, hk, rfl, rfl, hb⟩ := hrel
    have hsz := commaT_len (xs.take k) fun x hx => HW.out x (List.mem_of_mem_take hx)
    rw [List.length_take] at hsz
    have hsz2 : (commaT (xs.take k)).length ≤ 63 := by omega
    clear hsz
    by_cases hlt : k < xs.length
    · have HT := Lib.hid (commaT_take xs k hlt)
      obtain ⟨d0, d1⟩ := HD.out k hlt
      obtain ⟨b, off, rfl, _, hc⟩ := (HI.out.step hb).at_ hlt
      generalize hx : xs.getD k 0 = x at hc d0 d1 HT
      clear hx
      have FD := Lib.hid (tw_len d0 d1)
      have XT := Lib.hid (l3Term_any x d0 d1)
      generalize tw x = X at HT FD XT
      have HL0 := Lib.hid (show k = 0 → commaT (xs.take k) = [] by rintro rfl; rfl)
      generalize hL : commaT (xs.take k) = L at hsz2 HT HL0
      clear hL
      by_cases h0 : k = 0
      · have K0 := Lib.hid h0
        have e1 : ¬ ((0 : Int) < (k : Int)) := by omega
        have e2 : ¬ (0 < k) := by omega
        clear h0
        go_wp2_with fail
        have fl := FD.out
        refine (XT.out _).mono ?_
        rintro e u ⟨rfl, d⟩
        have hb2 := step hb d
        clear d
        go_wp2
        go_roundw
        case rel => exact ⟨k + 1, by omega, by go_num, by rw [HT.out, if_pos K0.out]; have := HL0.out K0.out; subst this; rfl, hb2⟩
        case measure => simp [intOf]; omega
      · have e1 : ((0 : Int) < (k : Int)) := by omega
        have e2 : (0 < k) := by omega
        have K0 := Lib.hid h0
        clear h0
        go_wp2_with fail
        have fl := FD.out
        refine (XT.out _).mono ?_
        rintro e u ⟨rfl, d⟩
        have hb2 := step hb d
        clear d
        go_wp2
        go_roundw
        case rel => exact ⟨k + 1, by omega, by go_num, by rw [HT.out, if_neg K0.out, show (⟨#[44]⟩ : ByteArray) = ⟨[44].toArray⟩ from rfl, ba_append, ba_append]; simp, hb2⟩
        case measure => simp [intOf]; omega
    · obtain rfl : k = xs.length := by omega
      go_wp2
      go_ret
      exact ⟨ret_str (by rw [take_all]), hb⟩

set_option maxRecDepth 100000 in
set_option maxHeartbeats 400000 in
theorem formatList_term (A : Option Addr) (c : Nat) (xs : List Int) (hl : xs.length ≤ 3) (hd : allR xs) (w : World) (h : RI w A xs) (ht : Tab w) :
    Calls Tryd.prog 54 #[.slice A xs.length c, .func (.func 32) #[] #[]] w fun e w' => e = .returned (.string ⟨(commaT xs).toArray⟩) ∧ Below w.heap.size w w' := by
  have HT := Lib.hid (Lib.tabBelow_of_tabIs ht)
  have XF := Lib.hid fun (j : Nat) (hj : j < xs.length) (W : World) (hW : Below w.heap.size w W) => (show Calls Tryd.prog 32 #[.int .i64 (xs.getD j 0)] W fun e w' => e = .returned (.string ⟨(tw (xs.getD j 0)).toArray⟩) ∧ Below W.heap.size W w' from formatTerm_any (xs.getD j 0) (allB_get hd hj).1 (allB_get hd hj).2 W (HT.out _ hW))
  have XE := Lib.hid (formatEach_int 32 (enters_of Tryd.func32 (by kernel_rfl) rfl) (fun x => ⟨(tw x).toArray⟩) ⟨#[44]⟩ A c xs (by omega) w h XF.out (commaT xs) (by rw [List.map_map]; exact commaT_join xs) (by have := commaT_len xs (allR_len hd); omega))
  clear h ht hd
  generalize commaT xs = L at XE ⊢
  go_enter Tryd.func54, Tryd.ntmps54
  go_wp2_with fail
  refine XE.out.mono ?_
  rintro e u ⟨rfl, d⟩
  go_wp2
  go_ret
  exact ⟨rfl, d⟩
set_option maxRecDepth 100000 in
set_option maxHeartbeats 1000000 in
theorem formatParts_term (p : UInt8) (r : Int) (xs : List Int) (A : Option Addr) (c : Nat) (h0 : 0 ≤ r) (h9 : r ≤ 9) (hl : xs.length ≤ 3) (hd : allR xs) (w : World) (h : RI w A xs) (ht : Tab w) :
    Calls Tryd.prog 53 #[.string ⟨#[p]⟩, .int .i64 r, .slice A xs.length c, .func (.func 32) #[] #[]] w fun e w' => e = .returned (.string ⟨([p, dg r, 40] ++ commaT xs ++ [41]).toArray⟩) ∧ Below w.heap.size w w' := by
  have FD := Lib.hid (fmt_digit h0 h9)
  have HI := Lib.hid h
  have HT := Lib.hid (Lib.tabBelow_of_tabIs ht)
  have XL := Lib.hid fun (W : World) (hW : Below w.heap.size w W) => formatList_term A c xs hl hd W (HI.out.step hW) (HT.out _ hW)
  have hsz := commaT_len xs (allR_len hd)
  have hsz2 : (commaT xs).length ≤ 70 := by omega
  have FC := Lib.hid (fmt_cat p r (commaT xs))
  generalize commaT xs = L at hsz2 XL FC ⊢
  clear hsz h ht hd
  go_enter Tryd.func53, Tryd.ntmps53
  go_wp2_with fail
  refine (impl_FormatInt r (by omega) (by omega) _ (HT.out _ (Below.refl _ _))).mono ?_
  rintro e w1 ⟨he, d⟩
  rw [FD.out] at he
  subst he
  have D1 := Lib.hid d
  clear d
  go_wp2_with fail
  refine (XL.out _ D1.out).mono ?_
  rintro e w2 ⟨rfl, d⟩
  have D2 := Lib.hid (step D1.out d)
  clear d
  go_wp2
  go_ret
  exact ⟨ret_str FC.out, D2.out⟩

end Go.Proofs.YtimlpdcambmcjaaDoor
