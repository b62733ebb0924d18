/- What the two functions FormatTuples answer. Conditions: none beyond each theorem's own. -/
import Derived.Test.YtcfnmcemeejbeaaDoorTup
import Derived.Test.YtcfnmcemeejbeaaDoorFmtT
import Derived.Test.YtcfnmcemeejbeaaDoorNumW
namespace Go.Proofs.YtcfnmcemeejbeaaDoor
open Go.ChangeShapes Go.WideShapes Go.ChangeAt Go.RowKit Go.Sort
set_option linter.unusedVariables false
set_option linter.unusedSimpArgs false

section
variable {H : Type} {enc : TypeId × Value → H} {w : World}
set_option maxRecDepth 100000 in
theorem open_tupsR {r : Reach} {base : Nat} {v : Value} {d : DataW H} {p : List MemPlace} (hv : Value.okWide Tryd.prog w r base 50 v) (h : DataW.Trod enc Tryd.prog w 0 (fun _ => true) true 50 v d p) :
    ∃ (A : Option Addr) (c : Nat) (ts : TL), v = .slice A ts.length c ∧ ts.length ≤ c ∧ c ≤ maxLen ∧ RT w A ts ∧ ∀ xs ∈ ts, ∀ n ∈ xs, (Lit.int .i64 n).wf = true := by
  obtain ⟨fuel, hf⟩ := h
  obtain ⟨A0, l0, c0, rfl⟩ := okWide_slice Tryd.underlying50 hv
  have hC : Tryd.prog.cellsOf 22 = 1 := by kernel_rfl
  rcases Go.Deep.open_slice Tryd.underlying50 hf with ⟨hv, _⟩ | ⟨a, len, cap, m, n, D, Pl, hv, _, hl, hm, hmm, _, hi⟩
  · injection hv with hv
    exact ⟨none, 0, [], hv, Nat.le_refl _, by unfold maxLen; omega, fun h => absurd rfl h, fun xs h => by simp at h⟩
  · injection hv with hv
    rw [hC] at hi
    simp only [if_true] at hmm
    have each : ∀ i, i < len → ∃ x : List Int, ∃ B c', w.cell? (a.add (i * 1)) = some (.slice B x.length c') ∧ x.length ≤ c' ∧ c' ≤ maxLen ∧ Ints w 0 w.heap.size B x ∧ ∀ n ∈ x, (Lit.int .i64 n).wf = true := by
      intro i hil
      obtain ⟨cs, hc, ht⟩ := hi i (by omega)
      obtain ⟨_, hcl, hat⟩ := World.cells?_some hc
      have k1 : Tryd.prog.cellsOf 3 = 1 := by kernel_rfl
      have e0 := hat 0 (by omega)
      match cs, hcl with
      | [u0], _ =>
        obtain ⟨B, c', xs, hv1, hl, hm, hii, hw⟩ := open_numsW (v := u0) Tryd.underlying22 Tryd.underlying3 k1 ht
        subst hv1
        refine ⟨xs, B, c', ?_, hl, hm, hii, hw⟩
        simpa [Go.Deep.add_add] using e0
    obtain ⟨f, hfx⟩ := Go.Deep.choose_lt each
    have hlen : ((List.range len).map f).length = len := by simp
    refine ⟨some a, cap, (List.range len).map f, by rw [hlen]; exact hv, by rw [hlen]; exact hl, hm, fun hne => ?_, fun xs hxs => ?_⟩
    · have hpos : 0 < len := by
        rcases Nat.eq_zero_or_pos len with h0 | h0
        · subst h0; simp at hne
        · exact h0
      obtain ⟨b, off, spot⟩ := a
      obtain ⟨_, _, hc0, _⟩ := hfx 0 hpos
      have hspot : spot = none := by simpa [Addr.add] using World.cell?_spot hc0
      subst hspot
      have hb := World.block_lt_of_cell? w _ hc0
      refine ⟨b, off, rfl, by omega, by simpa [Addr.add] using hb, fun k hk => ?_⟩
      have hk' : k < len := by rw [hlen] at hk; exact hk
      have e : ∀ j, (⟨b, off, none⟩ : Addr).add j = ⟨b, off + j, none⟩ := fun j => by unfold Addr.add; split <;> simp_all
      obtain ⟨B, c', g2, g3, g4, g5, _⟩ := hfx k hk'
      rw [e, Nat.mul_one] at g2
      have hx : ((List.range len).map f).getD k [] = f k := by simp [List.getD_eq_getElem?_getD, hk']
      rw [hx]
      exact ⟨B, c', g2, g3, g4, g5⟩
    · simp only [List.mem_map, List.mem_range] at hxs
      obtain ⟨j, hj, rfl⟩ := hxs
      obtain ⟨_, _, _, _, _, _, hw⟩ := hfx j hj
      exact hw
end
/-- Are all numbers such as an int holds? -/
def allT (ts : TL) : Prop := ∀ xs ∈ ts, allR xs
theorem allT_of {ts : TL} (h : ∀ xs ∈ ts, ∀ n ∈ xs, (Lit.int .i64 n).wf = true) : allT ts := fun xs hx => range_of (h xs hx)
theorem allT_at {ts : TL} (h : allT ts) {k : Nat} (hk : k < ts.length) {xs : List Int} (hf : ts.getD k [] = xs) : allR xs := by
  refine h xs ?_
  rw [← hf, List.getD_eq_getElem?_getD, List.getElem?_eq_getElem hk]
  exact List.getElem_mem _

/-- The numbers, commas between. -/
def commaI : List Int → List UInt8
  | [] => []
  | [x] => Lib.itoa x
  | x :: y :: r => Lib.itoa x ++ 44 :: commaI (y :: r)
theorem commaI_snoc : ∀ (l : List Int) (x : Int), l ≠ [] → commaI (l ++ [x]) = commaI l ++ 44 :: Lib.itoa x
  | [], x, h => absurd rfl h
  | [y], x, _ => rfl
  | y :: z :: r, x, _ => by
    have ih := commaI_snoc (z :: r) x (by simp)
    simp only [List.cons_append] at ih ⊢
    rw [commaI, commaI, ih]
    simp
theorem commaI_take (l : List Int) (k : Nat) (hk : k < l.length) : commaI (l.take (k + 1)) = if k = 0 then Lib.itoa (l.getD k 0) else commaI (l.take k) ++ 44 :: Lib.itoa (l.getD k 0) := by
  have e : l[k] = l.getD k 0 := by simp [List.getD_eq_getElem?_getD, hk]
  rw [List.take_succ_eq_append_getElem hk, e]
  by_cases h0 : k = 0
  · subst h0; simp [commaI]
  · rw [if_neg h0, commaI_snoc]
    intro h
    have := congrArg List.length h
    rw [List.length_take, List.length_nil] at this
    omega
theorem allI_len {xs : List Int} (h : allR xs) : ∀ x ∈ xs, (Lib.itoa x).length ≤ 20 := fun x hx => by
  unfold allR allB at h
  rw [List.all_eq_true] at h
  have := h x hx
  simp [inB] at this
  exact itoa_len this.1 this.2
theorem commaI_len : ∀ l : List Int, (∀ x ∈ l, (Lib.itoa x).length ≤ 20) → (commaI l).length ≤ 21 * l.length
  | [], _ => by simp [commaI]
  | [x], h => by have := h x (by simp); simp [commaI]; omega
  | x :: y :: r, h => by
    have h1 := commaI_len (y :: r) fun z hz => h z (by simp at hz ⊢; exact .inr hz)
    have h2 := h x (by simp)
    simp only [commaI, List.length_cons, List.length_append] at *
    omega
theorem commaI_join : ∀ l : List Int, Lib.join (l.map Lib.itoa) [44] = commaI l
  | [] => rfl
  | [x] => by simp [Lib.join_one, commaI]
  | x :: y :: r => by
    have ih := commaI_join (y :: r)
    simp only [List.map_cons] at ih ⊢
    rw [Lib.join_cons] at ih ⊢
    rw [commaI, ← ih]
    simp [Lib.joinTail]

set_option maxRecDepth 100000 in
set_option maxHeartbeats 400000 in
theorem l2List_int (A : Option Addr) (c : Nat) (xs : List Int) (hl : xs.length ≤ 1048576) (hd : allR xs) (w : World) (h : RI w A xs) :
    Calls Tryd.prog 36 #[.slice A xs.length c] w fun e w' => e = .returned (.string ⟨(commaI xs).toArray⟩) ∧ Below w.heap.size w w' := by
  have HI := Lib.hid h
  have HD := Lib.hid fun (k : Nat) (hk : k < xs.length) => allB_get hd hk
  have hl' : (xs.length : Int) ≤ 1048576 := by omega
  have HW := Lib.hid (allI_len hd)
  clear h hd
  go_enter Tryd.func36, Tryd.ntmps36
  go_wp2
  go_loopw [3, 4] (fun v i wr => ∃ k : Nat, k ≤ xs.length ∧ i = .int .i64 k ∧ v = .string ⟨(commaI (xs.take k)).toArray⟩ ∧ Below w.heap.size w wr) (fun _ i _ => xs.length - (intOf i).toNat)
  case atStart => exact ⟨0, by omega, rfl, rfl, Below.refl _ _⟩
  case round =>
    obtain ⟨k, hk, rfl, rfl, hb⟩ := hrel
    have hsz := commaI_len (xs.take k) fun x hx => HW.out x (List.mem_of_mem_take hx)
    rw [List.length_take] at hsz
    have hsz2 : (commaI (xs.take k)).length ≤ 22020096 := by omega
    clear hsz
    by_cases hlt : k < xs.length
    · have HT := Lib.hid (commaI_take xs k hlt)
      obtain ⟨d0, d1⟩ := HD.out k hlt
      obtain ⟨b, off, rfl, _, hc⟩ := (HI.out.step hb).at_ hlt
      generalize hx : xs.getD k 0 = x at hc d0 d1 HT
      clear hx
      have FD := Lib.hid (itoa_len d0 d1)
      have XT := Lib.hid fun (W : World) => (show Calls Tryd.prog 35 #[.int .i64 x] W fun e w' => e = .returned (.string ⟨(Lib.itoa x).toArray⟩) ∧ Below W.heap.size W w' from spec_FormatInt x d0 d1 W)
      generalize Lib.itoa x = X at HT FD XT
      have HL0 := Lib.hid (show k = 0 → commaI (xs.take k) = [] by rintro rfl; rfl)
      generalize hL : commaI (xs.take k) = L at hsz2 HT HL0
      clear hL
      by_cases h0 : k = 0
      · have K0 := Lib.hid h0
        have e1 : ¬ ((0 : Int) < (k : Int)) := by omega
        have e2 : ¬ (0 < k) := by omega
        clear h0
        go_wp2_with fail
        have fl := FD.out
        refine (XT.out _).mono ?_
        rintro e u ⟨rfl, d⟩
        have hb2 := step hb d
        clear d
        go_wp2
        go_roundw
        case rel => exact ⟨k + 1, by omega, by go_num, by rw [HT.out, if_pos K0.out]; have := HL0.out K0.out; subst this; rfl, hb2⟩
        case measure => simp [intOf]; omega
      · have e1 : ((0 : Int) < (k : Int)) := by omega
        have e2 : (0 < k) := by omega
        have K0 := Lib.hid h0
        clear h0
        go_wp2_with fail
        have fl := FD.out
        refine (XT.out _).mono ?_
        rintro e u ⟨rfl, d⟩
        have hb2 := step hb d
        clear d
        go_wp2
        go_roundw
        case rel => exact ⟨k + 1, by omega, by go_num, by rw [HT.out, if_neg K0.out, show (⟨#[44]⟩ : ByteArray) = ⟨[44].toArray⟩ from rfl, ba_append, ba_append]; simp, hb2⟩
        case measure => simp [intOf]; omega
    · obtain rfl : k = xs.length := by omega
      go_wp2
      go_ret
      exact ⟨ret_str (by rw [take_all]), hb⟩

set_option maxRecDepth 100000 in
set_option maxHeartbeats 400000 in
theorem formatList_fi (A : Option Addr) (c : Nat) (xs : List Int) (hl : xs.length ≤ 1048576) (hd : allR xs) (w : World) (h : RI w A xs) (ht : Tab w) :
    Calls Tryd.prog 65 #[.slice A xs.length c, .func (.func 42) #[] #[]] w fun e w' => e = .returned (.string ⟨(commaI xs).toArray⟩) ∧ Below w.heap.size w w' := by
  have HT := Lib.hid (Lib.tabBelow_of_tabIs ht)
  have XF := Lib.hid fun (j : Nat) (hj : j < xs.length) (W : World) (hW : Below w.heap.size w W) => (show Calls Tryd.prog 42 #[.int .i64 (xs.getD j 0)] W fun e w' => e = .returned (.string ⟨(Lib.itoa (xs.getD j 0)).toArray⟩) ∧ Below W.heap.size W w' from impl_FormatInt (xs.getD j 0) (allB_get hd hj).1 (allB_get hd hj).2 W (HT.out _ hW))
  have XE := Lib.hid (formatEach_int 42 (enters_of Tryd.func42 (by kernel_rfl) rfl) (fun x => ⟨(Lib.itoa x).toArray⟩) ⟨#[44]⟩ A c xs (by omega) w h XF.out (commaI xs) (by rw [List.map_map]; exact commaI_join xs) (by have := commaI_len xs (allI_len hd); omega))
  clear h ht hd
  generalize commaI xs = L at XE ⊢
  go_enter Tryd.func65, Tryd.ntmps65
  go_wp2_with fail
  refine XE.out.mono ?_
  rintro e u ⟨rfl, d⟩
  go_wp2
  go_ret
  exact ⟨rfl, d⟩

/-- The text of one list. -/
def tpB (xs : List Int) : List UInt8 := 40 :: (commaI xs ++ [41])
/-- The lists' texts, spaces between. -/
def spcT : TL → List UInt8
  | [] => []
  | [x] => tpB x
  | x :: y :: r => tpB x ++ 32 :: spcT (y :: r)
theorem spcT_snoc : ∀ (l : TL) (x : List Int), l ≠ [] → spcT (l ++ [x]) = spcT l ++ 32 :: tpB x
  | [], x, h => absurd rfl h
  | [y], x, _ => rfl
  | y :: z :: r, x, _ => by
    have ih := spcT_snoc (z :: r) x (by simp)
    simp only [List.cons_append] at ih ⊢
    rw [spcT, spcT, ih]
    simp
theorem spcT_take (l : TL) (k : Nat) (hk : k < l.length) : spcT (l.take (k + 1)) = if k = 0 then tpB (l.getD k []) else spcT (l.take k) ++ 32 :: tpB (l.getD k []) := by
  have e : l[k] = l.getD k [] := by simp [List.getD_eq_getElem?_getD, hk]
  rw [List.take_succ_eq_append_getElem hk, e]
  by_cases h0 : k = 0
  · subst h0; simp [spcT]
  · rw [if_neg h0, spcT_snoc]
    intro h
    have := congrArg List.length h
    rw [List.length_take, List.length_nil] at this
    omega
theorem tpB_len {xs : List Int} (h : allR xs) : (tpB xs).length ≤ 21 * xs.length + 2 := by
  have := commaI_len xs (allI_len h)
  simp only [tpB, List.length_cons, List.length_append, List.length_nil]
  omega
theorem spcT_len : ∀ l : TL, allT l → (spcT l).length ≤ 21 * sumT l + 3 * l.length
  | [], _ => by simp [spcT]
  | [x], h => by have := tpB_len (h x (by simp)); simp [spcT, sumT]; omega
  | x :: y :: r, h => by
    have h1 := spcT_len (y :: r) fun z hz => h z (List.mem_cons_of_mem _ hz)
    have h2 := tpB_len (h x (by simp))
    simp only [spcT, List.length_cons, List.length_append, sumT, List.map_cons, List.sum_cons] at *
    omega
theorem spcT_join : ∀ l : TL, Lib.join (l.map tpB) [32] = spcT l
  | [] => rfl
  | [x] => by simp [Lib.join_one, spcT]
  | x :: y :: r => by
    have ih := spcT_join (y :: r)
    simp only [List.map_cons] at ih ⊢
    rw [Lib.join_cons] at ih ⊢
    rw [spcT, ← ih]
    simp [Lib.joinTail]
theorem spcT_ne {l : TL} (h : l ≠ []) : spcT l ≠ [] := by
  match l with
  | [] => exact absurd rfl h
  | [x] => simp [spcT, tpB]
  | x :: y :: r => simp [spcT, tpB]
theorem spcT_small {l : TL} (hz : szT l ≤ 1048576) (h : allT l) (k : Nat) : (spcT (l.take k)).length ≤ 22020096 := by
  have h1 := spcT_len (l.take k) fun x hx => h x (List.mem_of_mem_take hx)
  have h2 := sumT_le l k
  have h3 : (l.take k).length ≤ l.length := by rw [List.length_take]; omega
  unfold szT at hz
  omega
/-- The text of a list of lists. -/
def fmtT (l : TL) : ByteArray := if l = [] then ⟨#[110, 111, 110, 101]⟩ else ⟨(spcT l).toArray⟩

set_option maxRecDepth 100000 in
set_option maxHeartbeats 1000000 in
theorem spec_FormatTuples (A : Option Addr) (c : Nat) (l : TL) (hz : szT l ≤ 1048576) (hd : allT l) (w : World) (h : RT w A l) :
    Calls Tryd.prog 24 #[.slice A l.length c] w fun e w' => e = .returned (.string (fmtT l)) ∧ Below w.heap.size w w' := by
  have hl := szT_len hz
  have hl' : (l.length : Int) ≤ 1048576 := by omega
  have HI := Lib.hid h
  have HD := Lib.hid hd
  clear h hd
  go_enter Tryd.func24, Tryd.ntmps24
  go_wp2
  go_loopw [3, 4] (fun v i wr => ∃ k : Nat, k ≤ l.length ∧ i = .int .i64 k ∧ v = .string ⟨(spcT (l.take k)).toArray⟩ ∧ Below w.heap.size w wr) (fun _ i _ => l.length - (intOf i).toNat)
  case atStart => exact ⟨0, by omega, rfl, rfl, Below.refl _ _⟩
  case round =>
    obtain ⟨k, hk, rfl, rfl, hb⟩ := hrel
    have hsz := spcT_small hz HD.out k
    by_cases hlt : k < l.length
    · have HT := Lib.hid (spcT_take l k hlt)
      generalize hf : l.getD k [] = xs at HT
      have hxl : xs.length ≤ 1048576 := by have := szT_elem hz hlt; rw [hf] at this; exact this
      have HA := Lib.hid (allT_at HD.out hlt hf)
      obtain ⟨b, off, B, c2, rfl, n1, e1, hxc, hcm, hI⟩ := (HI.out.step hb).at_ hlt hf
      have HX := Lib.hid hI
      have XL := Lib.hid fun (W : World) (hW : Below wr.heap.size wr W) => l2List_int B c2 xs hxl HA.out W (HX.out.step hW)
      have HC := Lib.hid (show (commaI xs).length ≤ 22020096 from by have := commaI_len xs (allI_len HA.out); omega)
      have HP := Lib.hid (show tpB xs = 40 :: (commaI xs ++ [41]) from rfl)
      generalize commaI xs = X at XL HC HP
      clear hI hf
      have HL0 := Lib.hid (show k = 0 → spcT (l.take k) = [] by rintro rfl; rfl)
      generalize hL : spcT (l.take k) = L at hsz HT HL0
      clear hL
      have hk0 : (0 : Int) ≤ (k : Int) := by omega
      by_cases h0 : k = 0
      · have K0 := Lib.hid h0
        have e1' : ¬ ((0 : Int) < (k : Int)) := by omega
        have e2' : ¬ (0 < k) := by omega
        clear h0
        go_wp2_with fail
        refine (XL.out _ (Below.refl _ _)).mono ?_
        rintro e u ⟨rfl, d⟩
        have hb2 := step hb d
        have hc := HC.out
        clear d
        go_wp2
        go_roundw
        case rel => exact ⟨k + 1, by omega, by go_num, by rw [HT.out, if_pos K0.out, HP.out]; have := HL0.out K0.out; subst this; first | rfl | (congr 1; apply ByteArray.ext; simp), hb2⟩
        case measure => simp [intOf]; omega
      · have e1' : ((0 : Int) < (k : Int)) := by omega
        have e2' : (0 < k) := by omega
        have K0 := Lib.hid h0
        clear h0
        go_wp2_with fail
        refine (XL.out _ (Below.refl _ _)).mono ?_
        rintro e u ⟨rfl, d⟩
        have hb2 := step hb d
        have hc := HC.out
        clear d
        go_wp2
        go_roundw
        case rel => exact ⟨k + 1, by omega, by go_num, by rw [HT.out, if_neg K0.out, HP.out]; first | rfl | (congr 1; apply ByteArray.ext; simp), hb2⟩
        case measure => simp [intOf]; omega
    · obtain rfl : k = l.length := by omega
      have HT := Lib.hid (take_all l)
      by_cases hn : l = []
      · have E := Lib.hid (show fmtT l = ⟨#[110, 111, 110, 101]⟩ from if_pos hn)
        have e0 : spcT (l.take l.length) = [] := by rw [hn]; rfl
        rw [e0]
        clear hn e0
        go_wp2
        go_ret
        exact ⟨ret_str (by rw [E.out]), hb⟩
      · have E := Lib.hid (show fmtT l = ⟨(spcT l).toArray⟩ from if_neg hn)
        have e0 : (spcT (l.take l.length)).isEmpty = false := by rw [HT.out]; have := spcT_ne hn; cases h : spcT l <;> simp_all
        have e1' : ¬ spcT (l.take l.length) = [] := by rw [HT.out]; exact spcT_ne hn
        have E2 := Lib.hid (show spcT (l.take l.length) = spcT l by rw [HT.out])
        generalize spcT (l.take l.length) = L at hsz e0 e1' E2 ⊢
        clear hn
        go_wp2
        go_ret
        exact ⟨ret_str (by rw [E.out, E2.out]), hb⟩

set_option maxRecDepth 100000 in
set_option maxHeartbeats 1000000 in
theorem formatTuple_any (B : Option Addr) (c2 : Nat) (xs : List Int) (hxl : xs.length ≤ 1048576) (hd : allR xs) (w : World) (h : RI w B xs) (ht : Tab w) :
    Calls Tryd.prog 59 #[.slice B xs.length c2] w fun e w' => e = .returned (.string ⟨(tpB xs).toArray⟩) ∧ Below w.heap.size w w' := by
  have XL := Lib.hid (formatList_fi B c2 xs hxl hd w h ht)
  have HC := Lib.hid (show (commaI xs).length ≤ 22020096 from by have := commaI_len xs (allI_len hd); omega)
  have HP := Lib.hid (show tpB xs = 40 :: (commaI xs ++ [41]) from rfl)
  generalize commaI xs = X at XL HC HP
  clear h hd ht
  go_enter Tryd.func59, Tryd.ntmps59
  go_wp2_with fail
  refine XL.out.mono ?_
  rintro e u ⟨rfl, d⟩
  have hc := HC.out
  go_wp2
  go_ret
  exact ⟨ret_str (by rw [HP.out]; first | rfl | (congr 1; apply ByteArray.ext; simp)), d⟩

set_option maxRecDepth 100000 in
set_option maxHeartbeats 1000000 in
theorem formatWords_tup (n : Nat) (hn : ∀ args W, (callFunc n args).run Tryd.prog W = .ok (.enter n args) W) (wd : List Int → ByteArray) (A : Option Addr) (c : Nat) (xs : TL) (hl : xs.length ≤ 1048576) (w : World) (h : RT w A xs)
    (hF : ∀ j, j < xs.length → ∀ W, Below w.heap.size w W → ∀ B c2, RI W B (xs.getD j []) → Calls Tryd.prog n #[.slice B (xs.getD j []).length c2] W fun e w' => e = .returned (.string (wd (xs.getD j []))) ∧ Below W.heap.size W w') :
    Calls Tryd.prog 75 #[.slice A xs.length c, .func (.func n) #[] #[]] w (WdsOut w (xs.map wd)) := by
  obtain ⟨C, hC, hCs, hmk⟩ := makeStrs xs.length hl
  have HI := Lib.hid h
  have HF := Lib.hid hF
  have HC := Lib.hid hC
  have HS := Lib.hid hCs
  have hl' : (xs.length : Int) ≤ 1048576 := by omega
  clear h hF hC hCs
  go_enter Tryd.func75, Tryd.ntmps75
  go_wp2
  go_loopw [6, 7, 13] (fun _ _ i wr => ∃ k : Nat, k ≤ xs.length ∧ i = .int .i64 k ∧ (∃ f, wr.rowIs w.heap.size 9 xs.length f ∧ ∀ j, j < k → f j = .string (wd (xs.getD j []))) ∧ Below w.heap.size w wr ∧ w.heap.size < wr.heap.size) (fun _ _ i _ => xs.length - (intOf i).toNat)
  case atStart => exact ⟨0, by omega, rfl, ⟨fun _ => .string ⟨#[]⟩, ⟨C, by rw [heap_alloc_new], HS.out, fun i hi => HC.out i hi⟩, fun j hj => by omega⟩, below_alloc _ _, by simp⟩
  case round =>
    obtain ⟨k, hk, rfl, ⟨f, hr, hf⟩, hb, hsz⟩ := hrel
    have HFF := Lib.hid hf
    have HR := Lib.hid hr
    clear hf hr
    by_cases hlt : k < xs.length
    · generalize hx : xs.getD k [] = x
      obtain ⟨b, off, B, c2, rfl, n1, e1, hxc, hcm, hI⟩ := (HI.out.step hb).at_ hlt hx
      have XF := Lib.hid (HF.out k hlt wr hb B c2 (by rw [hx]; exact hI))
      rw [hx] at XF
      clear hI
      have HX := Lib.hid hx
      generalize hy : wd x = y at XF
      have HY := Lib.hid hy
      clear hx hy
      go_wp2_with fail
      go_at_fn n
      refine XF.out.mono ?_
      rintro e u ⟨rfl, d⟩
      have hb2 := step hb d
      have HR2 := Lib.hid (World.rowIs.of_block HR.out (d.block _ hsz))
      have hsz2 : w.heap.size < u.heap.size := by have := d.size; omega
      have hz1 := HR2.out.cell hlt
      have hz2 := HR2.out.frozen k
      clear d
      go_wp2
      go_roundw
      case rel =>
        refine ⟨k + 1, by omega, by go_num, ⟨_, HR2.out.set k _, fun j hj => ?_⟩, hb2.setCell (Nat.le_refl _) _, by simpa [World.setCell] using hsz2⟩
        by_cases e : j = k
        · subst e; rw [if_pos rfl, HX.out, HY.out]
        · rw [if_neg e]; exact HFF.out j (by omega)
      case measure => simp [intOf]; omega
    · obtain rfl : k = xs.length := by omega
      have O := Lib.hid (show WdsOut w (xs.map wd) (.returned (.slice (some ⟨w.heap.size, 0, none⟩) xs.length xs.length)) wr by
        refine ⟨by rw [List.length_map], ?_, hb, hsz⟩
        rw [List.length_map]
        exact HR.out.congr fun j hj => by rw [HFF.out j hj, getD_map xs wd [] hj])
      go_wp2
      go_ret
      exact O.out

set_option maxRecDepth 100000 in
set_option maxHeartbeats 1000000 in
theorem formatEach_tup (n : Nat) (hn : ∀ args W, (callFunc n args).run Tryd.prog W = .ok (.enter n args) W) (wd : List Int → ByteArray) (sep : ByteArray) (A : Option Addr) (c : Nat) (xs : TL) (hl : xs.length ≤ 1048576) (w : World) (h : RT w A xs)
    (hF : ∀ j, j < xs.length → ∀ W, Below w.heap.size w W → ∀ B c2, RI W B (xs.getD j []) → Calls Tryd.prog n #[.slice B (xs.getD j []).length c2] W fun e w' => e = .returned (.string (wd (xs.getD j []))) ∧ Below W.heap.size W w')
    (L : List UInt8) (hL : Lib.join ((xs.map wd).map (·.data.toList)) sep.data.toList = L) (hlen : L.length ≤ 140737488355328) :
    Calls Tryd.prog 58 #[.slice A xs.length c, .string sep, .func (.func n) #[] #[]] w fun e w' => e = .returned (.string ⟨L.toArray⟩) ∧ Below w.heap.size w w' := by
  have XW := Lib.hid (formatWords_tup n hn wd A c xs hl w h hF)
  have hm : (xs.map wd).length = xs.length := List.length_map _
  have HL := Lib.hid hL
  have HN := Lib.hid hlen
  clear h hF hL hlen
  generalize hws : xs.map wd = ws at XW hm HL
  have hw1 : ws.length ≤ 1048576 := by omega
  clear hws hm
  go_enter Tryd.func58, Tryd.ntmps58
  go_wp2_with fail
  refine XW.out.mono ?_
  rintro e u ⟨rfl, hr, hb, hsz⟩
  have HJ := Lib.hid (Tryd.strings_Join w.heap.size 0 ws.length ws sep u (words_cells hr) hsz (by omega) (Nat.le_refl _) (by rw [HL.out]; exact HN.out))
  have HB := Lib.hid hb
  rw [HL.out] at HJ
  clear hr hb hsz
  go_wp2_with fail
  refine HJ.out.mono ?_
  rintro e u2 ⟨rfl, d⟩
  go_wp2
  go_ret
  exact ⟨rfl, step HB.out d⟩

set_option maxRecDepth 100000 in
set_option maxHeartbeats 1000000 in
theorem impl_FormatTuples (A : Option Addr) (c : Nat) (l : TL) (hz : szT l ≤ 1048576) (hd : allT l) (w : World) (h : RT w A l) (ht : Tab w) :
    Calls Tryd.prog 26 #[.slice A l.length c] w fun e w' => e = .returned (.string (fmtT l)) ∧ Below w.heap.size w w' := by
  have hl := szT_len hz
  have hl' : (l.length : Int) ≤ 1048576 := by omega
  have HT := Lib.hid (Lib.tabBelow_of_tabIs ht)
  by_cases hn : l = []
  · have E := Lib.hid (show fmtT l = ⟨#[110, 111, 110, 101]⟩ from if_pos hn)
    rw [E.out]
    have e1 : l.length = 0 := by simp [hn]
    rw [e1]
    clear hn hl' hl hz h hd ht
    go_enter Tryd.func26, Tryd.ntmps26
    go_wp2
    go_ret
    exact ⟨rfl, Below.refl _ _⟩
  · have E := Lib.hid (show fmtT l = ⟨(spcT l).toArray⟩ from if_neg hn)
    rw [E.out]
    have hp : 0 < l.length := List.length_pos_iff.2 hn
    have e0 : ((l.length : Int) == 0) = false := by simp; omega
    have XE := Lib.hid (formatEach_tup 59 (enters_of Tryd.func59 (by kernel_rfl) rfl) (fun x => ⟨(tpB x).toArray⟩) ⟨#[32]⟩ A c l hl w h
      (fun j hj W hW B c2 hB => formatTuple_any B c2 (l.getD j []) (szT_elem hz hj) (allT_at hd hj rfl) W hB (HT.out _ hW))
      (spcT l) (by rw [List.map_map, show ((fun x : ByteArray => x.data.toList) ∘ fun x : List Int => (⟨(tpB x).toArray⟩ : ByteArray)) = tpB from rfl, show (⟨#[32]⟩ : ByteArray).data.toList = [32] from rfl, spcT_join]) (by have := spcT_small hz hd l.length; rw [take_all] at this; omega))
    clear hn h hd ht
    go_enter Tryd.func26, Tryd.ntmps26
    go_wp2_with fail
    refine XE.out.mono ?_
    rintro e u ⟨rfl, d⟩
    go_wp2
    go_ret
    exact ⟨rfl, d⟩

theorem impl_FormatTuples_r (A : Option Addr) (c : Nat) (l : TL) (hz : szT l ≤ 1048576) (hd : allT l) (w : World) (h : RT w A l) (ht : TabB w) :
    Calls Tryd.prog 26 #[.slice A l.length c] w fun e w' => e = .returned (.string (fmtT l)) ∧ Below w.heap.size w w' := impl_FormatTuples A c l hz hd w h (ht _ (Below.refl _ _))
end Go.Proofs.YtcfnmcemeejbeaaDoor
