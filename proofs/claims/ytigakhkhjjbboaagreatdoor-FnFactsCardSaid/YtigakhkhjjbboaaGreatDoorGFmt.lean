/- What the two functions FormatFact answer. Conditions: none beyond each theorem's own. What the two functions FormatFact answer. Conditions: none beyond each theorem's own. -/
import Derived.Test.YtigakhkhjjbboaaGreatDoorReads
import Derived.Test.YtigakhkhjjbboaaGreatDoorFmt
import Derived.Lib.QuietBelow

namespace Go.Proofs.YtigakhkhjjbboaaGreatDoor
open Go.ChangeShapes Go.WideShapes Go.ChangeAt Go.RowKit Go.Sort
set_option linter.unusedVariables false
set_option linter.unusedSimpArgs false

/-- The digit of d. -/
def dg (d : Int) : UInt8 := UInt8.ofNat (48 + d.toNat)
theorem fmt_digit {d : Int} (h0 : 0 ≤ d) (h1 : d ≤ 9) : fmtI d = ⟨#[dg d]⟩ := by
  unfold fmtI
  rw [Lib.itoa, if_neg (by omega), Lib.decDigits_one (by omega)]
  rfl
/-- The digits, commas between. -/
def commaL : List Int → List UInt8
  | [] => []
  | [x] => [dg x]
  | x :: y :: r => dg x :: 44 :: commaL (y :: r)
theorem commaL_snoc : ∀ (l : List Int) (x : Int), l ≠ [] → commaL (l ++ [x]) = commaL l ++ [44, dg x]
  | [], x, h => absurd rfl h
  | [y], x, _ => rfl
  | y :: z :: r, x, _ => by
    have ih := commaL_snoc (z :: r) x (by simp)
    simp only [List.cons_append] at ih ⊢
    rw [commaL, commaL, ih]
    rfl
theorem commaL_take (l : List Int) (k : Nat) (hk : k < l.length) : commaL (l.take (k + 1)) = if k = 0 then [dg (l.getD k 0)] else commaL (l.take k) ++ [44, dg (l.getD k 0)] := by
  have e : l[k] = l.getD k 0 := by simp [List.getD_eq_getElem?_getD, hk]
  rw [List.take_succ_eq_append_getElem hk, e]
  by_cases h0 : k = 0
  · subst h0; simp [commaL]
  · rw [if_neg h0, commaL_snoc]
    intro h
    have := congrArg List.length h
    rw [List.length_take, List.length_nil] at this
    omega
theorem commaL_len : ∀ l : List Int, (commaL l).length ≤ 2 * l.length
  | [] => by simp [commaL]
  | [x] => by simp [commaL]
  | x :: y :: r => by
    have := commaL_len (y :: r)
    simp only [commaL, List.length_cons] at this ⊢
    omega
theorem comma_join : ∀ l : List Int, Lib.join (l.map fun x => [dg x]) [44] = commaL l
  | [] => rfl
  | [x] => by simp [Lib.join_one, commaL]
  | x :: y :: r => by
    have ih := comma_join (y :: r)
    simp only [List.map_cons] at ih ⊢
    rw [Lib.join_cons] at ih ⊢
    rw [commaL, ← ih]
    simp [Lib.joinTail]

/-- Has the fact a text? -/
def fmtOk (r : Int) (xs : List Int) : Bool := inB r 0 2 && inB (xs.length : Int) 1 3 && allB 0 9 xs
/-- The text of a fact. -/
def fmtF (r : Int) (xs : List Int) : ByteArray := if fmtOk r xs = true then ⟨([114, dg r, 40] ++ commaL xs ++ [41]).toArray⟩ else ⟨#[]⟩
theorem fmtF_yes {r : Int} {xs : List Int} (h : fmtOk r xs = true) : fmtF r xs = ⟨([114, dg r, 40] ++ commaL xs ++ [41]).toArray⟩ := if_pos h
theorem fmtF_no {r : Int} {xs : List Int} (h : fmtOk r xs = false) : fmtF r xs = ⟨#[]⟩ := if_neg (by simp [h])

theorem allB_get {a b : Int} {xs : List Int} (h : allB a b xs = true) {k : Nat} (hk : k < xs.length) : a ≤ xs.getD k 0 ∧ xs.getD k 0 ≤ b := by
  unfold allB at h
  rw [List.all_eq_true] at h
  have := h xs[k] (List.getElem_mem _)
  have e : xs.getD k 0 = xs[k] := by simp [List.getD_eq_getElem?_getD, hk]
  rw [e]
  simpa [inB] using this

set_option maxRecDepth 100000 in
set_option maxHeartbeats 400000 in
theorem l2List_any (A : Option Addr) (c : Nat) (xs : List Int) (hl : xs.length ≤ 3) (hd : allB 0 9 xs = true) (w : World) (h : RI w A xs) :
    Calls Tryz.prog 62 #[.slice A xs.length c] w fun e w' => e = .returned (.string ⟨(commaL xs).toArray⟩) ∧ Below w.heap.size w w' := by
  have HI := Lib.hid h
  have HD := Lib.hid fun (k : Nat) (hk : k < xs.length) => allB_get hd hk
  have hl' : (xs.length : Int) ≤ 3 := by omega
  clear h hd
  go_enter Tryz.func62, Tryz.ntmps62
  go_wp2
  go_loopw [3, 4] (fun v i wr => ∃ k : Nat, k ≤ xs.length ∧ i = .int .i64 k ∧ v = .string ⟨(commaL (xs.take k)).toArray⟩ ∧ Below w.heap.size w wr) (fun _ i _ => xs.length - (intOf i).toNat)
  case atStart => exact ⟨0, by omega, rfl, rfl, Below.refl _ _⟩
  case round =>
    obtain ⟨k, hk, rfl, rfl, hb⟩ := hrel
    have hsz := commaL_len (xs.take k)
    rw [List.length_take] at hsz
    have hsz2 : (commaL (xs.take k)).length ≤ 6 := by omega
    clear hsz
    by_cases hlt : k < xs.length
    · have HT := Lib.hid (commaL_take xs k hlt)
      obtain ⟨d0, d1⟩ := HD.out k hlt
      obtain ⟨b, off, rfl, _, hc⟩ := (HI.out.step hb).at_ hlt
      generalize hx : xs.getD k 0 = x at hc d0 d1 HT
      clear hx
      have FD := Lib.hid (fmt_digit d0 d1)
      have HL0 := Lib.hid (show k = 0 → commaL (xs.take k) = [] by rintro rfl; rfl)
      generalize hL : commaL (xs.take k) = L at hsz2 HT HL0
      clear hL
      by_cases h0 : k = 0
      · have K0 := Lib.hid h0
        have e1 : ¬ ((0 : Int) < (k : Int)) := by omega
        have e2 : ¬ (0 < k) := by omega
        clear h0
        go_wp2_with fail
        refine (spec_FormatInt x (by omega) (by omega) _).mono ?_
        rintro e u ⟨he, d⟩
        rw [FD.out] at he
        subst he
        have hb2 := step hb d
        clear d
        go_wp2
        go_roundw
        case rel => exact ⟨k + 1, by omega, by go_num, by rw [HT.out, if_pos K0.out]; have := HL0.out K0.out; subst this; rfl, hb2⟩
        case measure => simp [intOf]; omega
      · have e1 : ((0 : Int) < (k : Int)) := by omega
        have e2 : (0 < k) := by omega
        have K0 := Lib.hid h0
        clear h0
        go_wp2_with fail
        refine (spec_FormatInt x (by omega) (by omega) _).mono ?_
        rintro e u ⟨he, d⟩
        rw [FD.out] at he
        subst he
        have hb2 := step hb d
        clear d
        go_wp2
        go_roundw
        case rel => exact ⟨k + 1, by omega, by go_num, by rw [HT.out, if_neg K0.out, show (⟨#[44]⟩ : ByteArray) = ⟨[44].toArray⟩ from rfl, show (⟨#[dg x]⟩ : ByteArray) = ⟨[dg x].toArray⟩ from rfl, ba_append, ba_append]; simp, hb2⟩
        case measure => simp [intOf]; omega
    · obtain rfl : k = xs.length := by omega
      go_wp2
      go_ret
      exact ⟨ret_str (by rw [take_all]), hb⟩

theorem string_info : (Tryz.prog.info? 9).map (fun i => (i.zero, i.size, i.bytes)) = some (some (.string ⟨#[]⟩), 1, 16) := by kernel_rfl
theorem makeStrs (n : Nat) (hn : n ≤ 1048576) :
    ∃ C : Array Value, (∀ i, i < n → C[i]? = some (.string ⟨#[]⟩)) ∧ C.size = n ∧ ∀ W : World, (Instr.makeSlice 85 (.int .i64 (n : Int)) (.int .i64 (n : Int))).run Tryz.prog W = .ok (.slice (some ⟨W.heap.size, 0, none⟩) n n) (W.alloc (.cells C 9)) := by
  obtain ⟨i0, hi, hz0, hz1, hz2⟩ := info_parts string_info
  refine ⟨madeCells #[.string ⟨#[]⟩] n, fun i hin => ?_, size_madeCells _ _, fun W => ?_⟩
  · simp [madeCells, hin, Nat.mod_one]
  · have h := run_make (P := Tryz.prog) W 85 9 i0 (.string ⟨#[]⟩) Tryz.underlying85 hi hz0 .i64 .i64 (n : Int) (n : Int) (by omega) (by omega) (by rw [hz2]; omega) (by omega)
    rw [hz1, show ((n : Int)).toNat = n by omega, Nat.mul_one] at h
    exact h

set_option maxRecDepth 100000 in
set_option maxHeartbeats 400000 in
theorem formatList_int (A : Option Addr) (c : Nat) (xs : List Int) (hl : xs.length ≤ 3) (hd : allB 0 9 xs = true) (w : World) (h : RI w A xs) (ht : Tab w) :
    Calls Tryz.prog 93 #[.slice A xs.length c, .func (.func 53) #[] #[]] w fun e w' => e = .returned (.string ⟨(commaL xs).toArray⟩) ∧ Below w.heap.size w w' := by
  obtain ⟨C, hC, hCs, hmk⟩ := makeStrs xs.length (by omega)
  have HI := Lib.hid h
  have HT := Lib.hid (Lib.tabBelow_of_tabIs ht)
  have HD := Lib.hid fun (k : Nat) (hk : k < xs.length) => allB_get hd hk
  have HC := Lib.hid hC
  have HS := Lib.hid hCs
  have hl' : (xs.length : Int) ≤ 3 := by omega
  clear h hd ht hC hCs
  go_enter Tryz.func93, Tryz.ntmps93
  go_wp2
  go_loopw [6, 7, 13] (fun _ _ i wr => ∃ k : Nat, k ≤ xs.length ∧ i = .int .i64 k ∧ (∃ f, wr.rowIs w.heap.size 9 xs.length f ∧ ∀ j, j < k → f j = .string ⟨#[dg (xs.getD j 0)]⟩) ∧ Below w.heap.size w wr ∧ w.heap.size < wr.heap.size) (fun _ _ i _ => xs.length - (intOf i).toNat)
  case atStart => exact ⟨0, by omega, rfl, ⟨fun _ => .string ⟨#[]⟩, ⟨C, by rw [heap_alloc_new], HS.out, fun i hi => HC.out i hi⟩, fun j hj => by omega⟩, below_alloc _ _, by simp⟩
  case round =>
    obtain ⟨k, hk, rfl, ⟨f, hr, hf⟩, hb, hsz⟩ := hrel
    have HF := Lib.hid hf
    have HR := Lib.hid hr
    clear hf hr
    by_cases hlt : k < xs.length
    · obtain ⟨d0, d1⟩ := HD.out k hlt
      obtain ⟨b, off, rfl, _, hc⟩ := (HI.out.step hb).at_ hlt
      generalize hx : xs.getD k 0 = x at hc d0 d1
      have HX := Lib.hid hx
      clear hx
      have FD := Lib.hid (fmt_digit d0 d1)
      go_wp2_with fail
      refine (impl_FormatInt x (by omega) (by omega) _ (HT.out _ hb)).mono ?_
      rintro e u ⟨he, d⟩
      rw [FD.out] at he
      subst he
      have hb2 := step hb d
      have HR2 := Lib.hid (World.rowIs.of_block HR.out (d.block _ hsz))
      have hsz2 : w.heap.size < u.heap.size := by have := d.size; omega
      have hz1 := HR2.out.cell hlt
      have hz2 := HR2.out.frozen k
      clear d
      go_wp2
      go_roundw
      case rel =>
        refine ⟨k + 1, by omega, by go_num, ⟨_, HR2.out.set k _, fun j hj => ?_⟩, hb2.setCell (Nat.le_refl _) _, by simpa [World.setCell] using hsz2⟩
        by_cases e : j = k
        · subst e; rw [if_pos rfl, HX.out]
        · rw [if_neg e]; exact HF.out j (by omega)
      case measure => simp [intOf]; omega
    · obtain rfl : k = xs.length := by omega
      have hlen : (xs.map fun x => (⟨#[dg x]⟩ : ByteArray)).length = xs.length := by simp
      have hmap : (xs.map fun x => (⟨#[dg x]⟩ : ByteArray)).map (·.data.toList) = xs.map fun x => [dg x] := by simp
      have hj := Tryz.strings_Join w.heap.size 0 xs.length (xs.map fun x => ⟨#[dg x]⟩) ⟨#[44]⟩ wr (fun j x hx => by
        have hj : j < xs.length := by rw [← hlen]; exact (List.getElem?_eq_some_iff.1 hx).1
        rw [Nat.zero_add, HR.out.cell hj, HF.out j hj]
        rw [List.getElem?_map, List.getElem?_eq_getElem hj] at hx
        injection hx with hx
        subst hx
        simp [List.getD_eq_getElem?_getD, hj]) hsz (by rw [hlen]; omega) (by rw [hlen]; exact Nat.le_refl _) (by rw [hmap, comma_join]; have := commaL_len xs; omega)
      rw [hmap, hlen, show (⟨#[44]⟩ : ByteArray).data.toList = [44] from rfl, comma_join] at hj
      have HJ := Lib.hid hj
      clear hj hlen hmap
      go_wp2_with fail
      refine HJ.out.mono ?_
      rintro e u ⟨rfl, d⟩
      go_wp2
      go_ret
      exact ⟨rfl, step hb d⟩
end Go.Proofs.YtigakhkhjjbboaaGreatDoor

namespace Go.Proofs.YtigakhkhjjbboaaGreatDoor
open Go.ChangeShapes Go.WideShapes Go.ChangeAt Go.RowKit Go.Sort
set_option linter.unusedVariables false
set_option linter.unusedSimpArgs false

theorem fmt_cat (r : Int) (L : List UInt8) : (⟨#[114]⟩ : ByteArray) ++ ⟨#[dg r]⟩ ++ ⟨#[40]⟩ ++ ⟨L.toArray⟩ ++ ⟨#[41]⟩ = ⟨([114, dg r, 40] ++ L ++ [41]).toArray⟩ := by
  rw [show (⟨#[114]⟩ : ByteArray) = ⟨[114].toArray⟩ from rfl, show (⟨#[dg r]⟩ : ByteArray) = ⟨[dg r].toArray⟩ from rfl, show (⟨#[40]⟩ : ByteArray) = ⟨[40].toArray⟩ from rfl, show (⟨#[41]⟩ : ByteArray) = ⟨[41].toArray⟩ from rfl, ba_append, ba_append, ba_append, ba_append]
  simp

set_option maxRecDepth 100000 in
set_option maxHeartbeats 1000000 in
theorem formatParts_int (r : Int) (xs : List Int) (A : Option Addr) (c : Nat) (h0 : 0 ≤ r) (h9 : r ≤ 9) (hl : xs.length ≤ 3) (hd : allB 0 9 xs = true) (w : World) (h : RI w A xs) (ht : Tab w) :
    Calls Tryz.prog 52 #[.int .i64 r, .slice A xs.length c, .func (.func 53) #[] #[]] w fun e w' => e = .returned (.string ⟨([114, dg r, 40] ++ commaL xs ++ [41]).toArray⟩) ∧ Below w.heap.size w w' := by
  have FD := Lib.hid (fmt_digit h0 h9)
  have HI := Lib.hid h
  have HT := Lib.hid (Lib.tabBelow_of_tabIs ht)
  have XL := Lib.hid fun (W : World) (hW : Below w.heap.size w W) => formatList_int A c xs hl hd W (HI.out.step hW) (HT.out _ hW)
  have hsz := commaL_len xs
  have hsz2 : (commaL xs).length ≤ 9 := by omega
  have FC := Lib.hid (fmt_cat r (commaL xs))
  generalize commaL xs = L at hsz2 XL FC ⊢
  clear hsz h ht hd
  go_enter Tryz.func52, Tryz.ntmps52
  go_wp2_with fail
  refine (impl_FormatInt r (by omega) (by omega) _ (HT.out _ (Below.refl _ _))).mono ?_
  rintro e w1 ⟨he, d⟩
  rw [FD.out] at he
  subst he
  have D1 := Lib.hid d
  clear d
  go_wp2_with fail
  refine (XL.out _ D1.out).mono ?_
  rintro e w2 ⟨rfl, d⟩
  have D2 := Lib.hid (step D1.out d)
  clear d
  go_wp2
  go_ret
  exact ⟨ret_str FC.out, D2.out⟩

set_option maxRecDepth 100000 in
set_option maxHeartbeats 1000000 in
theorem impl_FormatFact (r : Int) (xs : List Int) (A : Option Addr) (c : Nat) (hl : xs.length ≤ 1048576) (w : World) (h : RI w A xs) (ht : Tab w) :
    Calls Tryz.prog 15 #[.agg #[.int .i64 r, .slice A xs.length c]] w fun e w' => e = .returned (.string (fmtF r xs)) ∧ Below w.heap.size w w' := by
  have hx' : (xs.length : Int) ≤ 1048576 := by omega
  have B0 := Lib.hid (below_alloc w (.cells #[.int .i64 r, .slice A xs.length c] 27))
  have HI := Lib.hid (h.step B0.out)
  have HT := Lib.hid (Lib.tabBelow_of_tabIs ht)
  have g0 := cell_new w #[.int .i64 r, .slice A xs.length c] 27 0
  have g1 := cell_new w #[.int .i64 r, .slice A xs.length c] 27 1
  simp only [List.getElem?_toArray, List.getElem?_cons_zero, List.getElem?_cons_succ] at g0 g1
  have k0 := cell_regrown g0
  have k1 := cell_regrown g1
  clear g0 g1
  by_cases c1 : inB r 0 2 = true
  · have C1 := Lib.hid c1
    have hr : 0 ≤ r ∧ r ≤ 2 := by simpa [inB] using c1
    by_cases c2 : inB (xs.length : Int) 1 3 = true
    · have C2 := Lib.hid c2
      have hn : 1 ≤ (xs.length : Int) ∧ (xs.length : Int) ≤ 3 := by simpa [inB] using c2
      by_cases c3 : allB 0 9 xs = true
      · have C3 := Lib.hid c3
        have FO := Lib.hid (show fmtOk r xs = true by simp [fmtOk, c1, c2, c3])
        have XP := Lib.hid fun (W : World) (hW : Below w.heap.size w W) => formatParts_int r xs A c hr.1 (by omega) (by omega) C3.out W (h.step hW) (HT.out _ hW)
        rw [fmtF_yes FO.out]
        clear h ht c1 c2 c3
        go_enter Tryz.func15, Tryz.ntmps15
        go_wp2_with fail
        refine (isRelation_any r _).mono ?_
        rintro e w1 ⟨he, rfl⟩
        rw [C1.out] at he
        subst he
        go_wp2_with fail
        refine (isArity_any (xs.length : Int) _).mono ?_
        rintro e w1 ⟨he, rfl⟩
        rw [C2.out] at he
        subst he
        go_wp2_with fail
        refine (areValues_any _ _ A c xs (by omega) _ HI.out).mono ?_
        rintro e w1 ⟨he, rfl⟩
        rw [C3.out] at he
        subst he
        clear k0 k1
        go_wp2_with fail
        refine (XP.out _ B0.out).mono ?_
        rintro e w1 ⟨rfl, d⟩
        have D1 := Lib.hid (step B0.out d)
        clear d
        go_wp2
        go_ret
        exact ⟨rfl, D1.out⟩
      · have C3 := Lib.hid (show allB 0 9 xs = false by simpa using c3)
        rw [fmtF_no (show fmtOk r xs = false by simp [fmtOk, C3.out])]
        clear h ht c1 c2 c3
        go_enter Tryz.func15, Tryz.ntmps15
        go_wp2_with fail
        refine (isRelation_any r _).mono ?_
        rintro e w1 ⟨he, rfl⟩
        rw [C1.out] at he
        subst he
        go_wp2_with fail
        refine (isArity_any (xs.length : Int) _).mono ?_
        rintro e w1 ⟨he, rfl⟩
        rw [C2.out] at he
        subst he
        go_wp2_with fail
        refine (areValues_any _ _ A c xs (by omega) _ HI.out).mono ?_
        rintro e w1 ⟨he, rfl⟩
        rw [C3.out] at he
        subst he
        go_wp2
        go_ret
        exact ⟨rfl, B0.out⟩
    · have C2 := Lib.hid (show inB (xs.length : Int) 1 3 = false by simpa using c2)
      rw [fmtF_no (show fmtOk r xs = false by simp [fmtOk, C2.out])]
      clear h ht c1 c2
      go_enter Tryz.func15, Tryz.ntmps15
      go_wp2_with fail
      refine (isRelation_any r _).mono ?_
      rintro e w1 ⟨he, rfl⟩
      rw [C1.out] at he
      subst he
      go_wp2_with fail
      refine (isArity_any (xs.length : Int) _).mono ?_
      rintro e w1 ⟨he, rfl⟩
      rw [C2.out] at he
      subst he
      go_wp2
      go_ret
      exact ⟨rfl, B0.out⟩
  · have C1 := Lib.hid (show inB r 0 2 = false by simpa using c1)
    rw [fmtF_no (show fmtOk r xs = false by simp [fmtOk, C1.out])]
    clear h ht c1
    go_enter Tryz.func15, Tryz.ntmps15
    go_wp2_with fail
    refine (isRelation_any r _).mono ?_
    rintro e w1 ⟨he, rfl⟩
    rw [C1.out] at he
    subst he
    go_wp2
    go_ret
    exact ⟨rfl, B0.out⟩

set_option maxRecDepth 100000 in
set_option maxHeartbeats 1000000 in
theorem spec_FormatFact (r : Int) (xs : List Int) (A : Option Addr) (c : Nat) (hl : xs.length ≤ 1048576) (w : World) (h : RI w A xs) :
    Calls Tryz.prog 22 #[.agg #[.int .i64 r, .slice A xs.length c]] w fun e w' => e = .returned (.string (fmtF r xs)) ∧ Below w.heap.size w w' := by
  have hx' : (xs.length : Int) ≤ 1048576 := by omega
  have B0 := Lib.hid (below_alloc w (.cells #[.int .i64 r, .slice A xs.length c] 27))
  have HI := Lib.hid (h.step B0.out)
  have g0 := cell_new w #[.int .i64 r, .slice A xs.length c] 27 0
  have g1 := cell_new w #[.int .i64 r, .slice A xs.length c] 27 1
  simp only [List.getElem?_toArray, List.getElem?_cons_zero, List.getElem?_cons_succ] at g0 g1
  have k0 := cell_regrown g0
  have k1 := cell_regrown g1
  clear h g0 g1
  by_cases c1 : inB r 0 2 = true
  · have C1 := Lib.hid c1
    have hr : 0 ≤ r ∧ r ≤ 2 := by simpa [inB] using c1
    by_cases c2 : inB (xs.length : Int) 1 3 = true
    · have C2 := Lib.hid c2
      have hn : 1 ≤ (xs.length : Int) ∧ (xs.length : Int) ≤ 3 := by simpa [inB] using c2
      clear c1 c2
      go_enter Tryz.func22, Tryz.ntmps22
      go_wp2_with fail
      refine (l1In_any r 0 2 _).mono ?_
      rintro e w1 ⟨he, rfl⟩
      rw [C1.out] at he
      subst he
      go_wp2_with fail
      refine (l1In_any (xs.length : Int) 1 3 _).mono ?_
      rintro e w1 ⟨he, rfl⟩
      rw [C2.out] at he
      subst he
      go_wp2
      go_loop [3] (fun i => ∃ j : Nat, j ≤ xs.length ∧ i = .int .i64 j ∧ allB 0 9 (xs.take j) = true) (fun i => xs.length - (intOf i).toNat)
      case atStart => exact ⟨0, by omega, rfl, rfl⟩
      case round =>
        obtain ⟨j, hj, rfl, ha⟩ := hrel
        have HA := Lib.hid ha
        clear ha
        by_cases hlt : j < xs.length
        · obtain ⟨b2, off2, rfl, _, hc⟩ := HI.out.at_ hlt
          generalize hx : xs.getD j 0 = x at hc
          have HX := Lib.hid hx
          clear hx
          by_cases hin : inB x 0 9 = true
          · have HN := Lib.hid hin
            clear hin
            go_wp2_with fail
            refine (l1In_any x 0 9 _).mono ?_
            rintro e w' ⟨rfl, rfl⟩
            rw [HN.out]
            go_wp2
            go_round
            case rel => exact ⟨j + 1, by omega, by go_num, by rw [allB_take _ _ _ _ hlt, HA.out, HX.out, HN.out]; rfl⟩
            case measure => simp [intOf]; omega
          · have HN := Lib.hid (show inB x 0 9 = false by simpa using hin)
            clear hin
            go_wp2_with fail
            refine (l1In_any x 0 9 _).mono ?_
            rintro e w' ⟨rfl, rfl⟩
            rw [HN.out]
            go_wp2
            go_ret
            exact ⟨ret_str (fmtF_no (by simp [fmtOk, allB_not _ _ _ j hlt (by rw [HX.out]; exact HN.out)])).symm, B0.out⟩
        · obtain rfl : j = xs.length := by omega
          have C3 := Lib.hid (show allB 0 9 xs = true by have := HA.out; rwa [take_all] at this)
          have FO := Lib.hid (show fmtOk r xs = true by simp [fmtOk, C1.out, C2.out, C3.out])
          have FD := Lib.hid (fmt_digit hr.1 (show r ≤ 9 by omega))
          have X1 := Lib.hid fun (W : World) => (show Calls Tryz.prog 61 #[.int .i64 r] W fun e w' => e = .returned (.string ⟨#[dg r]⟩) ∧ Below W.heap.size W w' by have := spec_FormatInt r (by omega) (by omega) W; rw [FD.out] at this; exact this)
          have X2 := Lib.hid fun (W : World) (hW : Below (w.alloc (.cells #[.int .i64 r, .slice A xs.length c] 27)).heap.size (w.alloc (.cells #[.int .i64 r, .slice A xs.length c] 27)) W) => l2List_any A c xs (by omega) C3.out W (HI.out.step hW)
          have hsz := commaL_len xs
          have hsz2 : (commaL xs).length ≤ 6 := by omega
          have FC := Lib.hid ((fmt_cat r (commaL xs)).trans (fmtF_yes FO.out).symm)
          generalize commaL xs = L at hsz2 X2 FC
          clear hsz
          go_wp2
          refine wp_region_quiet_below (by kernel_rfl) (by kernel_rfl) ?_
          repeat (go_big_quiet_step (first | (go_at_call 61; with_reducible exact Calls.regrown_of (X1.out _)) | (go_at_call 62; with_reducible exact Calls.regrown_of (X2.out _ (below_regrown _ _ _)))))
          refine wpQuiet_nil ?_
          intro u hw'
          have hb2 := step B0.out (show Below _ _ u by obtain ⟨⟨dq, osq⟩, rfl⟩ := hw'; exact below_regrown _ _ _)
          clear hw' k0 k1
          go_wp2
          go_ret
          exact ⟨ret_str FC.out, hb2⟩
    · have C2 := Lib.hid (show inB (xs.length : Int) 1 3 = false by simpa using c2)
      rw [fmtF_no (show fmtOk r xs = false by simp [fmtOk, C2.out])]
      clear c1 c2
      go_enter Tryz.func22, Tryz.ntmps22
      go_wp2_with fail
      refine (l1In_any r 0 2 _).mono ?_
      rintro e w1 ⟨he, rfl⟩
      rw [C1.out] at he
      subst he
      go_wp2_with fail
      refine (l1In_any (xs.length : Int) 1 3 _).mono ?_
      rintro e w1 ⟨he, rfl⟩
      rw [C2.out] at he
      subst he
      go_wp2
      go_ret
      exact ⟨rfl, B0.out⟩
  · have C1 := Lib.hid (show inB r 0 2 = false by simpa using c1)
    rw [fmtF_no (show fmtOk r xs = false by simp [fmtOk, C1.out])]
    clear c1
    go_enter Tryz.func22, Tryz.ntmps22
    go_wp2_with fail
    refine (l1In_any r 0 2 _).mono ?_
    rintro e w1 ⟨he, rfl⟩
    rw [C1.out] at he
    subst he
    go_wp2
    go_ret
    exact ⟨rfl, B0.out⟩

/-- The table of powers of ten holds, and will while no old memory turns. -/
def TabB (w : World) : Prop := ∀ w', Below w.heap.size w w' → Tab w'
theorem TabB.of {w : World} (h : Tab w) : TabB w := Lib.tabBelow_of_tabIs h
theorem TabB.step {w w' : World} (h : TabB w) (b : Below w.heap.size w w') : TabB w' := fun w2 b2 => h w2 (Go.Proofs.YtigakhkhjjbboaaGreatDoor.step b b2)
theorem impl_FormatFact_r (r : Int) (xs : List Int) (A : Option Addr) (c : Nat) (hl : xs.length ≤ 1048576) (w : World) (h : RI w A xs) (ht : TabB w) :
    Calls Tryz.prog 15 #[.agg #[.int .i64 r, .slice A xs.length c]] w fun e w' => e = .returned (.string (fmtF r xs)) ∧ Below w.heap.size w w' :=
  impl_FormatFact r xs A c hl w h (ht w (Below.refl _ _))
end Go.Proofs.YtigakhkhjjbboaaGreatDoor
